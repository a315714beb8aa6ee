/- Several texts in one: RowC, FibreV, FibreC, FibreD, ShareF, ZumM, ZumN, ZumO, ZumP, ZumQ, FibreE, RowI. -/
import Derived.Test.YtgomokdklajlcaaPk3
import Derived.Test.YtgomokdklajlcaaPk1
import Derived.OpenShut
import Derived.BigRegion
import Derived.Test.YtgomokdklajlcaaPk2
import Derived.Lib.RabinKarpLaws
import Derived.Lib.OwnBridge
/- A struct in a block of its own, whatever its cells. -/
namespace Go.Proofs.Ytgomokdklajlcaa.Rw
open Go.ChangeShapes Go.WideShapes Go.RowKit Go.Lib
set_option linter.unusedVariables false
set_option maxRecDepth 100000

/-- In block g lie the cells us, none frozen. -/
structure Cel (w : World) (g : Nat) (us : List Value) : Prop where
  lt : g < w.heap.size
  at_ : ∀ (j : Nat) (u : Value), us[j]? = some u → w.cell? ⟨g, j, none⟩ = some u
  warm : ∀ (j : Nat), w.frozen? ⟨g, j, none⟩ = false
section
variable {w w' : World} {g : Nat} {us : List Value} {u0 u1 u2 : Value}
theorem Cel.keep (h : Cel w g us) (hs : w.heap.size ≤ w'.heap.size) (hk : w'.heap[g]? = w.heap[g]?) : Cel w' g us :=
  ⟨Nat.lt_of_lt_of_le h.lt hs, fun j u hu => (World.cell?_of_block (a := ⟨g, j, none⟩) hk).trans (h.at_ j u hu), fun j => by
    have := h.warm j
    unfold World.frozen? at *
    simp only at *
    rw [hk]; exact this⟩
theorem Cel.on (h : Cel w g us) (hb : Below w.heap.size w w') : Cel w' g us := h.keep hb.size (hb.block g h.lt)
theorem Cel.below {B : Nat} (h : Cel w g us) (hb : Below B w w') (hg : g < B) : Cel w' g us := h.keep hb.size (hb.block g hg)
theorem Cel.drew (h : Cel w g us) : Cel w.drew g us := h.keep (Nat.le_refl _) rfl
theorem Cel.alloc (h : Cel w g us) (o : Obj) : Cel (w.alloc o) g us := h.on (below_alloc w o)
theorem Cel.off {S : Nat → Prop} (h : Cel w g us) (ho : Off S w w') (hS : ¬ S g) : Cel w' g us := h.keep ho.size (ho.block g h.lt hS)
theorem Cel.grown {row : Option Nat} (h : Cel w g us) (hg : w.grownBy w' row) (hr : row ≠ some g) : Cel w' g us := h.keep hg.size (hg.block g h.lt fun e => hr e.symm)
theorem Cel.far (h : Cel w g us) {p : Addr} (hp : p.block ≠ g) (u : Value) : Cel (w.setCell p u) g us :=
  h.keep (by simp [World.setCell]) (Below.heap_setCell w p u g fun e => hp e.symm)
theorem Cel.new (w : World) (us : List Value) (t : TypeId) : Cel (w.alloc (.cells us.toArray t)) w.heap.size us := by
  have hb := heap_alloc_new w (.cells us.toArray t)
  refine ⟨by simp, fun j u hu => ?_, fun j => frozen_of hb _⟩
  rw [cell_of_row _ _ _ _ _ _ hb]
  simpa using hu
theorem Cel.new_at (w : World) (us : List Value) (t : TypeId) {k : Nat} (hk : w.heap.size = k) : Cel (w.alloc (.cells us.toArray t)) k us := hk ▸ Cel.new w us t
theorem Cel.set (h : Cel w g us) (i : Nat) (x : Value) : Cel (w.setCell ⟨g, i, none⟩ x) g (us.set i x) := by
  refine ⟨by simp [World.setCell]; exact h.lt, fun j u hu => ?_, fun j => by simpa using h.warm j⟩
  by_cases hij : i = j
  · subst hij
    have hl : i < us.length := by
      have := glt hu
      rwa [List.length_set] at this
    rw [List.getElem?_set_self hl] at hu
    cases hu
    exact World.cell?_setCell_same w _ _ (h.at_ i _ (List.getElem?_eq_getElem hl))
  · rw [List.getElem?_set_ne hij] at hu
    rw [World.cell?_setCell_other w _ _ _ (fun e => hij (by cases e; rfl))]
    exact h.at_ j u hu
theorem Cel.two (h : Cel w g [u0, u1]) : w.cell? ⟨g, 0, none⟩ = some u0 ∧ w.cell? ⟨g, 1, none⟩ = some u1 := ⟨h.at_ 0 _ rfl, h.at_ 1 _ rfl⟩
theorem Cel.three (h : Cel w g [u0, u1, u2]) : w.cell? ⟨g, 0, none⟩ = some u0 ∧ w.cell? ⟨g, 1, none⟩ = some u1 ∧ w.cell? ⟨g, 2, none⟩ = some u2 := ⟨h.at_ 0 _ rfl, h.at_ 1 _ rfl, h.at_ 2 _ rfl⟩
theorem Cel.warm2 (h : Cel w g us) : w.frozen? ⟨g, 0, none⟩ = false ∧ w.frozen? ⟨g, 1, none⟩ = false := ⟨h.warm 0, h.warm 1⟩
theorem Cel.warm3 (h : Cel w g us) : w.frozen? ⟨g, 0, none⟩ = false ∧ w.frozen? ⟨g, 1, none⟩ = false ∧ w.frozen? ⟨g, 2, none⟩ = false := ⟨h.warm 0, h.warm 1, h.warm 2⟩
def put2 (w : World) (g : Nat) (x0 x1 : Value) : World := (w.setCell ⟨g, 0, none⟩ x0).setCell ⟨g, 1, none⟩ x1
def put3 (w : World) (g : Nat) (x0 x1 x2 : Value) : World := ((w.setCell ⟨g, 0, none⟩ x0).setCell ⟨g, 1, none⟩ x1).setCell ⟨g, 2, none⟩ x2
theorem Cel.put2 (h : Cel w g [u0, u1]) (x0 x1 : Value) : Cel ((w.setCell ⟨g, 0, none⟩ x0).setCell ⟨g, 1, none⟩ x1) g [x0, x1] := (h.set 0 x0).set 1 x1
theorem Cel.put3 (h : Cel w g [u0, u1, u2]) (x0 x1 x2 : Value) : Cel (((w.setCell ⟨g, 0, none⟩ x0).setCell ⟨g, 1, none⟩ x1).setCell ⟨g, 2, none⟩ x2) g [x0, x1, x2] := ((h.set 0 x0).set 1 x1).set 2 x2
theorem off_put3 (w : World) (g : Nat) (x0 x1 x2 : Value) : Off (fun k => k = g) w (((w.setCell ⟨g, 0, none⟩ x0).setCell ⟨g, 1, none⟩ x1).setCell ⟨g, 2, none⟩ x2) :=
  (((Off.refl (fun k => k = g) w).set (p := ⟨g, 0, none⟩) (Or.inl rfl) _).set (p := ⟨g, 1, none⟩) (Or.inl rfl) _).set (p := ⟨g, 2, none⟩) (Or.inl rfl) _
theorem off_put2 (w : World) (g : Nat) (x0 x1 : Value) : Off (fun k => k = g) w ((w.setCell ⟨g, 0, none⟩ x0).setCell ⟨g, 1, none⟩ x1) :=
  ((Off.refl (fun k => k = g) w).set (p := ⟨g, 0, none⟩) (Or.inl rfl) _).set (p := ⟨g, 1, none⟩) (Or.inl rfl) _
theorem below_put3 {B : Nat} (h : Below B w w') (hg : B ≤ g) (x0 x1 x2 : Value) : Below B w (((w'.setCell ⟨g, 0, none⟩ x0).setCell ⟨g, 1, none⟩ x1).setCell ⟨g, 2, none⟩ x2) :=
  ((h.setCell (p := ⟨g, 0, none⟩) hg _).setCell (p := ⟨g, 1, none⟩) hg _).setCell (p := ⟨g, 2, none⟩) hg _
theorem below_put2 {B : Nat} (h : Below B w w') (hg : B ≤ g) (x0 x1 : Value) : Below B w ((w'.setCell ⟨g, 0, none⟩ x0).setCell ⟨g, 1, none⟩ x1) :=
  (h.setCell (p := ⟨g, 0, none⟩) hg _).setCell (p := ⟨g, 1, none⟩) hg _
/-- An address in a block of one's own or an old one. -/
theorem Rd.off {α : Type} {cs : α → List Value} {s : Nat} {A : Option Addr} {L : List α} {S : Nat → Prop} (h : Rd cs s w A L) (ho : Off S w w') (hS : ∀ b off, A = some ⟨b, off, none⟩ → ¬ S b) : Rd cs s w' A L :=
  h.keep ho.size fun b off e hlt => ho.block b hlt (hS b off e)
end
end Go.Proofs.Ytgomokdklajlcaa.Rw
/- Kinds of fibre in memory; what comes in. -/
namespace Go.Proofs.Ytgomokdklajlcaa.Fibre
open Go.ChangeShapes Go.WideShapes Go.RowKit Go.Lib Go.Joins
open Go.Proofs.Ytgomokdklajlcaa.Rw (Rd glt)
set_option linter.unusedVariables false
set_option maxRecDepth 100000

abbrev TF : TypeId := 43
/-- A kind's cells. -/
abbrev cF (f : Fb) : List Value := [.string f.1, .int .i64 f.2]
theorem cF_len (f : Fb) : (cF f).length = 2 := rfl
abbrev Kds (w : World) (A : Option Addr) (L : List Fb) : Prop := Rd cF 2 w A L
/-- No name is longer than a string can be. -/
def Sz (L : List Fb) : Prop := ∀ f ∈ L, f.1.size ≤ 9223372036854775807
theorem kd_at {w : World} {A : Option Addr} {L : List Fb} (h : Kds w A L) {k : Nat} {f : Fb} (hf : L[k]? = some f) : ∃ b off, A = some ⟨b, off, none⟩ ∧ b < w.heap.size ∧ w.cell? ⟨b, off + k * 2, none⟩ = some (.string f.1) ∧ w.cell? ⟨b, off + k * 2 + 1, none⟩ = some (.int .i64 f.2) := by
  obtain ⟨b, off, e, hlt, hc⟩ := h k f hf
  exact ⟨b, off, e, hlt, hc 0 _ rfl, hc 1 _ rfl⟩

section
variable {H : Type} {enc : TypeId × Value → H} {w : World} {held : Bool}
theorem kinds_of {fuel : Nat} {cs : List Value} {x : DataW H × List MemPlace} (hf : DataW.trod enc Try.prog w 0 (fun _ => true) held fuel 22 cs = some x) :
    ∃ (A : Option Addr) (c : Nat) (L : List Fb), cs = [.slice A L.length c] ∧ Kds w A L ∧ Sz L ∧ L.length ≤ c ∧ L.length ≤ 9223372036854775807 := by
  rcases Deep.open_slice Try.underlying22 hf with ⟨hcs, _⟩ | ⟨a, n, cap, m, k, D, Pl, hcs, _, hl, hm, hmm, _, hel⟩
  · exact ⟨none, 0, [], hcs, Rd.nil _ _ _ _, fun f hf => by simp at hf, Nat.le_refl _, by simp⟩
  · have hmc : m = cap := by simpa using hmm
    subst hmc
    have hC : Try.prog.cellsOf 43 = 2 := by kernel_rfl
    have key : ∀ i, i < n → ∃ s : Fb, ∃ b off, a = ⟨b, off, none⟩ ∧ b < w.heap.size ∧ s.1.size ≤ maxLen ∧ ∀ j u, (cF s)[j]? = some u → w.cell? ⟨b, off + (i * 2 + j), none⟩ = some u := by
      intro i hi
      obtain ⟨cs, hc, ht⟩ := hel i (by omega)
      rw [hC] at hc
      obtain ⟨xs, n', _, _, hlen, hyl, hg⟩ := DataW.trod_struct Try.underlying43 ht
      obtain ⟨_, hcl, hat⟩ := World.cells?_some hc
      obtain ⟨c0, c1, rfl⟩ : ∃ c0 c1, cs = [c0, c1] := by
        match cs, hcl with
        | [c0, c1], _ => exact ⟨c0, c1, rfl⟩
      obtain ⟨y0, y1, rfl⟩ : ∃ y0 y1, xs = [y0, y1] := by
        match xs, hyl with
        | [y0, y1], _ => exact ⟨y0, y1, rfl⟩
      have g0 := hg 0 _ rfl
      have g1 := hg 1 _ rfl
      change DataW.trod enc Try.prog w 0 (fun _ => true) held n' 9 (([c0, c1].drop 0).take (Try.prog.cellsOf 9)) = some y0 at g0
      change DataW.trod enc Try.prog w 0 (fun _ => true) held n' 3 (([c0, c1].drop 1).take (Try.prog.cellsOf 3)) = some y1 at g1
      rw [show Try.prog.cellsOf 9 = 1 by kernel_rfl] at g0
      rw [show Try.prog.cellsOf 3 = 1 by kernel_rfl] at g1
      obtain ⟨x0, f0, _, hsz⟩ := DataW.trod_string Try.underlying9 g0
      obtain ⟨x1, f1, _, _⟩ := DataW.trod_int Try.underlying3 g1
      have e0 : c0 = .string x0 := by simpa using f0
      have e1 : c1 = .int .i64 x1 := by simpa using f1
      clear f0 f1
      subst e0 e1
      obtain ⟨b, off, spot⟩ := a
      have hspot : spot = none := by
        obtain ⟨cs0, hc0, ht0⟩ := hel 0 (by omega)
        rw [hC] at hc0
        obtain ⟨_, hl0, hat0⟩ := World.cells?_some hc0
        match cs0, hl0 with
        | [z0, z1], _ =>
          have h := hat0 0 (by omega)
          have e : ∀ x : Addr, x.add 0 = x := fun x => by unfold Addr.add; rw [if_pos rfl]
          rw [Nat.zero_mul, e, e] at h
          exact World.cell?_spot h
      subst hspot
      have kk : ∀ j, j < 2 → w.cell? ⟨b, off + i * 2 + j, none⟩ = [Value.string x0, Value.int .i64 x1][j]? := fun j hj => by
        have := hat j (by omega)
        rw [Go.WideShapes.add_plain, Go.WideShapes.add_plain] at this
        exact this
      have k0 := kk 0 (by omega)
      refine ⟨(x0, x1), b, off, rfl, World.block_lt_of_cell? w _ k0, hsz, fun j u hu => ?_⟩
      have hj : j < 2 := by have := glt hu; exact this
      rw [← Nat.add_assoc, kk j hj]
      exact hu
    have lists : ∀ n, (∀ i, i < n → ∃ s : Fb, ∃ b off, a = ⟨b, off, none⟩ ∧ b < w.heap.size ∧ s.1.size ≤ maxLen ∧ ∀ j u, (cF s)[j]? = some u → w.cell? ⟨b, off + (i * 2 + j), none⟩ = some u) →
        ∃ L : List Fb, L.length = n ∧ ∀ (i : Nat) (s : Fb), L[i]? = some s → ∃ b off, a = ⟨b, off, none⟩ ∧ b < w.heap.size ∧ s.1.size ≤ maxLen ∧ ∀ j u, (cF s)[j]? = some u → w.cell? ⟨b, off + (i * 2 + j), none⟩ = some u := by
      intro n
      induction n with
      | zero => intro _; exact ⟨[], rfl, fun i s hs => by simp at hs⟩
      | succ n ih =>
        intro h
        obtain ⟨L, hl, hL⟩ := ih fun i hi => h i (by omega)
        obtain ⟨t, ht⟩ := h n (by omega)
        refine ⟨L ++ [t], by simp [hl], fun i u hu => ?_⟩
        have hlt := glt hu
        rw [List.length_append, List.length_singleton] at hlt
        rcases Nat.lt_or_ge i L.length with h1 | h1
        · rw [List.getElem?_append_left h1] at hu; exact hL i u hu
        · obtain rfl : i = n := by omega
          rw [List.getElem?_append_right h1, hl, Nat.sub_self] at hu
          obtain rfl : t = u := by simpa using hu
          exact ht
    obtain ⟨L, rfl, hL⟩ := lists n key
    refine ⟨some a, m, L, hcs, fun k s hk => ?_, fun f hf => ?_, hl, by unfold maxLen at hm; omega⟩
    · obtain ⟨b, off, e, h1, _, h⟩ := hL k s hk
      exact ⟨b, off, by rw [e], h1, h⟩
    · obtain ⟨j, hj⟩ := List.mem_iff_getElem?.mp hf
      obtain ⟨_, _, _, _, h, _⟩ := hL j f hj
      unfold maxLen at h; omega
/-- A slice of kinds that came in. -/
theorem open_kinds {r : Reach} {b0 : Nat} {v : Value} {d : DataW H} {p : List MemPlace} (hv : Value.okWide Try.prog w r b0 22 v) (h : DataW.Trod enc Try.prog w 0 (fun _ => true) held 22 v d p) :
    ∃ (A : Option Addr) (c : Nat) (L : List Fb), v = .slice A L.length c ∧ Kds w A L ∧ Sz L ∧ L.length ≤ c ∧ L.length ≤ 9223372036854775807 := by
  obtain ⟨A, n, c, rfl⟩ := okWide_slice Try.underlying22 hv
  obtain ⟨fuel, hf⟩ := h
  obtain ⟨A', c', L, hcs, h1, h2, h3, h4⟩ := kinds_of hf
  simp [Value.cells] at hcs
  obtain ⟨rfl, rfl, rfl⟩ := hcs
  exact ⟨A, c, L, rfl, h1, h2, h3, h4⟩
end
end Go.Proofs.Ytgomokdklajlcaa.Fibre
/- list, Sum, Recipe, Parts, Total, Same of the reference. -/
namespace Go.Proofs.Ytgomokdklajlcaa.Fibre
open Go.ChangeShapes Go.WideShapes Go.RowKit Go.Lib
open Go.Proofs.Ytgomokdklajlcaa.Mem (Cl eI Own)
open Go.Proofs.Ytgomokdklajlcaa.Rw (glt get_lt ret_bool ret_int wrap_id bstep below_drewN below_drew drew_below)
open Go.Proofs.Ytgomokdklajlcaa.Share (sumK sumK_zero sumK_succ)
set_option linter.unusedVariables false
set_option maxRecDepth 100000

theorem cl_at {w : World} {A : Option Addr} {L : List Int} (h : Cl eI w A L) {k : Nat} {z : Int} (hz : L[k]? = some z) : ∃ b off, A = some ⟨b, off, none⟩ ∧ b < w.heap.size ∧ w.cell? ⟨b, off + k, none⟩ = some (.int .i64 z) := h k z hz
theorem ne_zero {E : Int} (h : ¬ E = 0) : (E == 0) = false ∧ (E != 0) = true := by
  have : (E == 0) = false := beq_false_of_ne h
  exact ⟨this, by rw [bne, this]; rfl⟩
set_option maxHeartbeats 800000 in
theorem rr_list (l : List Int) (A : Option Addr) (n c : Nat) (hn : n = l.length) (kinds most : Int) (w : World) (ha : Cl eI w A l) (hm : n ≤ 9223372036854775807) :
    Calls Try.prog 39 #[.slice A n c, .int .i64 kinds, .int .i64 most] w fun e w' => e = .returned (.int .i64 (lisE l kinds most)) ∧ Below w.heap.size w w' := by
  have HA := Lib.hid ha
  have HN := Lib.hid hn
  obtain ⟨E, hE⟩ : ∃ E, lisE l kinds most = E := ⟨_, rfl⟩
  rw [hE]
  have HE := Lib.hid hE
  clear ha
  rcases Int.lt_or_le kinds 1 with h0 | h0
  · have d0 : decide (kinds < 1) = true := decide_eq_true h0
    obtain rfl : E = 17 := by rw [← hE]; exact lisE_no (Bool.eq_false_iff.mpr fun h => by have := kiB_iff.mp h; omega)
    clear h0 hE hn
    go_enter Try.func39, Try.ntmps39
    go_wp2_with fail
    go_ret
    exact ⟨rfl, Below.refl _ _⟩
  have d0 : decide (kinds < 1) = false := decide_eq_false (by omega)
  rcases Int.lt_or_le 8 kinds with h1 | h1
  · have d1 : decide (8 < kinds) = true := decide_eq_true h1
    obtain rfl : E = 17 := by rw [← hE]; exact lisE_no (Bool.eq_false_iff.mpr fun h => by have := kiB_iff.mp h; omega)
    clear h0 h1 hE hn
    go_enter Try.func39, Try.ntmps39
    go_wp2_with fail
    go_ret
    exact ⟨rfl, Below.refl _ _⟩
  have d1 : decide (8 < kinds) = false := decide_eq_false (by omega)
  by_cases h2 : (n : Int) = kinds
  rotate_left
  · have d2 : ((n : Int) != kinds) = true := by simpa using h2
    have d3 : ((n : Int) == kinds) = false := by simpa using h2
    obtain rfl : E = 17 := by rw [← hE]; exact lisE_no (Bool.eq_false_iff.mpr fun h => by have := kiB_iff.mp h; omega)
    clear h0 h1 h2 hE hn
    go_enter Try.func39, Try.ntmps39
    go_wp2_with fail
    go_ret
    exact ⟨rfl, Below.refl _ _⟩
  have HK : Hid (kiB l kinds = true) := Lib.hid (kiB_iff.mpr ⟨h0, h1, by omega⟩)
  subst h2
  have d2 : ((n : Int) != (n : Int)) = false := by simp
  have d3 : ((n : Int) == (n : Int)) = true := by simp
  clear h0 h1 hE hn
  go_enter Try.func39, Try.ntmps39
  go_wp2_with fail
  go_loopw [7] (fun i wr => ∃ k : Nat, k ≤ n ∧ i = .int .i64 k ∧ (∀ (j : Nat) (z : Int), j < k → l[j]? = some z → inM most z = true) ∧ Below w.heap.size w wr) (fun i _ => n - (RowKit.intOf i).toNat)
  case atStart => exact ⟨0, Nat.zero_le _, rfl, fun j z h => absurd h (by omega), Below.refl _ _⟩
  case round =>
    obtain ⟨k, hk, rfl, hv, hbel⟩ := hrel
    have HV := Lib.hid hv
    have HB := Lib.hid hbel
    clear hv hbel
    rcases Nat.lt_or_ge k n with hlt | hge
    · obtain ⟨z, hz⟩ := get_lt (L := l) (k := k) (by have := HN.out; omega)
      obtain ⟨b, off, rfl, hb, e0⟩ := cl_at (HA.out.on HB.out) hz
      have HZ := Lib.hid hz
      have i1 : (k : Int) < (n : Int) := by omega
      have i2 : (0 : Int) ≤ (k : Int) := by omega
      clear hz
      rcases Int.lt_or_le z 0 with h0 | h0
      · have t0 : decide (z < 0) = true := decide_eq_true h0
        obtain rfl : E = 1 := by rw [← HE.out]; exact lisE_bad HK.out HZ.out (Bool.eq_false_iff.mpr fun h => by have := inM_iff.mp h; omega)
        clear h0
        go_wp2_with fail
        go_ret
        exact ⟨rfl, HB.out⟩
      have t0 : decide (z < 0) = false := decide_eq_false (by omega)
      rcases Int.lt_or_le most z with h1 | h1
      · have t1 : decide (most < z) = true := decide_eq_true h1
        obtain rfl : E = 1 := by rw [← HE.out]; exact lisE_bad HK.out HZ.out (Bool.eq_false_iff.mpr fun h => by have := inM_iff.mp h; omega)
        clear h0 h1
        go_wp2_with fail
        go_ret
        exact ⟨rfl, HB.out⟩
      have t1 : decide (most < z) = false := decide_eq_false (by omega)
      have HI : Hid (inM most z = true) := Lib.hid (inM_iff.mpr ⟨h0, h1⟩)
      clear h0 h1
      go_wp2_with fail
      go_roundw
      case rel =>
        refine ⟨k + 1, by omega, by go_num, ?_, HB.out⟩
        intro j y hj hy
        rcases Nat.lt_or_eq_of_le (Nat.le_of_lt_succ hj) with h | h
        · exact HV.out j y h hy
        · subst h
          have e := HZ.out
          rw [hy] at e; cases e; exact HI.out
      case measure => simp [RowKit.intOf]; omega
    · obtain rfl : k = n := by omega
      obtain rfl : E = 0 := by rw [← HE.out]; exact lisE_ok HK.out fun j z hz => HV.out j z (by rw [HN.out]; exact glt hz) hz
      go_wp2_with fail
      go_ret
      exact ⟨rfl, HB.out⟩

set_option maxHeartbeats 800000 in
theorem rr_Sum (l : List Int) (A : Option Addr) (n c : Nat) (hn : n = l.length) (w : World) (ha : Cl eI w A l) (hl : n ≤ 8) (hz : ∀ z ∈ l, 0 ≤ z ∧ z ≤ MM) :
    Calls Try.prog 40 #[.slice A n c] w fun e w' => e = .returned (.int .i64 (sumZ l)) ∧ Below w.heap.size w w' := by
  have HA := Lib.hid ha
  have HN := Lib.hid hn
  have HL := Lib.hid (sumK_lim hz)
  have HF : Hid (sumZ l = sumK l n) := Lib.hid (by unfold sumZ; rw [hn])
  clear ha hz hn
  go_enter Try.func40, Try.ntmps40
  go_wp2_with fail
  go_loopw [3, 4] (fun s i wr => ∃ (k : Nat) (S : Int), k ≤ n ∧ i = .int .i64 k ∧ s = .int .i64 S ∧ S = sumK l k ∧ Below w.heap.size w wr) (fun _ i _ => n - (RowKit.intOf i).toNat)
  case atStart => exact ⟨0, 0, Nat.zero_le _, rfl, rfl, rfl, Below.refl _ _⟩
  case round =>
    obtain ⟨k, S, hk, rfl, rfl, hS, hbel⟩ := hrel
    have HS := Lib.hid hS
    have HB := Lib.hid hbel
    clear hS hbel
    rcases Nat.lt_or_ge k n with hlt | hge
    · obtain ⟨z, hz⟩ := get_lt (L := l) (k := k) (by have := HN.out; omega)
      obtain ⟨b, off, rfl, hb, e0⟩ := cl_at (HA.out.on HB.out) hz
      have HZ := Lib.hid hz
      have i1 : (k : Int) < (n : Int) := by omega
      have i2 : (0 : Int) ≤ (k : Int) := by omega
      obtain ⟨S2, hS2⟩ : ∃ S2, sumK l (k + 1) = S2 := ⟨_, rfl⟩
      have hl1 := HL.out (k + 1) (by have := HN.out; omega)
      have he := sumK_succ hz
      rw [hS2, ← HS.out] at he
      rw [hS2] at hl1
      have hM : MM = 1099511627776 := rfl
      have wS : IntKind.i64.wrap S2 = S2 := wrap_id (by rw [hM] at hl1; omega)
      have hs : S + z = S2 := he.symm
      have HS2 := Lib.hid hS2
      clear hz hS2 hl1 he hM
      go_wp2_with fail
      go_roundw
      case rel => exact ⟨k + 1, S2, by omega, by go_num, rfl, HS2.out.symm, HB.out⟩
      case measure => simp [RowKit.intOf]; omega
    · obtain rfl : k = n := by omega
      have HV : Hid (S = sumZ l) := Lib.hid (by rw [HS.out, HF.out])
      go_wp2_with fail
      go_ret
      exact ⟨ret_int HV.out, HB.out⟩

set_option maxHeartbeats 800000 in
theorem rr_Recipe (r : List Int) (A : Option Addr) (n c : Nat) (hn : n = r.length) (kinds : Int) (w : World) (ha : Cl eI w A r) (hm : n ≤ 9223372036854775807) :
    Calls Try.prog 17 #[.slice A n c, .int .i64 kinds] w fun e w' => e = .returned (.int .i64 (recE r kinds)) ∧ Below w.heap.size w w' := by
  have HA := Lib.hid ha
  have HL := Lib.hid (rr_list r A n c hn kinds 1000 w ha hm)
  obtain ⟨F, hF⟩ : ∃ F, lisE r kinds 1000 = F := ⟨_, rfl⟩
  rw [hF] at HL
  by_cases hz : F = 0
  rotate_left
  · obtain ⟨z1, z2⟩ := ne_zero hz
    have he : recE r kinds = F := by unfold recE; rw [hF, if_neg hz]
    rw [he]
    clear ha hn hF hz he
    go_enter Try.func17, Try.ntmps17
    go_wp2_with fail
    refine HL.out.mono ?_
    rintro e w1 ⟨rfl, hb⟩
    have B1 := Lib.hid hb
    clear hb
    go_wp2_with fail
    go_ret
    exact ⟨rfl, B1.out⟩
  subst hz
  obtain ⟨h1, h2, h3, h4⟩ := lisE_of hF
  have HS := Lib.hid fun (W : World) (h : Cl eI W A r) => rr_Sum r A n c hn W h (by omega) fun z hz => by have := h4 z hz; have hM : MM = 1099511627776 := rfl; omega
  obtain ⟨S, hS⟩ : ∃ S, sumZ r = S := ⟨_, rfl⟩
  rw [hS] at HS
  have he : recE r kinds = if S = 1000 then 0 else 18 := by unfold recE; rw [hF, if_pos rfl, hS]
  rw [he]
  clear ha hn hF h1 h2 h3 h4 hS he
  by_cases hs : S = 1000
  · subst hs
    rw [if_pos rfl]
    go_enter Try.func17, Try.ntmps17
    go_wp2_with fail
    refine HL.out.mono ?_
    rintro e w1 ⟨rfl, hb⟩
    have B1 := Lib.hid hb
    clear hb
    go_wp2_with fail
    refine (HS.out w1 (HA.out.on B1.out)).mono ?_
    rintro e w2 ⟨rfl, hb⟩
    have B2 := Lib.hid (bstep B1.out hb)
    clear hb
    go_wp2_with fail
    go_ret
    exact ⟨rfl, B2.out⟩
  · have s1 : (S == 1000) = false := beq_false_of_ne hs
    have s2 : (S != 1000) = true := by rw [bne, s1]; rfl
    rw [if_neg hs]
    clear hs
    go_enter Try.func17, Try.ntmps17
    go_wp2_with fail
    refine HL.out.mono ?_
    rintro e w1 ⟨rfl, hb⟩
    have B1 := Lib.hid hb
    clear hb
    go_wp2_with fail
    refine (HS.out w1 (HA.out.on B1.out)).mono ?_
    rintro e w2 ⟨rfl, hb⟩
    have B2 := Lib.hid (bstep B1.out hb)
    clear hb
    go_wp2_with fail
    go_ret
    exact ⟨rfl, B2.out⟩

theorem rr_Parts (m : List Int) (A : Option Addr) (n c : Nat) (hn : n = m.length) (kinds : Int) (w : World) (ha : Cl eI w A m) (hm : n ≤ 9223372036854775807) :
    Calls Try.prog 19 #[.slice A n c, .int .i64 kinds] w fun e w' => e = .returned (.int .i64 (parE m kinds)) ∧ Below w.heap.size w w' := by
  have HL := Lib.hid (rr_list m A n c hn kinds MM w ha hm)
  clear ha hn
  go_enter Try.func19, Try.ntmps19
  go_wp2_with fail
  refine HL.out.mono ?_
  rintro e w1 ⟨rfl, hb⟩
  have B1 := Lib.hid hb
  clear hb
  go_wp2_with fail
  go_ret
  exact ⟨rfl, B1.out⟩

set_option maxHeartbeats 800000 in
theorem rr_Total (m : List Int) (A : Option Addr) (n c : Nat) (hn : n = m.length) (w : World) (ha : Cl eI w A m) (hm : n ≤ 9223372036854775807) :
    Calls Try.prog 23 #[.slice A n c] w fun e w' => e = .returned (.tuple #[.int .i64 (totV m), .int .i64 (totE m)]) ∧ Below w.heap.size w w' := by
  have HA := Lib.hid ha
  have HP := Lib.hid (rr_Parts m A n c hn n w ha hm)
  have hlen : lenI m = (n : Int) := by unfold lenI; rw [hn]
  obtain ⟨F, hF⟩ : ∃ F, totE m = F := ⟨_, rfl⟩
  have hF2 : parE m (n : Int) = F := by rw [← hF]; unfold totE; rw [hlen]
  rw [hF2] at HP
  rw [hF]
  by_cases hz : F = 0
  rotate_left
  · obtain ⟨z1, z2⟩ := ne_zero hz
    have he : totV m = 0 := by unfold totV; rw [hF, if_neg hz]
    rw [he]
    clear ha hn hF hF2 hz he hlen
    go_enter Try.func23, Try.ntmps23
    go_wp2_with fail
    refine HP.out.mono ?_
    rintro e w1 ⟨rfl, hb⟩
    have B1 := Lib.hid hb
    clear hb
    go_wp2_with fail
    go_ret2
    exact ⟨rfl, B1.out⟩
  subst hz
  obtain ⟨h1, h2, h3, h4⟩ := lisE_of hF2
  have HS := Lib.hid fun (W : World) (h : Cl eI W A m) => rr_Sum m A n c hn W h (by omega) h4
  have he : totV m = sumZ m := by unfold totV; rw [hF, if_pos rfl]
  rw [he]
  obtain ⟨S, hS⟩ : ∃ S, sumZ m = S := ⟨_, rfl⟩
  rw [hS] at HS
  rw [hS]
  clear ha hn hF hF2 h1 h2 h3 h4 hS he hlen
  go_enter Try.func23, Try.ntmps23
  go_wp2_with fail
  refine HP.out.mono ?_
  rintro e w1 ⟨rfl, hb⟩
  have B1 := Lib.hid hb
  clear hb
  go_wp2_with fail
  refine (HS.out w1 (HA.out.on B1.out)).mono ?_
  rintro e w2 ⟨rfl, hb⟩
  have B2 := Lib.hid (bstep B1.out hb)
  clear hb
  go_wp2_with fail
  go_ret2
  exact ⟨rfl, B2.out⟩

set_option maxHeartbeats 800000 in
theorem rr_Same (L M : List Int) (A B : Option Addr) (c d n n' : Nat) (hn : n = L.length) (hn' : n' = M.length) (w : World) (ha : Cl eI w A L) (hb : Cl eI w B M) (hm : n ≤ 9223372036854775807) (hm2 : n' ≤ 9223372036854775807) :
    Calls Try.prog 24 #[.slice A n c, .slice B n' d] w fun e w' => e = .returned (.bool (decide (L = M))) ∧ Below w.heap.size w w' := by
  have HA := Lib.hid ha
  have HB := Lib.hid hb
  have HN := Lib.hid hn
  have HN' := Lib.hid hn'
  clear ha hb
  by_cases hl : n = n'
  · subst hl
    have HL : Hid (L.length = M.length) := hn.symm.trans hn'
    have hl' : ((n : Int) == (n : Int)) = true := by simp
    have hl2 : ((n : Int) != (n : Int)) = false := by simp
    clear hn hn'
    go_enter Try.func24, Try.ntmps24
    go_wp2_with fail
    go_loopw [5] (fun i wr => ∃ k : Nat, k ≤ n ∧ i = .int .i64 k ∧ (∀ (j : Nat) (s t : Int), j < k → L[j]? = some s → M[j]? = some t → s = t) ∧ Below w.heap.size w wr) (fun i _ => n - (RowKit.intOf i).toNat)
    case atStart => exact ⟨0, Nat.zero_le _, rfl, fun j s t h => absurd h (by omega), Below.refl _ _⟩
    case round =>
      obtain ⟨k, hk, rfl, hv, hbel⟩ := hrel
      have HV := Lib.hid hv
      have HW := Lib.hid hbel
      clear hv hbel
      rcases Nat.lt_or_ge k n with hlt | hge
      · obtain ⟨s, hs⟩ := get_lt (L := L) (k := k) (by have := HN.out; omega)
        obtain ⟨t, ht⟩ := get_lt (L := M) (k := k) (by have := HN'.out; omega)
        obtain ⟨b1, off1, hA0, hb1, h0⟩ := cl_at (HA.out.on HW.out) hs
        obtain ⟨b2, off2, hB0, hb2, h3⟩ := cl_at (HB.out.on HW.out) ht
        subst hA0
        subst hB0
        have HS := Lib.hid hs
        have HT := Lib.hid ht
        have i1 : (k : Int) < (n : Int) := by omega
        have i2 : (0 : Int) ≤ (k : Int) := by omega
        clear hs ht
        by_cases e : s = t
        · have hq : (s != t) = false := by simpa using e
          have hq2 : (s == t) = true := by simpa using e
          have E := Lib.hid e
          clear e
          go_wp2_with fail
          go_quiet (fail)
          go_wp2_with fail
          go_roundw
          case rel =>
            refine ⟨k + 1, by omega, by go_num, ?_, below_drewN HW.out _⟩
            intro j u v hj hu hv
            rcases Nat.lt_or_eq_of_le (Nat.le_of_lt_succ hj) with h | h
            · exact HV.out j u v h hu hv
            · subst h
              have e1 := HS.out
              have e2 := HT.out
              rw [hu] at e1; rw [hv] at e2; cases e1; cases e2; exact E.out
          case measure => simp [RowKit.intOf]; omega
        · have hq : (s != t) = true := by simpa using e
          have hq2 : (s == t) = false := by simpa using e
          have E : Hid (decide (L = M) = false) := decide_eq_false fun h => by
            subst h
            have e1 := HS.out
            rw [HT.out] at e1; exact e (Option.some.inj e1).symm
          clear e
          go_wp2_with fail
          go_quiet (fail)
          go_wp2_with fail
          go_ret
          exact ⟨ret_bool E.out.symm, below_drewN HW.out _⟩
      · obtain rfl : k = n := by omega
        have E : Hid (decide (L = M) = true) := decide_eq_true (by
          apply List.ext_getElem HL.out
          intro j h1 h2
          exact HV.out j _ _ (by have := HN.out; omega) (List.getElem?_eq_getElem h1) (List.getElem?_eq_getElem h2))
        go_wp2_with fail
        go_ret
        exact ⟨ret_bool E.out.symm, HW.out⟩
  · have hl' : ((n : Int) == (n' : Int)) = false := beq_false_of_ne (by omega)
    have hl2 : ((n : Int) != (n' : Int)) = true := by simp; omega
    have E : Hid (decide (L = M) = false) := decide_eq_false fun h => hl (by rw [hn, hn', h])
    clear hl hn hn'
    go_enter Try.func24, Try.ntmps24
    go_wp2_with fail
    go_ret
    exact ⟨ret_bool E.out.symm, Below.refl _ _⟩
end Go.Proofs.Ytgomokdklajlcaa.Fibre
/- Check of the reference. -/
namespace Go.Proofs.Ytgomokdklajlcaa.Fibre
open Go.ChangeShapes Go.WideShapes Go.RowKit Go.Lib
open Go.Proofs.Ytgomokdklajlcaa.Mem (Cl eI Own)
open Go.Proofs.Ytgomokdklajlcaa.Rw (glt get_lt ret_bool ret_int wrap_id bstep below_drewN below_drew drew_below)
open Go.Proofs.Ytgomokdklajlcaa.Ident (validB str_ext)
set_option linter.unusedVariables false
set_option maxRecDepth 100000

theorem str_eq {a b : ByteArray} : (a.toList == b.toList) = decide (a = b) := by
  rw [ByteArray.toList_eq, ByteArray.toList_eq]
  by_cases h : a = b
  · rw [decide_eq_true h, h]; simp
  · rw [decide_eq_false h]
    have : ¬ a.data.toList = b.data.toList := fun e => h (str_ext e)
    simpa using this
theorem str_yes {a b : ByteArray} (h : a = b) : (a.toList == b.toList) = true := by rw [str_eq, decide_eq_true h]
theorem str_no {a b : ByteArray} (h : ¬ a = b) : (a.toList == b.toList) = false := by rw [str_eq, decide_eq_false h]
theorem elE_name {f : Fb} (h : validB f.1 = false) : elE f = 5 := by unfold elE; rw [h]; rfl
theorem elE_cost {f : Fb} (h : validB f.1 = true) (h2 : inM 1000000000 f.2 = false) : elE f = 1 := by unfold elE; rw [h, h2]; rfl
theorem elE_ok {f : Fb} (h : validB f.1 = true) (h2 : inM 1000000000 f.2 = true) : elE f = 0 := by unfold elE; rw [h, h2]; rfl
theorem chkE_el {l : List Fb} (h0 : ¬ l.length = 0) (h8 : ¬ 8 < l.length) {k : Nat} {f : Fb} (hf : l[k]? = some f) (hb : ¬ elE f = 0) (ha : ∀ (j : Nat) (g : Fb), j < k → l[j]? = some g → elE g = 0) : chkE l = elE f := by
  unfold chkE
  have h := firE_bad hf hb ha
  rw [if_neg h0, if_neg h8, h, if_neg hb]
theorem chkE_tw {l : List Fb} (h0 : ¬ l.length = 0) (h8 : ¬ 8 < l.length) (hf : firE l = 0) {i k : Nat} {f g : Fb} (hk : k < i) (h1 : l[i]? = some f) (h2 : l[k]? = some g) (e : f.1 = g.1) : chkE l = 6 := by
  unfold chkE
  rw [if_neg h0, if_neg h8, if_pos hf, if_pos (twB_iff.mpr ⟨i, k, f, g, hk, h1, h2, e⟩)]
theorem chkE_ok {l : List Fb} (h0 : ¬ l.length = 0) (h8 : ¬ 8 < l.length) (hf : firE l = 0) (h : ∀ (i k : Nat) (f g : Fb), k < i → l[i]? = some f → l[k]? = some g → ¬ f.1 = g.1) : chkE l = 0 := by
  unfold chkE
  rw [if_neg h0, if_neg h8, if_pos hf, if_neg (by rw [twB_no h]; decide)]
set_option maxHeartbeats 1600000 in
theorem rr_Check (l : List Fb) (A : Option Addr) (n c : Nat) (hn : n = l.length) (w : World) (ha : Kds w A l) (hz : Sz l) (hm : n ≤ 9223372036854775807) :
    Calls Try.prog 14 #[.slice A n c] w fun e w' => e = .returned (.int .i64 (chkE l)) ∧ Below w.heap.size w w' := by
  have HA := Lib.hid ha
  have HN := Lib.hid hn
  have HZ := Lib.hid hz
  obtain ⟨E, hE⟩ : ∃ E, chkE l = E := ⟨_, rfl⟩
  rw [hE]
  have HE := Lib.hid hE
  clear ha hz
  by_cases h0 : n = 0
  · subst h0
    obtain rfl : E = 10 := by rw [← hE]; unfold chkE; rw [if_pos hn.symm]
    clear hE hn
    go_enter Try.func14, Try.ntmps14
    go_wp2_with fail
    go_ret
    exact ⟨rfl, Below.refl _ _⟩
  have e0 : ((n : Int) == 0) = false := beq_false_of_ne (by omega)
  have e0' : ¬ (n : Int) = 0 := by omega
  by_cases h8 : 8 < n
  · have e8 : decide ((8 : Int) < (n : Int)) = true := decide_eq_true (by omega)
    obtain rfl : E = 8 := by rw [← hE]; unfold chkE; rw [if_neg (by omega), if_pos (by omega)]
    clear hE hn h0
    go_enter Try.func14, Try.ntmps14
    go_wp2_with fail
    go_ret
    exact ⟨rfl, Below.refl _ _⟩
  have e8 : decide ((8 : Int) < (n : Int)) = false := decide_eq_false (by omega)
  have H0 : Hid (¬ l.length = 0) := Lib.hid (by omega)
  have H8 : Hid (¬ 8 < l.length) := Lib.hid (by omega)
  clear hE hn h0
  go_enter Try.func14, Try.ntmps14
  go_wp2_with fail
  go_loopw [3] (fun i wr => ∃ k : Nat, k ≤ n ∧ i = .int .i64 k ∧ (∀ (j : Nat) (g : Fb), j < k → l[j]? = some g → elE g = 0) ∧ Below w.heap.size w wr) (fun i _ => n - (RowKit.intOf i).toNat)
  case atStart => exact ⟨0, Nat.zero_le _, rfl, fun j g h => absurd h (by omega), Below.refl _ _⟩
  case round =>
    obtain ⟨k, hk, rfl, hv, hbel⟩ := hrel
    have HV := Lib.hid hv
    have HB := Lib.hid hbel
    clear hv hbel
    rcases Nat.lt_or_ge k n with hlt | hge
    · obtain ⟨f, hf⟩ := get_lt (L := l) (k := k) (by have := HN.out; omega)
      obtain ⟨b, off, rfl, hb, c0, c1⟩ := kd_at (HA.out.on HB.out) hf
      have HF := Lib.hid hf
      have i1 : (k : Int) < (n : Int) := by omega
      have i2 : (0 : Int) ≤ (k : Int) := by omega
      have hsz := HZ.out f (List.mem_of_getElem? hf)
      clear hf
      cases hv : validB f.1 with
      | false =>
        have HC := Lib.hid (rrn_is hv hsz wr)
        obtain rfl : E = 5 := by rw [← HE.out, chkE_el H0.out H8.out HF.out (by rw [elE_name hv]; decide) HV.out, elE_name hv]
        clear hv hsz
        go_wp2_with fail
        refine HC.out.mono ?_
        rintro e w' ⟨rfl, rfl⟩
        go_wp2_with fail
        go_ret
        exact ⟨rfl, HB.out⟩
      | true =>
        have HC := Lib.hid (rrn_is hv hsz wr)
        have HVl := Lib.hid hv
        clear hv hsz
        rcases Int.lt_or_le f.2 0 with h0 | h0
        · have t0 : decide (f.2 < 0) = true := decide_eq_true h0
          have hc : inM 1000000000 f.2 = false := Bool.eq_false_iff.mpr fun h => by have := inM_iff.mp h; omega
          obtain rfl : E = 1 := by rw [← HE.out, chkE_el H0.out H8.out HF.out (by rw [elE_cost HVl.out hc]; decide) HV.out, elE_cost HVl.out hc]
          clear h0 hc
          go_wp2_with fail
          refine HC.out.mono ?_
          rintro e w' ⟨rfl, rfl⟩
          go_wp2_with fail
          go_ret
          exact ⟨rfl, HB.out⟩
        have t0 : decide (f.2 < 0) = false := decide_eq_false (by omega)
        rcases Int.lt_or_le 1000000000 f.2 with h1 | h1
        · have t1 : decide (1000000000 < f.2) = true := decide_eq_true h1
          have hc : inM 1000000000 f.2 = false := Bool.eq_false_iff.mpr fun h => by have := inM_iff.mp h; omega
          obtain rfl : E = 1 := by rw [← HE.out, chkE_el H0.out H8.out HF.out (by rw [elE_cost HVl.out hc]; decide) HV.out, elE_cost HVl.out hc]
          clear h0 h1 hc
          go_wp2_with fail
          refine HC.out.mono ?_
          rintro e w' ⟨rfl, rfl⟩
          go_wp2_with fail
          go_ret
          exact ⟨rfl, HB.out⟩
        have t1 : decide (1000000000 < f.2) = false := decide_eq_false (by omega)
        have HO := Lib.hid (elE_ok HVl.out (inM_iff.mpr ⟨h0, h1⟩))
        clear h0 h1
        go_wp2_with fail
        refine HC.out.mono ?_
        rintro e w' ⟨rfl, rfl⟩
        go_wp2_with fail
        go_roundw
        case rel =>
          refine ⟨k + 1, by omega, by go_num, ?_, HB.out⟩
          intro j g hj hg
          rcases Nat.lt_or_eq_of_le (Nat.le_of_lt_succ hj) with h | h
          · exact HV.out j g h hg
          · subst h
            have e := HF.out
            rw [hg] at e; cases e; exact HO.out
        case measure => simp [RowKit.intOf]; omega
    · obtain rfl : k = n := by omega
      have HFir : Hid (firE l = 0) := Lib.hid (firE_ok fun j g hg => HV.out j g (by rw [HN.out]; exact glt hg) hg)
      clear HV
      obtain ⟨w1, rfl⟩ : ∃ W, W = wr := ⟨wr, rfl⟩
      go_wp2_with fail
      go_loopw [4, 5] (fun i _ wr => ∃ k' : Nat, k' ≤ k ∧ i = .int .i64 k' ∧ (∀ (i j : Nat) (f g : Fb), i < k' → j < i → l[i]? = some f → l[j]? = some g → ¬ f.1 = g.1) ∧ Below w1.heap.size w1 wr) (fun i _ _ => k - (RowKit.intOf i).toNat)
      case atStart => exact ⟨0, Nat.zero_le _, rfl, fun i j f g h => absurd h (by omega), Below.refl _ _⟩
      case round =>
        obtain ⟨i, hi, rfl, hv, hbel⟩ := hrel
        have HP := Lib.hid hv
        have HB2 := Lib.hid hbel
        clear hv hbel
        rcases Nat.lt_or_ge i k with hlt | hge2
        · obtain ⟨f, hf⟩ := get_lt (L := l) (k := i) (by have := HN.out; omega)
          have HF := Lib.hid hf
          have i1 : (i : Int) < (k : Int) := by omega
          have i2 : (0 : Int) ≤ (i : Int) := by omega
          clear hf
          obtain ⟨w2, rfl⟩ : ∃ W, W = wr := ⟨wr, rfl⟩
          go_wp2_with fail
          go_loopw [5] (fun x wr => ∃ t : Nat, t ≤ i ∧ x = .int .i64 t ∧ (∀ (j : Nat) (g : Fb), j < t → l[j]? = some g → ¬ f.1 = g.1) ∧ Below w2.heap.size w2 wr) (fun x _ => i - (RowKit.intOf x).toNat)
          case atStart => exact ⟨0, Nat.zero_le _, rfl, fun j g h => absurd h (by omega), Below.refl _ _⟩
          case round =>
            obtain ⟨t, ht, rfl, hv, hbel⟩ := hrel
            have HQ := Lib.hid hv
            have HB3 := Lib.hid hbel
            clear hv hbel
            rcases Nat.lt_or_ge t i with hlt2 | hge3
            · obtain ⟨g, hg⟩ := get_lt (L := l) (k := t) (by have := HN.out; omega)
              obtain ⟨b, off, hA0, hb, c0, -⟩ := kd_at (((HA.out.on HB.out).on HB2.out).on HB3.out) HF.out
              obtain ⟨b', off', hA1, hb', d0, -⟩ := kd_at (((HA.out.on HB.out).on HB2.out).on HB3.out) hg
              subst hA0
              cases hA1
              have HG := Lib.hid hg
              have j1 : (t : Int) < (i : Int) := by omega
              have j2 : (0 : Int) ≤ (t : Int) := by omega
              have j3 : (t : Int) < (k : Int) := by omega
              clear hg
              by_cases e : f.1 = g.1
              · have he := str_yes e
                obtain rfl : E = 6 := by rw [← HE.out]; exact chkE_tw H0.out H8.out HFir.out hlt2 HF.out HG.out e
                clear e
                go_wp2_with fail
                go_quiet (fail)
                go_wp2_with fail
                go_ret
                exact ⟨rfl, HB.out.trans (below_drewN ((HB2.out.trans (HB3.out.mono HB2.out.size)).mono HB.out.size) _)⟩
              · have he := str_no e
                have HD := Lib.hid e
                clear e
                go_wp2_with fail
                go_quiet (fail)
                go_wp2_with fail
                go_roundw
                case rel =>
                  refine ⟨t + 1, by omega, by go_num, ?_, below_drewN HB3.out _⟩
                  intro j y hj hy
                  rcases Nat.lt_or_eq_of_le (Nat.le_of_lt_succ hj) with h | h
                  · exact HQ.out j y h hy
                  · subst h
                    have e := HG.out
                    rw [hy] at e; cases e; exact HD.out
                case measure => simp [RowKit.intOf]; omega
            · obtain rfl : t = i := by omega
              have HNx : Hid (∀ (i j : Nat) (f g : Fb), i < t + 1 → j < i → l[i]? = some f → l[j]? = some g → ¬ f.1 = g.1) := Lib.hid (by
                intro a j x y ha hj hx hy
                rcases Nat.lt_or_eq_of_le (Nat.le_of_lt_succ ha) with h | h
                · exact HP.out a j x y h hj hx hy
                · subst h
                  have e := HF.out
                  rw [hx] at e; cases e
                  exact HQ.out j y hj hy)
              go_wp2_with fail
              go_roundw
              case rel => exact ⟨t + 1, by omega, by go_num, HNx.out, HB2.out.trans (HB3.out.mono HB2.out.size)⟩
              case measure => simp [RowKit.intOf]; omega
        · obtain rfl : i = k := by omega
          obtain rfl : E = 0 := by rw [← HE.out]; exact chkE_ok H0.out H8.out HFir.out fun a j f g hj hf hg => HP.out a j f g (by rw [HN.out]; exact glt hf) hj hf hg
          go_wp2_with fail
          go_ret
          exact ⟨rfl, HB.out.trans (HB2.out.mono HB.out.size)⟩
end Go.Proofs.Ytgomokdklajlcaa.Fibre
/- share.Split: the walk. -/
namespace Go.Proofs.Ytgomokdklajlcaa.Share
open Go.ChangeShapes Go.WideShapes Go.RowKit Go.Lib Go.Proofs.Ytgomokdklajlcaa.Mem
set_option linter.unusedVariables false
set_option maxRecDepth 100000

theorem lst_zero (n : Nat) : List.replicate n (0 : Int) = lst (fun _ => 0) n := by unfold lst; rw [List.map_const', List.length_range]
abbrev zeros (n : Nat) : Obj := .cells (madeCells #[.int .i64 0] n) 3
theorem one_made (w : World) (n : Nat) (hn : n ≤ 100000) : Own eI 3 w.heap.size (w.alloc (zeros n)) (.slice (some ⟨w.heap.size, 0, none⟩) n n) (lst (fun _ => 0) n) := by
  have h1 := own_made eI 3 w n 0 hn
  rw [lst_zero] at h1
  exact h1
theorem two_made (w : World) (n : Nat) (hn : n ≤ 100000) : Own eI 3 w.heap.size ((w.alloc (zeros n)).alloc (zeros n)).drew (.slice (some ⟨w.heap.size, 0, none⟩) n n) (lst (fun _ => 0) n) ∧
    Own eI 3 w.heap.size ((w.alloc (zeros n)).alloc (zeros n)).drew (.slice (some ⟨w.heap.size + 1, 0, none⟩) n n) (lst (fun _ => 0) n) ∧ Below w.heap.size w ((w.alloc (zeros n)).alloc (zeros n)).drew := by
  have h1 := one_made w n hn
  have h2 := one_made (w.alloc (zeros n)) n hn
  have hs : (w.alloc (zeros n)).heap.size = w.heap.size + 1 := by simp
  rw [hs] at h2
  exact ⟨(h1.alloc _).drew, (h2.less (by omega)).drew, below_drew (bstep (below_alloc _ _) (below_alloc _ _))⟩
/-- The list with its first k values. -/
def upL (f : Nat → Nat) (k n : Nat) : List Int := lst (fun j => if j < k then (f j : Int) else 0) n
theorem upL_len (f : Nat → Nat) (k n : Nat) : (upL f k n).length = n := lst_len _ _
theorem upL_zero (f : Nat → Nat) (n : Nat) : upL f 0 n = lst (fun _ => 0) n := by unfold upL; exact lst_congr fun i _ => by simp
theorem upL_at (f : Nat → Nat) {k n : Nat} (h : k < n) : (upL f k n)[k]? = some 0 := by
  unfold upL; rw [lst_at _ h, if_neg (Nat.lt_irrefl k)]
theorem upL_set (f : Nat → Nat) {k n : Nat} (h : k < n) : (upL f k n).set k (f k : Int) = upL f (k + 1) n := by
  unfold upL
  exact lst_set h fun i hi => by
    by_cases h1 : i = k
    · subst h1; simp
    · rw [if_neg h1]
      by_cases h2 : i < k
      · rw [if_pos (by omega), if_pos h2]
      · rw [if_neg (by omega), if_neg h2]
theorem upL_all (f : Nat → Nat) (n : Nat) : upL f n n = lst (fun j => (f j : Int)) n := lst_congr fun i hi => if_pos hi

set_option maxHeartbeats 3200000 in
theorem share_split (t : Int) (ws : List Int) (A : Option Addr) (c : Nat) (w : World) (hS : Cl eI w A ws) (hl : ws.length ≤ 9223372036854775807) :
    Calls Try.prog 42 #[.int .i64 t, .slice A ws.length c] w (ResL (splL t ws) (errS t ws) w) := by
  have HDIV := Lib.hid (share_divisor t ws A c w hS hl)
  by_cases hE : errS t ws = 0
  · obtain ⟨W, hW, hW0, hW1, hwW, -, hqr, -⟩ := dvV_ok hE
    have ok := Ok.of hE
    obtain ⟨T, hT⟩ : ∃ T : Nat, T = t.toNat := ⟨_, rfl⟩
    have ht : t = (T : Int) := by have := ok.t0; omega
    have hTm : T ≤ 1125899906842624 := by have h1 := ok.t1; have hm : mx = 1125899906842624 := rfl; omega
    rw [hW, hE] at HDIV
    have HRES : Hid (splL t ws = partsL t ws) := if_pos hE
    obtain ⟨q, hq⟩ : ∃ q, q = quo t.toNat (wf ws) ws.length := ⟨_, rfl⟩
    obtain ⟨r, hr⟩ : ∃ r, r = rst t.toNat (wf ws) ws.length := ⟨_, rfl⟩
    obtain ⟨L, hL⟩ : ∃ L, L = lft t.toNat (wf ws) ws.length := ⟨_, rfl⟩
    have HFIN : Hid (lst (fun j => (gots q r ws.length L j : Int)) ws.length = partsL t ws) := by
      show _ = _
      unfold partsL lst
      exact List.map_congr_left fun i hi => by rw [hq, hr, hL, ok.gots (List.mem_range.mp hi)]
    have HLN : Hid (L ≤ ws.length ∧ ws.length ≤ 512 ∧ 0 < ws.length) := ⟨hL ▸ ok.lft_le, ok.n1, ok.n0⟩
    have HSUM : Hid (∀ k, k ≤ ws.length → sm q k ≤ T) := fun k hk => by rw [hq, hT]; exact ok.quo_sum hk
    have HLQ : Hid (L = T - sm q ws.length) := by show L = _; rw [hL, hq, hT]; rfl
    have HDV := Lib.hid (show ∀ i, i < ws.length → ∀ W', Calls Try.prog 54 #[.int .i64 (T : Int), .int .i64 (wf ws i : Int), .int .i64 (W : Int)] W' fun e w' => e = .returned (.tuple #[.int .i64 (q i : Int), .int .i64 (r i : Int)]) ∧ Below W'.heap.size W' w' from fun i hi W' => by
      have h1 := share_divide hW0 hTm (hwW i hi) hW1 W'
      have h2 := hqr i hi
      rw [← hT] at h2 hq hr
      rw [h2.1, h2.2] at h1
      rw [hq, hr]; exact h1)
    have HQL : Hid (∀ i, i < ws.length → q i ≤ 1125899906842624) := fun i hi => by rw [hq]; exact Nat.le_trans (quo_le hi) (by omega)
    have HWF : Hid (∀ (i : Nat) z, ws[i]? = some z → z = (wf ws i : Int)) := fun i z hz => (wf_at hz (ok.all z (List.mem_of_getElem? hz)).1).symm
    have HS := Lib.hid hS
    obtain ⟨n, hn⟩ : ∃ n, ws.length = n := ⟨_, rfl⟩
    have HN := Lib.hid hn
    have HEE := Lib.hid hE
    have HTT := Lib.hid ht
    rw [hn] at HDIV HFIN HLN HSUM HLQ HDV HQL hl ⊢
    rw [hE]
    rw [ht] at HDIV ⊢
    have hn5 := HLN.out.2.1
    have hmk := fun W => make_ints n (by omega) W
    clear hS hW hW0 hW1 hwW hqr ok hT ht hq hr hL hE hn hl
    go_enter Try.func42, Try.ntmps42
    go_wp2_with fail
    refine HDIV.out.mono ?_
    rintro e w1 ⟨rfl, hb1⟩
    have HB1 := Lib.hid hb1
    clear hb1
    go_upto_region 4 with fail
    go_cut [8, 9] from 24 to 29 (fun x y wc => ∃ gp gr : Nat, x = .slice (some ⟨gp, 0, none⟩) n n ∧ y = .slice (some ⟨gr, 0, none⟩) n n ∧ gp ≠ gr ∧ Own eI 3 w1.heap.size wc (.slice (some ⟨gp, 0, none⟩) n n) (lst (fun _ => 0) n) ∧ Own eI 3 w1.heap.size wc (.slice (some ⟨gr, 0, none⟩) n n) (lst (fun _ => 0) n) ∧ Below w1.heap.size w1 wc)
    case first =>
      have HTM := Lib.hid (two_made w1 n (by omega))
      go_wp2_with fail
      go_region
      all_goals
        go_wp2_with fail
        go_meet
        case rel =>
          first
            | exact ⟨w1.heap.size, w1.heap.size + 1, rfl, rfl, by omega, HTM.out.1, HTM.out.2.1, HTM.out.2.2⟩
            | exact ⟨w1.heap.size + 1, w1.heap.size, rfl, rfl, by omega, HTM.out.2.1, HTM.out.1, HTM.out.2.2⟩
    case rest =>
      obtain ⟨gp, gr, rfl, rfl, hgne, hop, hor, hbc⟩ := hcut
      have HOP := Lib.hid hop
      have HOR := Lib.hid hor
      have HBC := Lib.hid hbc
      have HNE := Lib.hid hgne
      clear hop hor hbc hmk hgne
      go_wp2_with fail
      go_loopw [10, 11, 12, 33] (fun l _ _ x wr => ∃ k M : Nat, l = .int .i64 (M : Int) ∧ x = .int .i64 (k : Int) ∧ k ≤ n ∧ M = T - sm q k ∧ Own eI 3 w1.heap.size wr (.slice (some ⟨gp, 0, none⟩) n n) (upL q k n) ∧ Own eI 3 w1.heap.size wr (.slice (some ⟨gr, 0, none⟩) n n) (upL r k n) ∧ Below w1.heap.size w1 wr) (fun _ _ _ x _ => n - (RowKit.intOf x).toNat)
      case atStart => exact ⟨0, T, rfl, rfl, Nat.zero_le _, rfl, by rw [upL_zero]; exact HOP.out, by rw [upL_zero]; exact HOR.out, HBC.out⟩
      case round =>
        obtain ⟨k, M, rfl, rfl, hk, hM, hop, hor, hbel⟩ := hrel
        have HOP2 := Lib.hid hop
        have HOR2 := Lib.hid hor
        have HB := Lib.hid hbel
        have HM := Lib.hid hM
        clear hop hor hbel hM
        rcases Nat.lt_or_ge k n with hlt | hge
        · obtain ⟨z, hz⟩ := get_lt (L := ws) (k := k) (by rw [HN.out]; exact hlt)
          obtain ⟨b, off, hA, hb, hcell⟩ := (HS.out.on (HB1.out.trans (HB.out.mono HB1.out.size))) k z hz
          obtain rfl := hA
          obtain rfl := HWF.out k z hz
          have HZ := Lib.hid hz
          have HCALL := Lib.hid (HDV.out k hlt wr)
          obtain ⟨x, hx⟩ : ∃ x, x = wf ws k := ⟨_, rfl⟩
          obtain ⟨Q, hQ⟩ : ∃ x, x = q k := ⟨_, rfl⟩
          obtain ⟨R, hR⟩ : ∃ x, x = r k := ⟨_, rfl⟩
          rw [← hx] at hcell HCALL
          rw [← hQ, ← hR] at HCALL
          have HQR := Lib.hid (show Q = q k ∧ R = r k from ⟨hQ, hR⟩)
          have i1 : (k : Int) < (n : Int) := by omega
          have i2 : (0 : Int) ≤ (k : Int) := by omega
          have hk1 : IntKind.i64.wrap ((k : Int) + 1) = ((k + 1 : Nat) : Int) := wrap_id (by omega)
          clear hz hx hQ hR hb hk
          go_wp2_with fail
          refine HCALL.out.mono ?_
          rintro e w3 ⟨rfl, hb3⟩
          have HOP3 := Lib.hid (HOP2.out.on hb3)
          have HOR3 := Lib.hid (HOR2.out.on hb3)
          have HB3 : Hid (Below w1.heap.size w1 w3) := HB.out.trans (hb3.mono HB.out.size)
          have cp := HOP3.out.cell (upL_at q hlt)
          have cr := HOR3.out.cell (upL_at r hlt)
          have fp := HOP3.out.warm (upL_len q k n).symm k
          have fr := HOR3.out.warm (upL_len r k n).symm k
          have hne1 := HNE.out
          have hne2 : gr ≠ gp := fun e => HNE.out e.symm
          have HPP : Hid (Own eI 3 w1.heap.size ((w3.setCell ⟨gp, k, none⟩ (.int .i64 (Q : Int))).setCell ⟨gr, k, none⟩ (.int .i64 (R : Int))) (.slice (some ⟨gp, 0, none⟩) n n) (upL q (k + 1) n)) := by
            have h1 := HOP3.out.set (upL_len q k n).symm k (Q : Int)
            rw [HQR.out.1, upL_set q hlt] at h1
            rw [HQR.out.1]
            exact h1.other (p := ⟨gr, k, none⟩) (by show some gp ≠ some gr; simpa using HNE.out) _
          have HRR : Hid (Own eI 3 w1.heap.size ((w3.setCell ⟨gp, k, none⟩ (.int .i64 (Q : Int))).setCell ⟨gr, k, none⟩ (.int .i64 (R : Int))) (.slice (some ⟨gr, 0, none⟩) n n) (upL r (k + 1) n)) := by
            have h1 := HOR3.out.other (p := ⟨gp, k, none⟩) (by show some gr ≠ some gp; simpa using hne2) (.int .i64 (Q : Int))
            have h2 := h1.set (upL_len r k n).symm k (R : Int)
            rw [HQR.out.2, upL_set r hlt] at h2
            rw [HQR.out.2]
            exact h2
          have HBB : Hid (Below w1.heap.size w1 ((w3.setCell ⟨gp, k, none⟩ (.int .i64 (Q : Int))).setCell ⟨gr, k, none⟩ (.int .i64 (R : Int)))) := below_set (below_set HB3.out (p := ⟨gp, k, none⟩) (HOP3.out.lt gp rfl).1 _) (p := ⟨gr, k, none⟩) (HOR3.out.lt gr rfl).1 _
          have HSK := Lib.hid (show sm q (k + 1) ≤ T ∧ sm q (k + 1) = sm q k + Q by
            refine ⟨HSUM.out _ hlt, by rw [HQR.out.1]; rfl⟩)
          obtain ⟨M', hM'⟩ : ∃ x, x = M - Q := ⟨_, rfl⟩
          have HMM := Lib.hid (show M' = T - sm q (k + 1) ∧ Q ≤ M ∧ M' = M - Q by have := HM.out; have := HSK.out; omega)
          have hwm : IntKind.i64.wrap ((M : Int) - (Q : Int)) = (M' : Int) := by
            have h1 := HMM.out
            have h2 := HM.out
            rw [wrap_id (by omega)]; omega
          clear hb3 hM' hlt
          go_wp2_with fail
          go_roundw
          case rel => exact ⟨k + 1, M', rfl, rfl, by omega, HMM.out.1, HPP.out, HRR.out, HBB.out⟩
          case measure => simp [RowKit.intOf]; omega
        · obtain rfl : n = k := by omega
          obtain rfl : L = M := by have h1 := HM.out; have h2 := HLQ.out; omega
          have HLF := Lib.hid (largest_first r n n (some ⟨gr, 0, none⟩) wr hn5 ((upL_all r n) ▸ HOR2.out.cl))
          have hLn := HLN.out.1
          clear hk hge
          go_wp2_with fail
          refine HLF.out.mono ?_
          rintro e w4 ⟨go, s, rfl, hgo, hown, hrank, hb4⟩
          have hsl := fun W => slice_hi (some ⟨go, 0, none⟩) n n L hLn W
          have HGO : Hid (gp ≠ go) := by
            have := (HOP2.out.lt gp rfl).2
            show gp ≠ go
            omega
          have HOP4 : Hid (Own eI 3 w1.heap.size w4 (.slice (some ⟨gp, 0, none⟩) n n) (lst (fun j => (gots q r n 0 j : Int)) n)) := by
            have h1 := HOP2.out.on hb4
            rw [upL_all] at h1
            rw [lst_congr (g := fun j => (q j : Int)) fun i _ => by rw [gots_zero]]
            exact h1
          have HOO4 := Lib.hid hown
          have HRK := Lib.hid hrank
          have HB4 : Hid (Below w1.heap.size w1 w4) := HB.out.trans (hb4.mono HB.out.size)
          have hL6 : (L : Int) ≤ (n : Int) := by omega
          have hL7 : (0 : Int) ≤ (L : Int) := by omega
          clear hgo hown hrank hb4 hLn HLF
          go_wp2_with fail
          go_loopw [14, 63] (fun _ x wr' => ∃ k : Nat, x = .int .i64 (k : Int) ∧ k ≤ L ∧ Own eI 3 w1.heap.size wr' (.slice (some ⟨gp, 0, none⟩) n n) (lst (fun j => (gots q r n k j : Int)) n) ∧ Own eI 3 0 wr' (.slice (some ⟨go, 0, none⟩) n n) (lst (fun j => (s j : Int)) n) ∧ Below w1.heap.size w1 wr') (fun _ x _ => L - (RowKit.intOf x).toNat)
          case atStart => exact ⟨0, rfl, Nat.zero_le _, HOP4.out, HOO4.out.less (Nat.zero_le _), HB4.out⟩
          case round =>
            obtain ⟨k, rfl, hk, hop, hoo, hbel⟩ := hrel
            have HOP5 := Lib.hid hop
            have HOO5 := Lib.hid hoo
            have HB5 := Lib.hid hbel
            have hLn := HLN.out.1
            clear hop hoo hbel
            rcases Nat.lt_or_ge k L with hlt | hge
            · have hkn : k < n := by omega
              obtain ⟨x, hx⟩ : ∃ x, x = s k := ⟨_, rfl⟩
              have hxn : x < n := hx ▸ (HRK.out k hkn).1
              have ck := HOO5.out.cell (lst_at _ hkn)
              have cx := HOP5.out.cell (lst_at _ hxn)
              have fx := HOP5.out.warm (lst_len _ n).symm x
              obtain ⟨G, hG⟩ : ∃ x', x' = gots q r n k x := ⟨_, rfl⟩
              rw [← hx] at ck
              rw [← hG] at cx
              have hGb : G ≤ 1125899906842625 := by
                have h1 := HQL.out x hxn
                rw [hG]; unfold gots; split <;> omega
              have HNX : Hid (Own eI 3 w1.heap.size (wr.setCell ⟨gp, x, none⟩ (.int .i64 ((G + 1 : Nat) : Int))) (.slice (some ⟨gp, 0, none⟩) n n) (lst (fun j => (gots q r n (k + 1) j : Int)) n)) := by
                have h1 := HOP5.out.set (lst_len _ n).symm x ((G + 1 : Nat) : Int)
                rw [lst_set (g := fun j => (gots q r n (k + 1) j : Int)) hxn fun i hi => by
                  rw [gots_next hxn (by rw [hx]; exact (HRK.out k hkn).2) hi]
                  by_cases h2 : i = x
                  · rw [if_pos h2, if_pos h2, h2, hG]
                  · rw [if_neg h2, if_neg h2]] at h1
                exact h1
              have HOX : Hid (Own eI 3 0 (wr.setCell ⟨gp, x, none⟩ (.int .i64 ((G + 1 : Nat) : Int))) (.slice (some ⟨go, 0, none⟩) n n) (lst (fun j => (s j : Int)) n)) := HOO5.out.other (p := ⟨gp, x, none⟩) (by show some go ≠ some gp; have := HGO.out; simp; omega) _
              have HBX : Hid (Below w1.heap.size w1 (wr.setCell ⟨gp, x, none⟩ (.int .i64 ((G + 1 : Nat) : Int)))) := below_set HB5.out (p := ⟨gp, x, none⟩) (HOP5.out.lt gp rfl).1 _
              have i1 : (k : Int) < (L : Int) := by omega
              have i2 : (0 : Int) ≤ (k : Int) := by omega
              have i3 : (x : Int) < (n : Int) := by omega
              have i4 : (0 : Int) ≤ (x : Int) := by omega
              have hk1 : IntKind.i64.wrap ((k : Int) + 1) = ((k + 1 : Nat) : Int) := wrap_id (by omega)
              have hg1 : IntKind.i64.wrap ((G : Int) + 1) = ((G + 1 : Nat) : Int) := wrap_id (by omega)
              have HLT := Lib.hid hlt
              clear hx hG hGb hxn hkn hLn hlt hk
              go_wp2_with fail
              go_roundw
              case rel => exact ⟨k + 1, rfl, HLT.out, HNX.out, HOX.out, HBX.out⟩
              case measure =>
                have := HLT.out
                simp [RowKit.intOf]; omega
            · obtain rfl : L = k := by omega
              have HOF : Hid (Own eI 3 w.heap.size wr (.slice (some ⟨gp, 0, none⟩) n n) (splL t ws)) := by
                rw [HRES.out, ← HFIN.out]
                exact HOP5.out.less HB1.out.size
              have HBF : Hid (Below w.heap.size w wr) := HB1.out.trans (HB5.out.mono HB1.out.size)
              clear hk hge hLn
              go_wp2_with fail
              go_ret2
              exact ⟨_, rfl, by rw [← HTT.out]; exact HOF.out, HBF.out⟩
  · obtain ⟨E, hEE⟩ : ∃ E, E = errS t ws := ⟨_, rfl⟩
    have HRES : Hid (splL t ws = []) := if_neg hE
    have hE1 : ((E : Int) != 0) = true := by simp; omega
    have hE2 : ¬ E = 0 := by omega
    have hE3 : ¬ (E : Int) = 0 := by omega
    obtain ⟨D, hD⟩ : ∃ D, D = dvV t ws := ⟨_, rfl⟩
    obtain ⟨n, hn⟩ : ∃ n, ws.length = n := ⟨_, rfl⟩
    rw [← hEE, ← hD, hn] at HDIV
    rw [← hEE, hn]
    clear hEE hD hS hl hn hE
    go_enter Try.func42, Try.ntmps42
    go_wp2_with fail
    refine HDIV.out.mono ?_
    rintro e w1 ⟨rfl, hb1⟩
    have HB1 := Lib.hid hb1
    clear hb1
    go_wp2_with fail
    go_ret2
    exact ⟨_, rfl, by rw [HRES.out]; exact Own.nil _ _ _ _, HB1.out⟩
end Go.Proofs.Ytgomokdklajlcaa.Share
/- Contracts of divide and MulDiv of the reference. -/
namespace Go.Proofs.Ytgomokdklajlcaa.Num
open Go.ChangeShapes Go.WideShapes Go.RowKit
set_option linter.unusedVariables false
set_option linter.unusedSimpArgs false

/-- The quotient, cut off at 2^52. -/
def capQ (n c : Nat) : Nat := min (n / c) 4503599627370496
theorem cap_step {A b c bit : Nat} (hc : 1 ≤ c) : capQ ((2 * A + bit) * b) c = min (2 * capQ (A * b) c + (2 * (A * b % c) + bit * b) / c) 4503599627370496 := by
  have e : (2 * A + bit) * b = c * (2 * (A * b / c)) + (2 * (A * b % c) + bit * b) := by
    have h := Nat.div_add_mod (A * b) c
    have e1 : c * (2 * (A * b / c)) = 2 * (c * (A * b / c)) := Nat.mul_left_comm _ _ _
    rw [Nat.add_mul, Nat.mul_assoc, e1]; omega
  unfold capQ
  rw [e, Nat.mul_add_div (by omega)]
  generalize (2 * (A * b % c) + bit * b) / c = t
  generalize A * b / c = n
  omega
theorem rest_step {A b c bit : Nat} : (2 * A + bit) * b % c = (2 * (A * b % c) + bit * b) % c := by
  have h := Nat.div_add_mod (A * b) c
  have e : (2 * A + bit) * b = (2 * (A * b % c) + bit * b) + c * (2 * (A * b / c)) := by
    have e1 : c * (2 * (A * b / c)) = 2 * (c * (A * b / c)) := Nat.mul_left_comm _ _ _
    rw [Nat.add_mul, Nat.mul_assoc, e1]; omega
  rw [e, Nat.add_mul_mod_self_left]
theorem bit_step (a i : Nat) : a / 2 ^ i = 2 * (a / 2 ^ (i + 1)) + a / 2 ^ i % 2 := by
  have : a / 2 ^ (i + 1) = a / 2 ^ i / 2 := by rw [Nat.pow_succ, Nat.div_div_eq_div_mul]
  rw [this]; omega

theorem and_bit {a i v : Nat} (ha : a < 9223372036854775808) (h : a / 2 ^ i % 2 = v) : bits .and .i64 ((a : Int) / 2 ^ i) 1 = v := by
  have e : (a : Int) / 2 ^ i = ((a / 2 ^ i : Nat) : Int) := by rw [Int.natCast_ediv, Int.natCast_pow]; rfl
  rw [e, Go.Proofs.and_one _ (by have := Nat.div_le_self a (2 ^ i); omega), h]

set_option maxHeartbeats 400000 in
theorem ref_divide (a b c : Nat) (w : World) (ha : a ≤ 1125899906842624) (hb : b ≤ 1125899906842624) (hc1 : 1 ≤ c) (hc2 : c ≤ 1125899906842624) :
    Calls Try.prog 62 #[.int .i64 (a : Int), .int .i64 (b : Int), .int .i64 (c : Int)] w fun e w' => e = .returned (.tuple #[.int .i64 (capQ (a * b) c : Int), .int .i64 ((a * b % c : Nat) : Int)]) ∧ Below w.heap.size w w' := by
  have ha' : (a : Int) ≤ 1125899906842624 := by omega
  have hb' : (b : Int) ≤ 1125899906842624 := by omega
  have hc1' : 1 ≤ (c : Int) := by omega
  have hc2' : (c : Int) ≤ 1125899906842624 := by omega
  go_enter Try.func62, Try.ntmps62
  go_wp2_with fail
  go_loop [8, 9, 10] (fun x y z => ∃ j q r : Nat, j ≤ 51 ∧ x = .int .i64 q ∧ y = .int .i64 r ∧ z = .int .i64 ((j : Int) - 1) ∧ q = capQ (a / 2 ^ j * b) c ∧ r = a / 2 ^ j * b % c) (fun _ _ z => (intOf z + 1).toNat)
  case atStart =>
    have h0 : a / 2 ^ 51 = 0 := Nat.div_eq_of_lt (by omega)
    exact ⟨51, 0, 0, by omega, rfl, rfl, by go_num, by rw [h0]; simp [capQ], by rw [h0]; simp⟩
  case round =>
    obtain ⟨j, q, r, hj, rfl, rfl, rfl, hq, hr⟩ := hrel
    have hq1 : (q : Int) ≤ 4503599627370496 := by unfold capQ at hq; omega
    have hr1 : (r : Int) < c := by have := Nat.mod_lt (a / 2 ^ j * b) hc1; omega
    have HQ := Lib.hid hq
    have HR := Lib.hid hr
    clear hq hr
    cases j with
    | zero =>
      rw [show ((0 : Nat) : Int) - 1 = -1 from rfl]
      go_wp2
      go_ret2
      have e1 := HQ.out
      have e2 := HR.out
      rw [Nat.pow_zero, Nat.div_one] at e1 e2
      exact ⟨ret_two (by rw [e1]) (by rw [e2, Int.natCast_emod, Int.natCast_mul]), Below.refl _ _⟩
    | succ i =>
      have hi : ((i + 1 : Nat) : Int) - 1 = i := by omega
      rw [hi]; clear hi
      have hdb : a / 2 ^ i = 2 * (a / 2 ^ (i + 1)) + a / 2 ^ i % 2 := bit_step a i
      have hc0 : 0 ≤ (c : Int) := by omega
      rcases Nat.mod_two_eq_zero_or_one (a / 2 ^ i) with hbit | hbit
      · have hband := and_bit (a := a) (i := i) (by omega) hbit
        have e1 := cap_step (A := a / 2 ^ (i + 1)) (b := b) (bit := 0) hc1
        have e2 := rest_step (A := a / 2 ^ (i + 1)) (b := b) (c := c) (bit := 0)
        rw [hbit] at hdb
        rw [← hdb, ← HQ.out, ← HR.out] at e1
        rw [← hdb, ← HR.out] at e2
        obtain ⟨t, ht⟩ : ∃ t : Nat, 2 * (r : Int) / c = t := ⟨2 * r / c, by rw [Int.natCast_ediv, Int.natCast_mul]; rfl⟩
        obtain ⟨v, hv⟩ : ∃ v : Nat, 2 * (r : Int) % c = v := ⟨2 * r % c, by rw [Int.natCast_emod, Int.natCast_mul]; rfl⟩
        have et : t = 2 * r / c := by have : ((2 * r / c : Nat) : Int) = 2 * (r : Int) / c := by rw [Int.natCast_ediv, Int.natCast_mul]; rfl
                                      omega
        have ev : v = 2 * r % c := by have : ((2 * r % c : Nat) : Int) = 2 * (r : Int) % c := by rw [Int.natCast_emod, Int.natCast_mul]; rfl
                                      omega
        have et1 : (t : Int) ≤ 4503599627370496 := by have := Nat.div_le_self (2 * r) c; omega
        rw [Nat.zero_mul, Nat.add_zero] at e1 e2
        rw [← et] at e1
        rw [← ev] at e2
        have E1 := Lib.hid e1
        have E2 := Lib.hid e2
        clear e1 e2 et ev hdb hbit
        go_wp2_with fail
        go_round
        case rel => exact ⟨i, min (2 * q + t) 4503599627370496, v, by omega, congrArg _ (by omega), congrArg _ hv, rfl, E1.out.symm, E2.out.symm⟩
        case measure => simp [intOf]
      · have hband := and_bit (a := a) (i := i) (by omega) hbit
        have e1 := cap_step (A := a / 2 ^ (i + 1)) (b := b) (bit := 1) hc1
        have e2 := rest_step (A := a / 2 ^ (i + 1)) (b := b) (c := c) (bit := 1)
        rw [hbit] at hdb
        rw [← hdb, ← HQ.out, ← HR.out] at e1
        rw [← hdb, ← HR.out] at e2
        obtain ⟨t, ht⟩ : ∃ t : Nat, (2 * (r : Int) + b) / c = t := ⟨(2 * r + b) / c, by rw [Int.natCast_ediv, Int.natCast_add, Int.natCast_mul]; rfl⟩
        obtain ⟨v, hv⟩ : ∃ v : Nat, (2 * (r : Int) + b) % c = v := ⟨(2 * r + b) % c, by rw [Int.natCast_emod, Int.natCast_add, Int.natCast_mul]; rfl⟩
        have et : t = (2 * r + b) / c := by have : (((2 * r + b) / c : Nat) : Int) = (2 * (r : Int) + b) / c := by rw [Int.natCast_ediv, Int.natCast_add, Int.natCast_mul]; rfl
                                            omega
        have ev : v = (2 * r + b) % c := by have : (((2 * r + b) % c : Nat) : Int) = (2 * (r : Int) + b) % c := by rw [Int.natCast_emod, Int.natCast_add, Int.natCast_mul]; rfl
                                            omega
        have et1 : (t : Int) ≤ 4503599627370496 := by have := Nat.div_le_self (2 * r + b) c; omega
        rw [Nat.one_mul] at e1 e2
        rw [← et] at e1
        rw [← ev] at e2
        have E1 := Lib.hid e1
        have E2 := Lib.hid e2
        clear e1 e2 et ev hdb hbit
        go_wp2_with fail
        go_round
        case rel => exact ⟨i, min (2 * q + t) 4503599627370496, v, by omega, congrArg _ (by omega), congrArg _ hv, rfl, E1.out.symm, E2.out.symm⟩
        case measure => simp [intOf]
end Go.Proofs.Ytgomokdklajlcaa.Num
/- The contract of MulDiv of the reference. -/
namespace Go.Proofs.Ytgomokdklajlcaa.Num
open Go.ChangeShapes Go.WideShapes Go.RowKit
set_option linter.unusedVariables false
set_option linter.unusedSimpArgs false

/-- What the reference's divide returns for the magnitudes. -/
def DivAt (a b c : Int) (n r : Nat) : Prop := ∀ W, Calls Try.prog 62 #[.int .i64 (a.natAbs : Int), .int .i64 (b.natAbs : Int), .int .i64 (c.natAbs : Int)] W fun e w' => e = .returned (.tuple #[.int .i64 (n : Int), .int .i64 (r : Int)]) ∧ Below W.heap.size W w'

set_option maxHeartbeats 1000000 in
theorem ref_md_z0 (a b c : Int) (n r : Nat) (x y z : Bool) (w : World) (ha : inB a = true) (hb : inB b = true) (hc : inB c = true)
    (a1 : -1125899906842624 ≤ a) (a2 : a ≤ 1125899906842624) (b1 : -1125899906842624 ≤ b) (b2 : b ≤ 1125899906842624) (c1 : -1125899906842624 ≤ c) (c2 : c ≤ 1125899906842624) (hz' : (c == 0) = false)
    (hd1 : 1 ≤ (c.natAbs : Int)) (hn : (n : Int) ≤ 4503599627370496) (HD : Hid (DivAt a b c n r)) (da : decide (a < 0) = x) (db : decide (b < 0) = y) (dc : decide (c < 0) = z) (hr : r = 0) :
    Calls Try.prog 45 #[.int .i64 a, .int .i64 b, .int .i64 c, .int .i64 0] w fun e w' => e = .returned (.tuple #[.int .i64 (okV (sg ((x != y) != z) (n + 0))), .int .i64 (okE (sg ((x != y) != z) (n + 0)))]) ∧ Below w.heap.size w w' := by
  subst hr
  cases x
  all_goals cases y
  all_goals cases z
  all_goals simp only [bne_self_eq_false, Bool.true_bne, Bool.false_bne, Bool.not_true, Bool.not_false, Bool.bne_true, Bool.bne_false, Bool.false_eq_true, if_true, if_false, Nat.add_zero]
  all_goals
    go_enter Try.func45, Try.ntmps45
    go_wp2_with (first | (go_at_call 61; refine (ref_in _ _).mono ?_; rintro e w' ⟨rfl, rfl⟩) | (go_at_call 63; refine (ref_abs _ _ (by omega) (by omega)).mono ?_; rintro e w' ⟨rfl, rfl⟩) | (go_at_call 62; refine (HD.out _).mono ?_; rintro e w1 ⟨rfl, hb1⟩) | (go_at_call 64; refine (ref_result _ _).mono ?_; rintro e w' ⟨rfl, rfl⟩))
    go_ret2
    exact ⟨ret_two (by simp [sg]) (by simp [sg]), hb1⟩

set_option maxHeartbeats 1000000 in
theorem ref_md_z1 (a b c : Int) (n r : Nat) (x y z : Bool) (w : World) (ha : inB a = true) (hb : inB b = true) (hc : inB c = true)
    (a1 : -1125899906842624 ≤ a) (a2 : a ≤ 1125899906842624) (b1 : -1125899906842624 ≤ b) (b2 : b ≤ 1125899906842624) (c1 : -1125899906842624 ≤ c) (c2 : c ≤ 1125899906842624) (hz' : (c == 0) = false)
    (hd1 : 1 ≤ (c.natAbs : Int)) (hn : (n : Int) ≤ 4503599627370496) (HD : Hid (DivAt a b c n r)) (da : decide (a < 0) = x) (db : decide (b < 0) = y) (dc : decide (c < 0) = z) (hr : r = 0) :
    Calls Try.prog 45 #[.int .i64 a, .int .i64 b, .int .i64 c, .int .i64 1] w fun e w' => e = .returned (.tuple #[.int .i64 (okV (sg ((x != y) != z) (n + 0))), .int .i64 (okE (sg ((x != y) != z) (n + 0)))]) ∧ Below w.heap.size w w' := by
  subst hr
  cases x
  all_goals cases y
  all_goals cases z
  all_goals simp only [bne_self_eq_false, Bool.true_bne, Bool.false_bne, Bool.not_true, Bool.not_false, Bool.bne_true, Bool.bne_false, Bool.false_eq_true, if_true, if_false, Nat.add_zero]
  all_goals
    go_enter Try.func45, Try.ntmps45
    go_wp2_with (first | (go_at_call 61; refine (ref_in _ _).mono ?_; rintro e w' ⟨rfl, rfl⟩) | (go_at_call 63; refine (ref_abs _ _ (by omega) (by omega)).mono ?_; rintro e w' ⟨rfl, rfl⟩) | (go_at_call 62; refine (HD.out _).mono ?_; rintro e w1 ⟨rfl, hb1⟩) | (go_at_call 64; refine (ref_result _ _).mono ?_; rintro e w' ⟨rfl, rfl⟩))
    go_ret2
    exact ⟨ret_two (by simp [sg]) (by simp [sg]), hb1⟩

set_option maxHeartbeats 1000000 in
theorem ref_md_z2 (a b c : Int) (n r : Nat) (x y z : Bool) (w : World) (ha : inB a = true) (hb : inB b = true) (hc : inB c = true)
    (a1 : -1125899906842624 ≤ a) (a2 : a ≤ 1125899906842624) (b1 : -1125899906842624 ≤ b) (b2 : b ≤ 1125899906842624) (c1 : -1125899906842624 ≤ c) (c2 : c ≤ 1125899906842624) (hz' : (c == 0) = false)
    (hd1 : 1 ≤ (c.natAbs : Int)) (hn : (n : Int) ≤ 4503599627370496) (HD : Hid (DivAt a b c n r)) (da : decide (a < 0) = x) (db : decide (b < 0) = y) (dc : decide (c < 0) = z) (hr : r = 0) :
    Calls Try.prog 45 #[.int .i64 a, .int .i64 b, .int .i64 c, .int .i64 2] w fun e w' => e = .returned (.tuple #[.int .i64 (okV (sg ((x != y) != z) (n + 0))), .int .i64 (okE (sg ((x != y) != z) (n + 0)))]) ∧ Below w.heap.size w w' := by
  subst hr
  cases x
  all_goals cases y
  all_goals cases z
  all_goals simp only [bne_self_eq_false, Bool.true_bne, Bool.false_bne, Bool.not_true, Bool.not_false, Bool.bne_true, Bool.bne_false, Bool.false_eq_true, if_true, if_false, Nat.add_zero]
  all_goals
    go_enter Try.func45, Try.ntmps45
    go_wp2_with (first | (go_at_call 61; refine (ref_in _ _).mono ?_; rintro e w' ⟨rfl, rfl⟩) | (go_at_call 63; refine (ref_abs _ _ (by omega) (by omega)).mono ?_; rintro e w' ⟨rfl, rfl⟩) | (go_at_call 62; refine (HD.out _).mono ?_; rintro e w1 ⟨rfl, hb1⟩) | (go_at_call 64; refine (ref_result _ _).mono ?_; rintro e w' ⟨rfl, rfl⟩))
    go_ret2
    exact ⟨ret_two (by simp [sg]) (by simp [sg]), hb1⟩

end Go.Proofs.Ytgomokdklajlcaa.Num
/- The contract of MulDiv of the reference, more of its ways. -/
namespace Go.Proofs.Ytgomokdklajlcaa.Num
open Go.ChangeShapes Go.WideShapes Go.RowKit
set_option linter.unusedVariables false
set_option linter.unusedSimpArgs false

set_option maxHeartbeats 1000000 in
theorem ref_md_m0 (a b c : Int) (n r : Nat) (x y z : Bool) (w : World) (ha : inB a = true) (hb : inB b = true) (hc : inB c = true)
    (a1 : -1125899906842624 ≤ a) (a2 : a ≤ 1125899906842624) (b1 : -1125899906842624 ≤ b) (b2 : b ≤ 1125899906842624) (c1 : -1125899906842624 ≤ c) (c2 : c ≤ 1125899906842624) (hz' : (c == 0) = false)
    (hd1 : 1 ≤ (c.natAbs : Int)) (hn : (n : Int) ≤ 4503599627370496) (HD : Hid (DivAt a b c n r)) (da : decide (a < 0) = x) (db : decide (b < 0) = y) (dc : decide (c < 0) = z) (hr : 1 ≤ (r : Int)) (hr2 : (r : Int) ≤ 1125899906842624) :
    Calls Try.prog 45 #[.int .i64 a, .int .i64 b, .int .i64 c, .int .i64 0] w fun e w' => e = .returned (.tuple #[.int .i64 (okV (sg ((x != y) != z) (n + (if ((x != y) != z) then 1 else 0)))), .int .i64 (okE (sg ((x != y) != z) (n + (if ((x != y) != z) then 1 else 0))))]) ∧ Below w.heap.size w w' := by
  cases x
  all_goals cases y
  all_goals cases z
  all_goals simp only [bne_self_eq_false, Bool.true_bne, Bool.false_bne, Bool.not_true, Bool.not_false, Bool.bne_true, Bool.bne_false, Bool.false_eq_true, if_true, if_false, Nat.add_zero]
  all_goals
    go_enter Try.func45, Try.ntmps45
    go_wp2_with (first | (go_at_call 61; refine (ref_in _ _).mono ?_; rintro e w' ⟨rfl, rfl⟩) | (go_at_call 63; refine (ref_abs _ _ (by omega) (by omega)).mono ?_; rintro e w' ⟨rfl, rfl⟩) | (go_at_call 62; refine (HD.out _).mono ?_; rintro e w1 ⟨rfl, hb1⟩) | (go_at_call 64; refine (ref_result _ _).mono ?_; rintro e w' ⟨rfl, rfl⟩))
    go_ret2
    exact ⟨ret_two (by simp [sg]) (by simp [sg]), hb1⟩

set_option maxHeartbeats 1000000 in
theorem ref_md_m1 (a b c : Int) (n r : Nat) (x y z : Bool) (w : World) (ha : inB a = true) (hb : inB b = true) (hc : inB c = true)
    (a1 : -1125899906842624 ≤ a) (a2 : a ≤ 1125899906842624) (b1 : -1125899906842624 ≤ b) (b2 : b ≤ 1125899906842624) (c1 : -1125899906842624 ≤ c) (c2 : c ≤ 1125899906842624) (hz' : (c == 0) = false)
    (hd1 : 1 ≤ (c.natAbs : Int)) (hn : (n : Int) ≤ 4503599627370496) (HD : Hid (DivAt a b c n r)) (da : decide (a < 0) = x) (db : decide (b < 0) = y) (dc : decide (c < 0) = z) (hr : 1 ≤ (r : Int)) (hr2 : (r : Int) ≤ 1125899906842624) :
    Calls Try.prog 45 #[.int .i64 a, .int .i64 b, .int .i64 c, .int .i64 1] w fun e w' => e = .returned (.tuple #[.int .i64 (okV (sg ((x != y) != z) (n + (if !((x != y) != z) then 1 else 0)))), .int .i64 (okE (sg ((x != y) != z) (n + (if !((x != y) != z) then 1 else 0))))]) ∧ Below w.heap.size w w' := by
  cases x
  all_goals cases y
  all_goals cases z
  all_goals simp only [bne_self_eq_false, Bool.true_bne, Bool.false_bne, Bool.not_true, Bool.not_false, Bool.bne_true, Bool.bne_false, Bool.false_eq_true, if_true, if_false, Nat.add_zero]
  all_goals
    go_enter Try.func45, Try.ntmps45
    go_wp2_with (first | (go_at_call 61; refine (ref_in _ _).mono ?_; rintro e w' ⟨rfl, rfl⟩) | (go_at_call 63; refine (ref_abs _ _ (by omega) (by omega)).mono ?_; rintro e w' ⟨rfl, rfl⟩) | (go_at_call 62; refine (HD.out _).mono ?_; rintro e w1 ⟨rfl, hb1⟩) | (go_at_call 64; refine (ref_result _ _).mono ?_; rintro e w' ⟨rfl, rfl⟩))
    go_ret2
    exact ⟨ret_two (by simp [sg]) (by simp [sg]), hb1⟩

set_option maxHeartbeats 1000000 in
theorem ref_md_gt (a b c : Int) (n r : Nat) (x y z : Bool) (w : World) (ha : inB a = true) (hb : inB b = true) (hc : inB c = true)
    (a1 : -1125899906842624 ≤ a) (a2 : a ≤ 1125899906842624) (b1 : -1125899906842624 ≤ b) (b2 : b ≤ 1125899906842624) (c1 : -1125899906842624 ≤ c) (c2 : c ≤ 1125899906842624) (hz' : (c == 0) = false)
    (hd1 : 1 ≤ (c.natAbs : Int)) (hn : (n : Int) ≤ 4503599627370496) (HD : Hid (DivAt a b c n r)) (da : decide (a < 0) = x) (db : decide (b < 0) = y) (dc : decide (c < 0) = z) (hr : 1 ≤ (r : Int)) (hr2 : (r : Int) ≤ 1125899906842624) (hg : (c.natAbs : Int) < 2 * r) :
    Calls Try.prog 45 #[.int .i64 a, .int .i64 b, .int .i64 c, .int .i64 2] w fun e w' => e = .returned (.tuple #[.int .i64 (okV (sg ((x != y) != z) (n + 1))), .int .i64 (okE (sg ((x != y) != z) (n + 1)))]) ∧ Below w.heap.size w w' := by
  cases x
  all_goals cases y
  all_goals cases z
  all_goals simp only [bne_self_eq_false, Bool.true_bne, Bool.false_bne, Bool.not_true, Bool.not_false, Bool.bne_true, Bool.bne_false, Bool.false_eq_true, if_true, if_false, Nat.add_zero]
  all_goals
    go_enter Try.func45, Try.ntmps45
    go_wp2_with (first | (go_at_call 61; refine (ref_in _ _).mono ?_; rintro e w' ⟨rfl, rfl⟩) | (go_at_call 63; refine (ref_abs _ _ (by omega) (by omega)).mono ?_; rintro e w' ⟨rfl, rfl⟩) | (go_at_call 62; refine (HD.out _).mono ?_; rintro e w1 ⟨rfl, hb1⟩) | (go_at_call 64; refine (ref_result _ _).mono ?_; rintro e w' ⟨rfl, rfl⟩))
    go_ret2
    exact ⟨ret_two (by simp [sg]) (by simp [sg]), hb1⟩

end Go.Proofs.Ytgomokdklajlcaa.Num
/- The contract of MulDiv of the reference, more of its ways. -/
namespace Go.Proofs.Ytgomokdklajlcaa.Num
open Go.ChangeShapes Go.WideShapes Go.RowKit
set_option linter.unusedVariables false
set_option linter.unusedSimpArgs false

set_option maxHeartbeats 1000000 in
theorem ref_md_e1 (a b c : Int) (n r : Nat) (x y z : Bool) (w : World) (ha : inB a = true) (hb : inB b = true) (hc : inB c = true)
    (a1 : -1125899906842624 ≤ a) (a2 : a ≤ 1125899906842624) (b1 : -1125899906842624 ≤ b) (b2 : b ≤ 1125899906842624) (c1 : -1125899906842624 ≤ c) (c2 : c ≤ 1125899906842624) (hz' : (c == 0) = false)
    (hd1 : 1 ≤ (c.natAbs : Int)) (hn : (n : Int) ≤ 4503599627370496) (HD : Hid (DivAt a b c n r)) (da : decide (a < 0) = x) (db : decide (b < 0) = y) (dc : decide (c < 0) = z) (hr : 1 ≤ (r : Int)) (hr2 : (r : Int) ≤ 1125899906842624) (hg : decide ((c.natAbs : Int) < 2 * r) = false) (he : (2 * (r : Int) == c.natAbs) = true) (hp : ((n : Int) % 2 == 1) = true) :
    Calls Try.prog 45 #[.int .i64 a, .int .i64 b, .int .i64 c, .int .i64 2] w fun e w' => e = .returned (.tuple #[.int .i64 (okV (sg ((x != y) != z) (n + 1))), .int .i64 (okE (sg ((x != y) != z) (n + 1)))]) ∧ Below w.heap.size w w' := by
  cases x
  all_goals cases y
  all_goals cases z
  all_goals simp only [bne_self_eq_false, Bool.true_bne, Bool.false_bne, Bool.not_true, Bool.not_false, Bool.bne_true, Bool.bne_false, Bool.false_eq_true, if_true, if_false, Nat.add_zero]
  all_goals
    go_enter Try.func45, Try.ntmps45
    go_wp2_with (first | (go_at_call 61; refine (ref_in _ _).mono ?_; rintro e w' ⟨rfl, rfl⟩) | (go_at_call 63; refine (ref_abs _ _ (by omega) (by omega)).mono ?_; rintro e w' ⟨rfl, rfl⟩) | (go_at_call 62; refine (HD.out _).mono ?_; rintro e w1 ⟨rfl, hb1⟩) | (go_at_call 64; refine (ref_result _ _).mono ?_; rintro e w' ⟨rfl, rfl⟩))
    go_ret2
    exact ⟨ret_two (by simp [sg]) (by simp [sg]), hb1⟩

set_option maxHeartbeats 1000000 in
theorem ref_md_e0 (a b c : Int) (n r : Nat) (x y z : Bool) (w : World) (ha : inB a = true) (hb : inB b = true) (hc : inB c = true)
    (a1 : -1125899906842624 ≤ a) (a2 : a ≤ 1125899906842624) (b1 : -1125899906842624 ≤ b) (b2 : b ≤ 1125899906842624) (c1 : -1125899906842624 ≤ c) (c2 : c ≤ 1125899906842624) (hz' : (c == 0) = false)
    (hd1 : 1 ≤ (c.natAbs : Int)) (hn : (n : Int) ≤ 4503599627370496) (HD : Hid (DivAt a b c n r)) (da : decide (a < 0) = x) (db : decide (b < 0) = y) (dc : decide (c < 0) = z) (hr : 1 ≤ (r : Int)) (hr2 : (r : Int) ≤ 1125899906842624) (hg : decide ((c.natAbs : Int) < 2 * r) = false) (he : (2 * (r : Int) == c.natAbs) = true) (hp : ((n : Int) % 2 == 1) = false) :
    Calls Try.prog 45 #[.int .i64 a, .int .i64 b, .int .i64 c, .int .i64 2] w fun e w' => e = .returned (.tuple #[.int .i64 (okV (sg ((x != y) != z) (n + 0))), .int .i64 (okE (sg ((x != y) != z) (n + 0)))]) ∧ Below w.heap.size w w' := by
  cases x
  all_goals cases y
  all_goals cases z
  all_goals simp only [bne_self_eq_false, Bool.true_bne, Bool.false_bne, Bool.not_true, Bool.not_false, Bool.bne_true, Bool.bne_false, Bool.false_eq_true, if_true, if_false, Nat.add_zero]
  all_goals
    go_enter Try.func45, Try.ntmps45
    go_wp2_with (first | (go_at_call 61; refine (ref_in _ _).mono ?_; rintro e w' ⟨rfl, rfl⟩) | (go_at_call 63; refine (ref_abs _ _ (by omega) (by omega)).mono ?_; rintro e w' ⟨rfl, rfl⟩) | (go_at_call 62; refine (HD.out _).mono ?_; rintro e w1 ⟨rfl, hb1⟩) | (go_at_call 64; refine (ref_result _ _).mono ?_; rintro e w' ⟨rfl, rfl⟩))
    go_ret2
    exact ⟨ret_two (by simp [sg]) (by simp [sg]), hb1⟩

set_option maxHeartbeats 1000000 in
theorem ref_md_lt (a b c : Int) (n r : Nat) (x y z : Bool) (w : World) (ha : inB a = true) (hb : inB b = true) (hc : inB c = true)
    (a1 : -1125899906842624 ≤ a) (a2 : a ≤ 1125899906842624) (b1 : -1125899906842624 ≤ b) (b2 : b ≤ 1125899906842624) (c1 : -1125899906842624 ≤ c) (c2 : c ≤ 1125899906842624) (hz' : (c == 0) = false)
    (hd1 : 1 ≤ (c.natAbs : Int)) (hn : (n : Int) ≤ 4503599627370496) (HD : Hid (DivAt a b c n r)) (da : decide (a < 0) = x) (db : decide (b < 0) = y) (dc : decide (c < 0) = z) (hr : 1 ≤ (r : Int)) (hr2 : (r : Int) ≤ 1125899906842624) (hg : decide ((c.natAbs : Int) < 2 * r) = false) (he : (2 * (r : Int) == c.natAbs) = false) :
    Calls Try.prog 45 #[.int .i64 a, .int .i64 b, .int .i64 c, .int .i64 2] w fun e w' => e = .returned (.tuple #[.int .i64 (okV (sg ((x != y) != z) (n + 0))), .int .i64 (okE (sg ((x != y) != z) (n + 0)))]) ∧ Below w.heap.size w w' := by
  cases x
  all_goals cases y
  all_goals cases z
  all_goals simp only [bne_self_eq_false, Bool.true_bne, Bool.false_bne, Bool.not_true, Bool.not_false, Bool.bne_true, Bool.bne_false, Bool.false_eq_true, if_true, if_false, Nat.add_zero]
  all_goals
    go_enter Try.func45, Try.ntmps45
    go_wp2_with (first | (go_at_call 61; refine (ref_in _ _).mono ?_; rintro e w' ⟨rfl, rfl⟩) | (go_at_call 63; refine (ref_abs _ _ (by omega) (by omega)).mono ?_; rintro e w' ⟨rfl, rfl⟩) | (go_at_call 62; refine (HD.out _).mono ?_; rintro e w1 ⟨rfl, hb1⟩) | (go_at_call 64; refine (ref_result _ _).mono ?_; rintro e w' ⟨rfl, rfl⟩))
    go_ret2
    exact ⟨ret_two (by simp [sg]) (by simp [sg]), hb1⟩

end Go.Proofs.Ytgomokdklajlcaa.Num
/- The contract of MulDiv of the reference: all its ways together. -/
namespace Go.Proofs.Ytgomokdklajlcaa.Num
open Go.ChangeShapes Go.WideShapes Go.RowKit
set_option linter.unusedVariables false

theorem away_zero (q d : Nat) (m : Int) (neg : Bool) : awayB q 0 d m neg = false := if_pos rfl
theorem away_m0 {q r d : Nat} {neg : Bool} (hr : r ≠ 0) : awayB q r d 0 neg = neg := by unfold awayB; rw [if_neg hr, if_pos rfl]
theorem away_m1 {q r d : Nat} {neg : Bool} (hr : r ≠ 0) : awayB q r d 1 neg = !neg := by unfold awayB; rw [if_neg hr, if_neg (by omega), if_pos rfl]
theorem away_m2 {q r d : Nat} {neg : Bool} (hr : r ≠ 0) : awayB q r d 2 neg = decide (d < 2 * r ∨ (2 * r = d ∧ q % 2 = 1)) := by unfold awayB; rw [if_neg hr, if_neg (by omega), if_neg (by omega)]

theorem ref_md_all (a b c m : Int) (n r : Nat) (x y z : Bool) (w : World) (ha : inB a = true) (hb : inB b = true) (hc : inB c = true)
    (a1 : -1125899906842624 ≤ a) (a2 : a ≤ 1125899906842624) (b1 : -1125899906842624 ≤ b) (b2 : b ≤ 1125899906842624) (c1 : -1125899906842624 ≤ c) (c2 : c ≤ 1125899906842624) (hz' : (c == 0) = false)
    (hd1 : 1 ≤ (c.natAbs : Int)) (hn : (n : Int) ≤ 4503599627370496) (hr2 : (r : Int) ≤ 1125899906842624) (HD : Hid (DivAt a b c n r)) (da : decide (a < 0) = x) (db : decide (b < 0) = y) (dc : decide (c < 0) = z) (m0 : 0 ≤ m) (m2 : m ≤ 2) :
    Calls Try.prog 45 #[.int .i64 a, .int .i64 b, .int .i64 c, .int .i64 m] w fun e w' => e = .returned (.tuple #[.int .i64 (okV (sg ((x != y) != z) (n + if awayB n r c.natAbs m ((x != y) != z) then 1 else 0))), .int .i64 (okE (sg ((x != y) != z) (n + if awayB n r c.natAbs m ((x != y) != z) then 1 else 0)))]) ∧ Below w.heap.size w w' := by
  have hm : m = 0 ∨ m = 1 ∨ m = 2 := by omega
  by_cases h0 : r = 0
  · rcases hm with rfl | rfl | rfl
    · have h := ref_md_z0 a b c n r x y z w ha hb hc a1 a2 b1 b2 c1 c2 hz' hd1 hn HD da db dc h0
      rw [h0, away_zero, if_neg (by decide)]; exact h
    · have h := ref_md_z1 a b c n r x y z w ha hb hc a1 a2 b1 b2 c1 c2 hz' hd1 hn HD da db dc h0
      rw [h0, away_zero, if_neg (by decide)]; exact h
    · have h := ref_md_z2 a b c n r x y z w ha hb hc a1 a2 b1 b2 c1 c2 hz' hd1 hn HD da db dc h0
      rw [h0, away_zero, if_neg (by decide)]; exact h
  · have hr : 1 ≤ (r : Int) := by omega
    rcases hm with rfl | rfl | rfl
    · rw [away_m0 h0]
      exact ref_md_m0 a b c n r x y z w ha hb hc a1 a2 b1 b2 c1 c2 hz' hd1 hn HD da db dc hr hr2
    · rw [away_m1 h0]
      exact ref_md_m1 a b c n r x y z w ha hb hc a1 a2 b1 b2 c1 c2 hz' hd1 hn HD da db dc hr hr2
    · rw [away_m2 h0]
      by_cases hg : c.natAbs < 2 * r
      · rw [decide_eq_true (Or.inl hg), if_pos rfl]
        exact ref_md_gt a b c n r x y z w ha hb hc a1 a2 b1 b2 c1 c2 hz' hd1 hn HD da db dc hr hr2 (by omega)
      · have hg' : decide ((c.natAbs : Int) < 2 * r) = false := decide_eq_false (by omega)
        by_cases he : 2 * r = c.natAbs
        · have he' : (2 * (r : Int) == c.natAbs) = true := by simp; omega
          by_cases hp : n % 2 = 1
          · rw [decide_eq_true (Or.inr ⟨he, hp⟩), if_pos rfl]
            exact ref_md_e1 a b c n r x y z w ha hb hc a1 a2 b1 b2 c1 c2 hz' hd1 hn HD da db dc hr hr2 hg' he' (by simp; omega)
          · rw [decide_eq_false (by omega), if_neg (by decide)]
            exact ref_md_e0 a b c n r x y z w ha hb hc a1 a2 b1 b2 c1 c2 hz' hd1 hn HD da db dc hr hr2 hg' he' (by simp; omega)
        · rw [decide_eq_false (by omega), if_neg (by decide)]
          exact ref_md_lt a b c n r x y z w ha hb hc a1 a2 b1 b2 c1 c2 hz' hd1 hn HD da db dc hr hr2 hg' (by simp; omega)

/-- A quotient that is cut off is out of range all the same. -/
theorem md_cap {a b c m : Int} {neg : Bool} {n : Nat} (hn : negB a b c = neg) (hq : n = capQ (a.natAbs * b.natAbs) c.natAbs) :
    okV (sg neg (n + if awayB n (rr a b c.natAbs) c.natAbs m neg then 1 else 0)) = okV (mdR a b c m) ∧ okE (sg neg (n + if awayB n (rr a b c.natAbs) c.natAbs m neg then 1 else 0)) = okE (mdR a b c m) := by
  by_cases h : qq a b c.natAbs ≤ 1125899906842624
  · have e : n = qq a b c.natAbs := by unfold qq at h ⊢; unfold capQ at hq; omega
    rw [e, mdR_of hn rfl rfl]
    exact ⟨rfl, rfl⟩
  · have hbig : 1125899906842624 < n := by unfold qq at h; unfold capQ at hq; omega
    have o1 := mdR_big (m := m) (show 1125899906842624 < qq a b c.natAbs by omega)
    have o2 : sg neg (n + if awayB n (rr a b c.natAbs) c.natAbs m neg then 1 else 0) < -1125899906842624 ∨ 1125899906842624 < sg neg (n + if awayB n (rr a b c.natAbs) c.natAbs m neg then 1 else 0) := sg_out (by omega)
    rw [okV_no o1, okE_no o1, okV_no o2, okE_no o2]
    exact ⟨rfl, rfl⟩

set_option maxHeartbeats 400000 in
theorem ref_muldiv (a b c m : Int) (w : World) :
    Calls Try.prog 45 #[.int .i64 a, .int .i64 b, .int .i64 c, .int .i64 m] w fun e w' => e = .returned (.tuple #[.int .i64 (mdV a b c m), .int .i64 (mdE a b c m)]) ∧ Below w.heap.size w w' := by
  rcases inB_cases a with ⟨ha, a1, a2⟩ | ⟨ha, na⟩
  rotate_left
  · rw [mdV_out (fun k => na k.1), mdE_out (fun k => na k.1)]
    clear na
    go_enter Try.func45, Try.ntmps45
    go_wp2_with (go_at_call 61; refine (ref_in _ _).mono ?_; rintro e w' ⟨rfl, rfl⟩)
    go_ret2
    exact ⟨rfl, Below.refl _ _⟩
  rcases inB_cases b with ⟨hb, b1, b2⟩ | ⟨hb, nb⟩
  rotate_left
  · rw [mdV_out (fun k => nb k.2.1), mdE_out (fun k => nb k.2.1)]
    clear nb
    go_enter Try.func45, Try.ntmps45
    go_wp2_with (go_at_call 61; refine (ref_in _ _).mono ?_; rintro e w' ⟨rfl, rfl⟩)
    go_ret2
    exact ⟨rfl, Below.refl _ _⟩
  rcases inB_cases c with ⟨hc, c1, c2⟩ | ⟨hc, nc⟩
  rotate_left
  · rw [mdV_out (fun k => nc k.2.2), mdE_out (fun k => nc k.2.2)]
    clear nc
    go_enter Try.func45, Try.ntmps45
    go_wp2_with (go_at_call 61; refine (ref_in _ _).mono ?_; rintro e w' ⟨rfl, rfl⟩)
    go_ret2
    exact ⟨rfl, Below.refl _ _⟩
  have hin : InR a ∧ InR b ∧ InR c := ⟨⟨a1, a2⟩, ⟨b1, b2⟩, ⟨c1, c2⟩⟩
  by_cases hz : c = 0
  · rw [mdV_zero hin hz, mdE_zero hin hz]
    subst hz
    clear hin
    go_enter Try.func45, Try.ntmps45
    go_wp2_with (go_at_call 61; refine (ref_in _ _).mono ?_; rintro e w' ⟨rfl, rfl⟩)
    go_ret2
    exact ⟨rfl, Below.refl _ _⟩
  have hz' : (c == 0) = false := by simpa using hz
  by_cases hm : m < 0 ∨ 2 < m
  · rw [mdV_kind hin hz hm, mdE_kind hin hz hm]
    clear hin hz
    rcases hm with hm | hm
    · go_enter Try.func45, Try.ntmps45
      go_wp2_with (go_at_call 61; refine (ref_in _ _).mono ?_; rintro e w' ⟨rfl, rfl⟩)
      go_ret2
      exact ⟨rfl, Below.refl _ _⟩
    · have hm' : decide (m < 0) = false := decide_eq_false (by omega)
      go_enter Try.func45, Try.ntmps45
      go_wp2_with (go_at_call 61; refine (ref_in _ _).mono ?_; rintro e w' ⟨rfl, rfl⟩)
      go_ret2
      exact ⟨rfl, Below.refl _ _⟩
  rw [mdV_in hin hz hm, mdE_in hin hz hm]
  have hd1 : 1 ≤ c.natAbs := by omega
  obtain ⟨n, hn⟩ : ∃ n, n = capQ (a.natAbs * b.natAbs) c.natAbs := ⟨_, rfl⟩
  have hn2 : (n : Int) ≤ 4503599627370496 := by unfold capQ at hn; omega
  have hr2 : ((rr a b c.natAbs : Nat) : Int) ≤ 1125899906842624 := by have := rr_lt a b hd1; omega
  have hD : DivAt a b c n (rr a b c.natAbs) := fun W => by rw [hn]; exact ref_divide a.natAbs b.natAbs c.natAbs W (by omega) (by omega) hd1 (by omega)
  have h := ref_md_all a b c m n (rr a b c.natAbs) _ _ _ w ha hb hc a1 a2 b1 b2 c1 c2 hz' (by omega) hn2 hr2 (Lib.hid hD) rfl rfl rfl (by omega) (by omega)
  have e := md_cap (m := m) (show negB a b c = ((decide (a < 0) != decide (b < 0)) != decide (c < 0)) from rfl) hn
  rw [e.1, e.2] at h
  exact h
end Go.Proofs.Ytgomokdklajlcaa.Num
/- Split, Masses of the reference. -/
namespace Go.Proofs.Ytgomokdklajlcaa.Fibre
open Go.ChangeShapes Go.WideShapes Go.RowKit Go.Lib Go.Proofs.Ytgomokdklajlcaa.Mem
open Go.Proofs.Ytgomokdklajlcaa.Share (Ok sumK partsL partsL_len partsL_at wf wf_at sm tw part quo rst lft rank FM lefts gots lefts_best lefts_next gots_next gots_zero lefts_zero lst lst_at lst_len lst_set lst_congr upL upL_len upL_zero upL_at upL_set upL_all one_made zeros quo_le quo_rst rst_lt md_down)
set_option linter.unusedVariables false
set_option maxRecDepth 100000

/-- Weights of a recipe, and what is divided. -/
structure Rcp (t : Int) (ws : List Int) : Prop where
  t0 : 0 ≤ t
  t1 : t ≤ MM
  n0 : 1 ≤ ws.length
  n1 : ws.length ≤ 8
  all : ∀ z ∈ ws, 0 ≤ z ∧ z ≤ 1000
  sum : sumZ ws = 1000
theorem Rcp.ok {t : Int} {ws : List Int} (h : Rcp t ws) : Ok t ws := by
  have hM : MM = 1099511627776 := rfl
  have h1 := h.t1
  have hmx : Share.mx = 1125899906842624 := rfl
  have hs : sumK ws ws.length = 1000 := h.sum
  refine ⟨h.t0, by omega, by have := h.n0; omega, by have := h.n1; omega, fun z hz => by have := h.all z hz; omega, by omega, fun h0 => by omega⟩
theorem Rcp.tw {t : Int} {ws : List Int} (h : Rcp t ws) : Share.tw (wf ws) ws.length = 1000 := by
  have h1 := h.ok.twI
  have hs : sumK ws ws.length = 1000 := h.sum
  omega
set_option maxHeartbeats 3200000 in
theorem rr_Split (t : Int) (ws : List Int) (A : Option Addr) (n c : Nat) (hn : ws.length = n) (w : World) (hS : Cl eI w A ws) (h : Rcp t ws) :
    Calls Try.prog 43 #[.int .i64 t, .slice A n c] w fun e w' => ∃ v, e = .returned v ∧ Own eI 3 w.heap.size w' v (partsL t ws) ∧ Below w.heap.size w w' := by
  have ok := h.ok
  have hW := h.tw
  obtain ⟨T, hT⟩ : ∃ T : Nat, T = t.toNat := ⟨_, rfl⟩
  have ht : t = (T : Int) := by have := ok.t0; omega
  have hTm : T ≤ 1099511627776 := by have h1 := h.t1; have hM : MM = 1099511627776 := rfl; omega
  have HSum := Lib.hid (rr_Sum ws A n c hn.symm w hS (by rw [← hn]; exact h.n1) fun z hz => by have := h.all z hz; have hM : MM = 1099511627776 := rfl; omega)
  rw [h.sum] at HSum
  have HLN : Hid (n ≤ 8 ∧ 0 < n) := Lib.hid (by have := h.n0; have := h.n1; omega)
  have HTM := Lib.hid hTm
  have HRK := Lib.hid (show ∀ k b, k < ws.length → FM (lefts (rst t.toNat (wf ws) ws.length) ws.length k) ws.length b → b < ws.length ∧ rank (rst t.toNat (wf ws) ws.length) ws.length b = k from fun k b hk h => ⟨h.1, lefts_best hk h⟩)
  obtain ⟨q, hq⟩ : ∃ q, q = quo t.toNat (wf ws) ws.length := ⟨_, rfl⟩
  obtain ⟨r, hr⟩ : ∃ r, r = rst t.toNat (wf ws) ws.length := ⟨_, rfl⟩
  obtain ⟨L, hL⟩ : ∃ L, L = lft t.toNat (wf ws) ws.length := ⟨_, rfl⟩
  have HFIN : Hid (lst (fun j => (gots q r ws.length L j : Int)) ws.length = partsL t ws) := by
    show _ = _
    unfold partsL lst
    exact List.map_congr_left fun i hi => by rw [hq, hr, hL, ok.gots (List.mem_range.mp hi)]
  have HLL : Hid (L ≤ ws.length) := hL ▸ ok.lft_le
  have HSUM : Hid (∀ k, k ≤ ws.length → sm q k ≤ T) := fun k hk => by rw [hq, hT]; exact ok.quo_sum hk
  have HLQ : Hid (L = T - sm q ws.length) := by show L = _; rw [hL, hq, hT]; rfl
  have hwle : ∀ i, i < ws.length → wf ws i ≤ 1000 := fun i hi => by have := ok.w_le hi; omega
  have HDV : Hid (∀ i, i < ws.length → ∀ W', Calls Try.prog 45 #[.int .i64 (T : Int), .int .i64 (wf ws i : Int), .int .i64 1000, .int .i64 0] W' fun e w' => ∃ E, e = .returned (.tuple #[.int .i64 (q i : Int), .int .i64 E]) ∧ Below W'.heap.size W' w') := fun i hi W' => by
    have h1 := Num.ref_muldiv (T : Int) (wf ws i : Int) 1000 0 W'
    have h2 : Num.mdV (T : Int) (wf ws i : Int) 1000 0 = (q i : Int) := by
      have := md_down (T := T) (w := wf ws i) (W := 1000) (by omega) (by omega) (hwle i hi) (by omega)
      rw [show ((1000 : Nat) : Int) = 1000 from rfl] at this
      rw [this, hq]
      unfold quo
      rw [hW, hT]
    rw [h2] at h1
    exact h1.mono fun e w' ⟨h3, h4⟩ => ⟨_, h3, h4⟩
  have HQR0 : Hid (∀ i, i < ws.length → 1000 * q i + r i = T * wf ws i ∧ r i < 1000) := fun i hi => by
    have h1 := quo_rst (T := t.toNat) (w := wf ws) (n := ws.length) i
    have h2 := rst_lt (T := t.toNat) (w := wf ws) (n := ws.length) (by omega) i
    rw [hW] at h1 h2
    rw [hq, hr, hT]
    exact ⟨h1, h2⟩
  have HWF : Hid (∀ (i : Nat) z, ws[i]? = some z → z = (wf ws i : Int)) := fun i z hz => (wf_at hz (ok.all z (List.mem_of_getElem? hz)).1).symm
  have HWL := Lib.hid hwle
  have HQL : Hid (∀ i, i < ws.length → q i ≤ 1125899906842624) := fun i hi => by rw [hq]; exact Nat.le_trans (quo_le hi) (by omega)
  have HS := Lib.hid hS
  rw [← hr] at HRK
  have HN := Lib.hid hn
  rw [hn] at HFIN HLL HSUM HLQ HDV HRK HQR0 HWL HQL
  have hn8 := HLN.out.1
  have hmk := fun W => make_ints n (by omega) W
  subst ht
  clear hS hW ok hT hq hr hL hn hTm h hwle
  go_enter Try.func43, Try.ntmps43
  go_wp2_with fail
  refine HSum.out.mono ?_
  rintro e w1 ⟨rfl, hb1⟩
  have HB1 := Lib.hid hb1
  clear hb1
  go_upto_region 4 with fail
  have HM1 := Lib.hid (one_made w1 n (by omega))
  have HM2 := Lib.hid (one_made (w1.alloc (zeros n)) n (by omega))
  have hsz : (w1.alloc (zeros n)).heap.size = w1.heap.size + 1 := by simp
  obtain ⟨w2, hw2⟩ : ∃ W, (w1.alloc (zeros n)).alloc (zeros n) = W := ⟨_, rfl⟩
  obtain ⟨gp, hgp⟩ : ∃ g, w1.heap.size = g := ⟨_, rfl⟩
  obtain ⟨gr, hgr⟩ : ∃ g, gp + 1 = g := ⟨_, rfl⟩
  rw [hsz] at HM2
  have HOP : Hid (Own eI 3 gp w2 (.slice (some ⟨gp, 0, none⟩) n n) (lst (fun _ => 0) n)) := hgp ▸ hw2 ▸ HM1.out.alloc _
  have HOR : Hid (Own eI 3 gp w2 (.slice (some ⟨gr, 0, none⟩) n n) (lst (fun _ => 0) n)) := by
    have h1 := HM2.out.less (B' := w1.heap.size) (by omega)
    rw [hw2, hgp, hgr] at h1
    exact h1
  have HB0 : Hid (Below w.heap.size w w2) := Lib.hid (by
    have h1 := bstep HB1.out (bstep (below_alloc w1 (zeros n)) (below_alloc _ (zeros n)))
    rw [hw2] at h1
    exact h1)
  have HNE : Hid (gp ≠ gr) := (by omega : gp ≠ gr)
  have HGP : Hid (w.heap.size ≤ gp) := Lib.hid (by rw [← hgp]; exact HB1.out.size)
  rw [hw2, hgp, hgr]
  clear hw2 hgp hgr hsz hmk HM1 HM2 HB1
  go_wp2_with fail
  go_loopw [8, 9] (fun l x wr => ∃ k M : Nat, l = .int .i64 (M : Int) ∧ x = .int .i64 (k : Int) ∧ k ≤ n ∧ M = T - sm q k ∧ Own eI 3 gp wr (.slice (some ⟨gp, 0, none⟩) n n) (upL q k n) ∧ Own eI 3 gp wr (.slice (some ⟨gr, 0, none⟩) n n) (upL r k n) ∧ Below gp w2 wr) (fun _ x _ => n - (RowKit.intOf x).toNat)
  case atStart => exact ⟨0, T, rfl, rfl, Nat.zero_le _, rfl, by rw [upL_zero]; exact HOP.out, by rw [upL_zero]; exact HOR.out, Below.refl _ _⟩
  case round =>
    obtain ⟨k, M, rfl, rfl, hk, hM, hop, hor, hbel⟩ := hrel
    have HOP2 := Lib.hid hop
    have HOR2 := Lib.hid hor
    have HB := Lib.hid hbel
    have HM := Lib.hid hM
    clear hop hor hbel hM
    rcases Nat.lt_or_ge k n with hlt | hge
    · obtain ⟨z, hz⟩ := get_lt (L := ws) (k := k) (by rw [HN.out]; exact hlt)
      obtain ⟨b, off, hA, hb0, hcell0⟩ := HS.out k z hz
      have hbg : b < gp := Nat.lt_of_lt_of_le hb0 HGP.out
      have hcell : wr.cell? ⟨b, off + k, none⟩ = some (.int .i64 z) := ((HB0.out.trans (HB.out.mono HGP.out)).cell (p := ⟨b, off + k, none⟩) hb0).trans hcell0
      obtain rfl := hA
      obtain rfl := HWF.out k z hz
      have HZ := Lib.hid hz
      have HCALL := Lib.hid (HDV.out k hlt wr)
      have hqr := HQR0.out k hlt
      have hwl := HWL.out k hlt
      obtain ⟨x, hx⟩ : ∃ x, x = wf ws k := ⟨_, rfl⟩
      obtain ⟨Q, hQ⟩ : ∃ x, x = q k := ⟨_, rfl⟩
      obtain ⟨R, hR⟩ : ∃ x, x = r k := ⟨_, rfl⟩
      rw [← hx] at hcell hcell0 HCALL hqr hwl
      rw [← hQ] at HCALL hqr
      rw [← hR] at hqr
      have HQR := Lib.hid (show Q = q k ∧ R = r k from ⟨hQ, hR⟩)
      have i1 : (k : Int) < (n : Int) := by omega
      have i2 : (0 : Int) ≤ (k : Int) := by omega
      have hk1 : IntKind.i64.wrap ((k : Int) + 1) = ((k + 1 : Nat) : Int) := Rw.wrap_id (by omega)
      have HSK := Lib.hid (show sm q (k + 1) ≤ T ∧ sm q (k + 1) = sm q k + Q by
        refine ⟨HSUM.out _ hlt, by rw [HQR.out.1]; rfl⟩)
      have hQT : Q ≤ T := by have := HSK.out; omega
      have hTx : T * x ≤ 1099511627776000 := by
        have h1 : T * x ≤ 1099511627776 * 1000 := Nat.mul_le_mul HTM.out hwl
        omega
      obtain ⟨P1, hP1⟩ : ∃ P : Int, ((T : Int) * (x : Int)) = P := ⟨_, rfl⟩
      obtain ⟨P2, hP2⟩ : ∃ P : Int, ((Q : Int) * 1000) = P := ⟨_, rfl⟩
      have hTxI : (T : Int) * (x : Int) = ((T * x : Nat) : Int) := by simp
      have hPR : P1 - P2 = (R : Int) := by rw [← hP1, ← hP2, hTxI, ← hqr.1]; push_cast; omega
      have hR1 := hqr.2
      have w1' : IntKind.i64.wrap P1 = P1 := Rw.wrap_id (by rw [← hP1, hTxI]; omega)
      have w2' : IntKind.i64.wrap P2 = P2 := Rw.wrap_id (by have := HTM.out; omega)
      have w3' : IntKind.i64.wrap (R : Int) = (R : Int) := Rw.wrap_id (by omega)
      clear hz hx hQ hR hb0 hcell0 hk hqr hTx hTxI hwl
      go_wp2_with fail
      refine HCALL.out.mono ?_
      rintro e w3 ⟨E, rfl, hb3⟩
      have hbw : b < wr.heap.size := by have := (HOP2.out.lt gp rfl).2; omega
      have hcell3 : w3.cell? ⟨b, off + k, none⟩ = some (.int .i64 (x : Int)) := (hb3.cell (p := ⟨b, off + k, none⟩) hbw).trans hcell
      have HOP3 := Lib.hid (HOP2.out.on hb3)
      have HOR3 := Lib.hid (HOR2.out.on hb3)
      have HB3 : Hid (Below gp w2 w3) := Lib.hid (HB.out.trans (hb3.mono (Nat.le_of_lt (HOP2.out.lt gp rfl).2)))
      clear hb3 hcell hbw
      have cp := HOP3.out.cell (upL_at q hlt)
      have fp := HOP3.out.warm (upL_len q k n).symm k
      go_upto_region 10 with fail
      obtain ⟨w4, hw4⟩ : ∃ W, w3.setCell ⟨gp, k, none⟩ (.int .i64 (Q : Int)) = W := ⟨_, rfl⟩
      have hgr2 : gr ≠ gp := fun e => HNE.out e.symm
      have HOP4 : Hid (Own eI 3 gp w4 (.slice (some ⟨gp, 0, none⟩) n n) (upL q (k + 1) n)) := Lib.hid (by
        have h1 := HOP3.out.set (upL_len q k n).symm k (Q : Int)
        rw [HQR.out.1, upL_set q hlt] at h1
        rw [← hw4, HQR.out.1]
        exact h1)
      have HOR4 : Hid (Own eI 3 gp w4 (.slice (some ⟨gr, 0, none⟩) n n) (upL r k n)) := Lib.hid (by
        rw [← hw4]
        exact HOR3.out.other (p := ⟨gp, k, none⟩) (by show some gr ≠ some gp; simpa using hgr2) _)
      have hcell4 : w4.cell? ⟨b, off + k, none⟩ = some (.int .i64 (x : Int)) := by
        rw [← hw4, World.cell?_setCell_other w3 _ _ _ (fun e => by have := congrArg Addr.block e; simp only at this; omega)]
        exact hcell3
      have HB4 : Hid (Below gp w2 w4) := Lib.hid (hw4 ▸ below_set HB3.out (p := ⟨gp, k, none⟩) (Nat.le_refl _) _)
      rw [hw4]
      clear hw4 cp fp hcell3
      have cr := HOR4.out.cell (upL_at r hlt)
      have fr := HOR4.out.warm (upL_len r k n).symm k
      go_upto_region 11 with fail
      obtain ⟨w5, hw5⟩ : ∃ W, w4.setCell ⟨gr, k, none⟩ (.int .i64 (R : Int)) = W := ⟨_, rfl⟩
      have HPP : Hid (Own eI 3 gp w5 (.slice (some ⟨gp, 0, none⟩) n n) (upL q (k + 1) n)) := Lib.hid (by
        rw [← hw5]
        exact HOP4.out.other (p := ⟨gr, k, none⟩) (by show some gp ≠ some gr; simpa using HNE.out) _)
      have HRR : Hid (Own eI 3 gp w5 (.slice (some ⟨gr, 0, none⟩) n n) (upL r (k + 1) n)) := Lib.hid (by
        have h2 := HOR4.out.set (upL_len r k n).symm k (R : Int)
        rw [HQR.out.2, upL_set r hlt] at h2
        rw [← hw5, HQR.out.2]
        exact h2)
      have HBB : Hid (Below gp w2 w5) := Lib.hid (hw5 ▸ below_set HB4.out (p := ⟨gr, k, none⟩) (HOR4.out.lt gr rfl).1 _)
      rw [hw5]
      clear hw5 cr fr hcell4
      obtain ⟨M', hM'⟩ : ∃ x, x = M - Q := ⟨_, rfl⟩
      have HMM := Lib.hid (show M' = T - sm q (k + 1) ∧ Q ≤ M ∧ M' = M - Q by have := HM.out; have := HSK.out; omega)
      have hwm : IntKind.i64.wrap ((M : Int) - (Q : Int)) = (M' : Int) := by
        have h1 := HMM.out
        have h4 := HM.out
        have h5 := HTM.out
        rw [Rw.wrap_id (by omega)]; omega
      have HLT := Lib.hid hlt
      clear hM' hlt hPR w1' w2' w3' hP1 hP2 hR1 hQT
      go_wp2_with fail
      go_roundw
      case rel => exact ⟨k + 1, M', rfl, rfl, HLT.out, HMM.out.1, HPP.out, HRR.out, HBB.out⟩
      case measure =>
        have := HLT.out
        simp [RowKit.intOf]; omega
    · obtain rfl : n = k := by omega
      obtain rfl : L = M := by have h1 := HM.out; have h2 := HLQ.out; omega
      have HOP4 : Hid (Own eI 3 gp wr (.slice (some ⟨gp, 0, none⟩) n n) (lst (fun j => (gots q r n 0 j : Int)) n)) := by
        have h1 := HOP2.out
        rw [upL_all] at h1
        rw [lst_congr (g := fun j => (q j : Int)) fun i _ => by rw [gots_zero]]
        exact h1
      have HOR4 : Hid (Own eI 3 gp wr (.slice (some ⟨gr, 0, none⟩) n n) (lst (lefts r n 0) n)) := by
        have h1 := HOR2.out
        rw [upL_all] at h1
        rw [lst_congr (g := fun j => (r j : Int)) fun i _ => lefts_zero r n i]
        exact h1
      clear hk hge
      go_wp2_with fail
      go_loopw [8, 12, 13] (fun l _ _ wr' => ∃ k M : Nat, l = .int .i64 (M : Int) ∧ k + M = L ∧ Own eI 3 gp wr' (.slice (some ⟨gp, 0, none⟩) n n) (lst (fun j => (gots q r n k j : Int)) n) ∧ Own eI 3 gp wr' (.slice (some ⟨gr, 0, none⟩) n n) (lst (lefts r n k) n) ∧ Below gp w2 wr') (fun l _ _ _ => (RowKit.intOf l).toNat)
      case atStart => exact ⟨0, L, rfl, by omega, HOP4.out, HOR4.out, HB.out⟩
      case round =>
        obtain ⟨k, M, rfl, hkM, hop, hor, hbel⟩ := hrel
        have HOP5 := Lib.hid hop
        have HOR5 := Lib.hid hor
        have HB5 := Lib.hid hbel
        have HKM := Lib.hid hkM
        have hLn := HLL.out
        clear hop hor hbel
        rcases Nat.eq_zero_or_pos M with rfl | hpos
        · obtain rfl : k = L := by omega
          have HOF : Hid (Own eI 3 w.heap.size wr (.slice (some ⟨gp, 0, none⟩) n n) (partsL (T : Int) ws)) := by
            rw [← HFIN.out]
            exact HOP5.out.less HGP.out
          have HBF : Hid (Below w.heap.size w wr) := HB0.out.trans (HB5.out.mono HGP.out)
          clear hkM hLn
          go_wp2_with fail
          go_ret
          exact ⟨_, rfl, HOF.out, HBF.out⟩
        · have HKN : Hid (k < n) := (by omega : k < n)
          have f1 : 0 < M := hpos
          obtain ⟨M1, hM1⟩ : ∃ x, x = M - 1 := ⟨_, rfl⟩
          have hwm : IntKind.i64.wrap ((M : Int) - 1) = (M1 : Int) := by rw [wrap_id (by omega)]; omega
          have HMM := Lib.hid (show k + 1 + M1 = L ∧ M1 < M by omega)
          clear hkM hLn hpos hM1
          go_wp2_with fail
          go_loopw [12, 13] (fun b x wr2 => ∃ i j : Nat, b = .int .i64 (j : Int) ∧ x = .int .i64 (i : Int) ∧ i ≤ n ∧ FM (lefts r n k) i j ∧ Own eI 3 gp wr2 (.slice (some ⟨gp, 0, none⟩) n n) (lst (fun j => (gots q r n k j : Int)) n) ∧ Own eI 3 gp wr2 (.slice (some ⟨gr, 0, none⟩) n n) (lst (lefts r n k) n) ∧ Below gp w2 wr2) (fun _ x _ => n - (RowKit.intOf x).toNat)
          case atStart => exact ⟨1, 0, rfl, rfl, by have := HKN.out; omega, FM.start _, HOP5.out, HOR5.out, HB5.out⟩
          case round =>
            obtain ⟨i, j, rfl, rfl, hi, hfm, hop, hor, hbel⟩ := hrel
            have HOP6 := Lib.hid hop
            have HOR6 := Lib.hid hor
            have HB6 := Lib.hid hbel
            have HFM := Lib.hid hfm
            have hn6 := hn8
            clear hop hor hbel hfm
            rcases Nat.lt_or_ge i n with hlt | hge
            · have ci := HOR6.out.cell (lst_at (lefts r n k) hlt)
              have cj := HOR6.out.cell (lst_at (lefts r n k) (show j < n from Nat.lt_trans HFM.out.1 hlt))
              obtain ⟨x, hx⟩ : ∃ x, x = lefts r n k i := ⟨_, rfl⟩
              obtain ⟨y, hy⟩ : ∃ y, y = lefts r n k j := ⟨_, rfl⟩
              rw [← hx] at ci
              rw [← hy] at cj
              have hji := HFM.out.1
              have i1 : (i : Int) < (n : Int) := by omega
              have i2 : (0 : Int) ≤ (i : Int) := by omega
              have i3 : (j : Int) < (n : Int) := by omega
              have i4 : (0 : Int) ≤ (j : Int) := by omega
              have hk1 : IntKind.i64.wrap ((i : Int) + 1) = ((i + 1 : Nat) : Int) := wrap_id (by omega)
              have HLT := Lib.hid hlt
              rcases Int.lt_or_le y x with hc | hc
              · have HFN : Hid (FM (lefts r n k) (i + 1) i) := HFM.out.new (by rw [← hx, ← hy]; exact hc)
                clear hx hy hji hi hlt hn6
                go_wp2_with fail
                go_quiet (fail)
                go_wp2_with fail
                go_roundw
                case rel => exact ⟨i + 1, i, rfl, rfl, HLT.out, HFN.out, HOP6.out.drewN _, HOR6.out.drewN _, below_drewN HB6.out _⟩
                case measure =>
                  have := HLT.out
                  simp [RowKit.intOf]; omega
              · have HFN : Hid (FM (lefts r n k) (i + 1) j) := HFM.out.old (by rw [← hx, ← hy]; exact hc)
                have hc2 : ¬ y < x := by omega
                clear hx hy hji hi hlt hc hn6
                go_wp2_with fail
                go_quiet (fail)
                go_wp2_with fail
                go_roundw
                case rel => exact ⟨i + 1, j, rfl, rfl, HLT.out, HFN.out, HOP6.out.drewN _, HOR6.out.drewN _, below_drewN HB6.out _⟩
                case measure =>
                  have := HLT.out
                  simp [RowKit.intOf]; omega
            · obtain rfl : n = i := by omega
              have HJ := Lib.hid (HRK.out k j HKN.out HFM.out)
              have hj := HJ.out.1
              have cx := HOP6.out.cell (lst_at (fun j => (gots q r n k j : Int)) hj)
              have cz := HOR6.out.cell (lst_at (lefts r n k) hj)
              have fx := HOP6.out.warm (lst_len _ n).symm j
              have fz := HOR6.out.warm (lst_len _ n).symm j
              obtain ⟨G, hG⟩ : ∃ x', x' = gots q r n k j := ⟨_, rfl⟩
              obtain ⟨Z, hZ⟩ : ∃ x', x' = lefts r n k j := ⟨_, rfl⟩
              rw [← hG] at cx
              rw [← hZ] at cz
              have hGb : G ≤ 1125899906842625 := by
                have h1 := HQL.out j hj
                rw [hG]; unfold gots; split <;> omega
              have hne2 : gr ≠ gp := fun e => HNE.out e.symm
              have hne1 := HNE.out
              have HNX : Hid (Own eI 3 gp ((wr.setCell ⟨gp, j, none⟩ (.int .i64 ((G + 1 : Nat) : Int))).setCell ⟨gr, j, none⟩ (.int .i64 (-1))) (.slice (some ⟨gp, 0, none⟩) n n) (lst (fun j => (gots q r n (k + 1) j : Int)) n)) := by
                have h1 := HOP6.out.set (lst_len _ n).symm j ((G + 1 : Nat) : Int)
                rw [lst_set (g := fun j => (gots q r n (k + 1) j : Int)) hj fun i hi => by
                  rw [gots_next hj HJ.out.2 hi]
                  by_cases h2 : i = j
                  · rw [if_pos h2, if_pos h2, h2, hG]
                  · rw [if_neg h2, if_neg h2]] at h1
                exact h1.other (p := ⟨gr, j, none⟩) (by show some gp ≠ some gr; simpa using HNE.out) _
              have HRX : Hid (Own eI 3 gp ((wr.setCell ⟨gp, j, none⟩ (.int .i64 ((G + 1 : Nat) : Int))).setCell ⟨gr, j, none⟩ (.int .i64 (-1))) (.slice (some ⟨gr, 0, none⟩) n n) (lst (lefts r n (k + 1)) n)) := by
                have h1 := HOR6.out.other (p := ⟨gp, j, none⟩) (by show some gr ≠ some gp; simpa using hne2) (.int .i64 ((G + 1 : Nat) : Int))
                have h2 := h1.set (lst_len _ n).symm j (-1)
                rw [lst_set (g := lefts r n (k + 1)) hj fun i hi => lefts_next hj HJ.out.2 hi] at h2
                exact h2
              have HBX : Hid (Below gp w2 ((wr.setCell ⟨gp, j, none⟩ (.int .i64 ((G + 1 : Nat) : Int))).setCell ⟨gr, j, none⟩ (.int .i64 (-1)))) := below_set (below_set HB6.out (p := ⟨gp, j, none⟩) (Nat.le_refl _) _) (p := ⟨gr, j, none⟩) (HOR6.out.lt gr rfl).1 _
              have i3 : (j : Int) < (n : Int) := by omega
              have i4 : (0 : Int) ≤ (j : Int) := by omega
              have hg1 : IntKind.i64.wrap ((G : Int) + 1) = ((G + 1 : Nat) : Int) := wrap_id (by omega)
              clear hG hGb hj hi hge hZ hn6
              go_wp2_with fail
              go_roundw
              case rel => exact ⟨k + 1, M1, rfl, HMM.out.1, HNX.out, HRX.out, HBX.out⟩
              case measure =>
                have := HMM.out
                simp [RowKit.intOf]; omega

end Go.Proofs.Ytgomokdklajlcaa.Fibre
/- Rows of integers; slices.Sort and slices.Compact at a row of the call's own. -/
namespace Go.Proofs.Ytgomokdklajlcaa.Rw
open Go.ChangeShapes Go.WideShapes Go.RowKit Go.Lib
set_option linter.unusedVariables false
set_option maxRecDepth 100000

/-! ### Sorted lists without repetition (pure) -/
def AscI (l : List Int) : Prop := l.Pairwise (· < ·)
theorem compact_uptoI {d : Array Int} (hs : ∀ i j : Nat, i ≤ j → j < d.size → d[i]! ≤ d[j]!) : ∀ m, m ≤ d.size →
    AscI (Lib.compactUpTo d m) ∧ (∀ x, x ∈ Lib.compactUpTo d m ↔ ∃ j, j < m ∧ d[j]! = x) := by
  intro m
  induction m with
  | zero => intro _; exact ⟨List.Pairwise.nil, fun x => ⟨fun h => by simp [Lib.compactUpTo] at h, fun ⟨j, h, _⟩ => by omega⟩⟩
  | succ m ih =>
    intro hm
    obtain ⟨h1, h2⟩ := ih (by omega)
    rw [Lib.compactUpTo_succ]
    cases hk : Lib.keeps d m with
    | true =>
      simp only [if_true]
      refine ⟨List.pairwise_append.mpr ⟨h1, List.pairwise_singleton _ _, fun x hx y hy => ?_⟩, fun x => ?_⟩
      · rw [List.mem_singleton] at hy
        subst hy
        obtain ⟨j, hj, rfl⟩ := (h2 x).mp hx
        have hne : d[m]! ≠ d[m - 1]! := by
          intro e
          rw [Lib.keeps_neg (by omega) e] at hk; cases hk
        have a1 := hs j (m - 1) (by omega) (by omega)
        have a2 := hs (m - 1) m (by omega) (by omega)
        omega
      · rw [List.mem_append, List.mem_singleton, h2]
        constructor
        · rintro (⟨j, hj, e⟩ | rfl)
          · exact ⟨j, by omega, e⟩
          · exact ⟨m, by omega, rfl⟩
        · rintro ⟨j, hj, e⟩
          rcases Nat.lt_or_eq_of_le (Nat.le_of_lt_succ hj) with h | rfl
          · exact Or.inl ⟨j, h, e⟩
          · exact Or.inr e.symm
    | false =>
      simp only [Bool.false_eq_true, if_false, List.append_nil]
      refine ⟨h1, fun x => ?_⟩
      rw [h2]
      have hmm : 0 < m ∧ d[m]! = d[m - 1]! := by
        unfold Lib.keeps at hk
        have := of_decide_eq_false hk
        constructor
        · rcases Nat.eq_zero_or_pos m with h | h
          · exact absurd (Or.inl h) this
          · exact h
        · rcases Decidable.em (d[m]! = d[m - 1]!) with h | h
          · exact h
          · exact absurd (Or.inr h) this
      constructor
      · rintro ⟨j, hj, e⟩
        exact ⟨j, by omega, e⟩
      · rintro ⟨j, hj, e⟩
        rcases Nat.lt_or_eq_of_le (Nat.le_of_lt_succ hj) with h | rfl
        · exact ⟨j, h, e⟩
        · exact ⟨j - 1, by omega, by rw [← hmm.2]; exact e⟩
/-- What slices.Sort and slices.Compact make of a list. -/
def srtI (l : List Int) : List Int := l.mergeSort fun x y => decide (x ≤ y)
theorem srtI_len (l : List Int) : (srtI l).length = l.length := by unfold srtI; exact List.length_mergeSort l
theorem srtI_mem {l : List Int} {x : Int} : x ∈ srtI l ↔ x ∈ l := by unfold srtI; exact List.mem_mergeSort
theorem srtI_le (l : List Int) : (srtI l).Pairwise (· ≤ ·) := by
  have := List.pairwise_mergeSort (le := fun x y : Int => decide (x ≤ y)) (by intro a b c; simp only [decide_eq_true_eq]; omega) (by intro a b; simp only [Bool.or_eq_true, decide_eq_true_eq]; omega) l
  unfold srtI
  exact this.imp fun h => by simpa using h
def nubI (l : List Int) : List Int := Lib.compact (srtI l)
theorem nubI_is (l : List Int) : AscI (nubI l) ∧ ∀ x, x ∈ nubI l ↔ x ∈ l := by
  have hs : ∀ i j : Nat, i ≤ j → j < (srtI l).toArray.size → (srtI l).toArray[i]! ≤ (srtI l).toArray[j]! := by
    intro i j hij hj
    have hj' : j < (srtI l).length := by simpa using hj
    rw [getElem!_pos _ i (by simp; omega), getElem!_pos _ j (by simpa using hj)]
    simp only [List.getElem_toArray]
    rcases Nat.lt_or_eq_of_le hij with h | rfl
    · exact List.pairwise_iff_getElem.mp (srtI_le l) i j (by omega) hj' h
    · exact Int.le_refl _
  have := compact_uptoI hs (srtI l).length (by simp)
  unfold nubI Lib.compact
  refine ⟨this.1, fun x => ?_⟩
  rw [this.2, ← srtI_mem (l := l), List.mem_iff_getElem]
  constructor
  · rintro ⟨j, hj, e⟩
    rw [getElem!_pos _ j (by simpa using hj)] at e
    exact ⟨j, hj, by simpa using e⟩
  · rintro ⟨j, hj, e⟩
    refine ⟨j, hj, ?_⟩
    rw [getElem!_pos _ j (by simpa using hj)]
    simpa using e
theorem compact_leI (l : List Int) : (Lib.compact l).length ≤ l.length := by
  unfold Lib.compact Lib.compactUpTo
  rw [List.length_map]
  exact Nat.le_trans (List.length_filter_le _ _) (by simp)

/-! ### Rows of integers -/
abbrev cI (x : Int) : List Value := [.int .i64 x]
def eI (x : Int) : Value := .int .i64 x
theorem cI_len (x : Int) : (cI x).length = 1 := rfl
theorem info_i : (Try.prog.info? 3).map (fun i => (i.zero, i.size, i.bytes)) = some (some (.int .i64 0), 1, 8) := by kernel_rfl
theorem info_partsI {P : Program} {t : TypeId} {z : Value} {s y : Nat} (h : (P.info? t).map (fun i => (i.zero, i.size, i.bytes)) = some (some z, s, y)) : ∃ i, P.info? t = some i ∧ i.zero = some z ∧ i.size = s ∧ i.bytes = y := by
  cases hi : P.info? t with
  | none => rw [hi] at h; cases h
  | some i =>
    rw [hi] at h
    have h2 := Option.some.inj h
    exact ⟨i, rfl, congrArg (·.1) h2, congrArg (·.2.1) h2, congrArg (·.2.2) h2⟩
theorem kdI : Kd cI 1 27 3 := by
  obtain ⟨i, h1, h2, h3, h4⟩ := info_partsI info_i
  exact ⟨Try.underlying27, ⟨i, _, _, h1, h2, h3, rfl, rfl, by rw [h4]; decide⟩, cI_len, by decide, fun z u hu => by
    simp at hu
    subst hu; rfl⟩
theorem flat_cI (L : List Int) : L.flatMap cI = L.map eI := by
  induction L with
  | nil => rfl
  | cons x L ih => rw [List.flatMap_cons, ih]; rfl
theorem row_nilI {B : Nat} {w : World} {L : List Int} (h : Row cI 1 3 B w (.slice none 0 0) L) : L = [] := by
  obtain ⟨A, c, e, _⟩ := h.one cI_len
  have := (Value.slice.inj e).2.1
  exact List.eq_nil_of_length_eq_zero this.symm
/-- The elements of a literal. -/
theorem rd_lit {α : Type} {cs : α → List Value} {s : Nat} (hc : ∀ z, (cs z).length = s) {w : World} {g : Nat} {ty : TypeId} {L : List α} (h : w.heap[g]? = some (.cells (L.flatMap cs).toArray ty (0, 0))) : Rd cs s w (some ⟨g, 0, none⟩) L := by
  intro k z hz
  refine ⟨g, 0, rfl, (Array.getElem?_eq_some_iff.mp h).1, fun j u hu => ?_⟩
  rw [cell_of_row _ _ _ _ _ _ h, Nat.zero_add]
  have := flat_at hc hz hu
  simpa using this
end Go.Proofs.Ytgomokdklajlcaa.Rw
