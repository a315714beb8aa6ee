/- Several texts in one: RowI, PipeH, ShareF, PipeI, ZumM, ZumN. -/
import Derived.Test.YtihklpkpcnahkaaPk7
import Derived.Test.YtihklpkpcnahkaaPk2
import Derived.Lib.OwnBridge
import Derived.Test.YtihklpkpcnahkaaPk8
import Derived.Test.YtihklpkpcnahkaaPk6
import Derived.BigRegion
import Derived.Test.YtihklpkpcnahkaaPk3
import Derived.Lib.RabinKarpLaws
/- Rows of integers; slices.Sort and slices.Compact at a row of the call's own. -/
namespace Go.Proofs.Ytihklpkpcnahkaa.Rw
open Go.ChangeShapes Go.WideShapes Go.RowKit Go.Lib
set_option linter.unusedVariables false
set_option maxRecDepth 100000

/-! ### Sorted lists without repetition (pure) -/
def AscI (l : List Int) : Prop := l.Pairwise (· < ·)
theorem compact_uptoI {d : Array Int} (hs : ∀ i j : Nat, i ≤ j → j < d.size → d[i]! ≤ d[j]!) : ∀ m, m ≤ d.size →
    AscI (Lib.compactUpTo d m) ∧ (∀ x, x ∈ Lib.compactUpTo d m ↔ ∃ j, j < m ∧ d[j]! = x) := by
  intro m
  induction m with
  | zero => intro _; exact ⟨List.Pairwise.nil, fun x => ⟨fun h => by simp [Lib.compactUpTo] at h, fun ⟨j, h, _⟩ => by omega⟩⟩
  | succ m ih =>
    intro hm
    obtain ⟨h1, h2⟩ := ih (by omega)
    rw [Lib.compactUpTo_succ]
    cases hk : Lib.keeps d m with
    | true =>
      simp only [if_true]
      refine ⟨List.pairwise_append.mpr ⟨h1, List.pairwise_singleton _ _, fun x hx y hy => ?_⟩, fun x => ?_⟩
      · rw [List.mem_singleton] at hy
        subst hy
        obtain ⟨j, hj, rfl⟩ := (h2 x).mp hx
        have hne : d[m]! ≠ d[m - 1]! := by
          intro e
          rw [Lib.keeps_neg (by omega) e] at hk; cases hk
        have a1 := hs j (m - 1) (by omega) (by omega)
        have a2 := hs (m - 1) m (by omega) (by omega)
        omega
      · rw [List.mem_append, List.mem_singleton, h2]
        constructor
        · rintro (⟨j, hj, e⟩ | rfl)
          · exact ⟨j, by omega, e⟩
          · exact ⟨m, by omega, rfl⟩
        · rintro ⟨j, hj, e⟩
          rcases Nat.lt_or_eq_of_le (Nat.le_of_lt_succ hj) with h | rfl
          · exact Or.inl ⟨j, h, e⟩
          · exact Or.inr e.symm
    | false =>
      simp only [Bool.false_eq_true, if_false, List.append_nil]
      refine ⟨h1, fun x => ?_⟩
      rw [h2]
      have hmm : 0 < m ∧ d[m]! = d[m - 1]! := by
        unfold Lib.keeps at hk
        have := of_decide_eq_false hk
        constructor
        · rcases Nat.eq_zero_or_pos m with h | h
          · exact absurd (Or.inl h) this
          · exact h
        · rcases Decidable.em (d[m]! = d[m - 1]!) with h | h
          · exact h
          · exact absurd (Or.inr h) this
      constructor
      · rintro ⟨j, hj, e⟩
        exact ⟨j, by omega, e⟩
      · rintro ⟨j, hj, e⟩
        rcases Nat.lt_or_eq_of_le (Nat.le_of_lt_succ hj) with h | rfl
        · exact ⟨j, h, e⟩
        · exact ⟨j - 1, by omega, by rw [← hmm.2]; exact e⟩
/-- What slices.Sort and slices.Compact make of a list. -/
def srtI (l : List Int) : List Int := l.mergeSort fun x y => decide (x ≤ y)
theorem srtI_len (l : List Int) : (srtI l).length = l.length := by unfold srtI; exact List.length_mergeSort l
theorem srtI_mem {l : List Int} {x : Int} : x ∈ srtI l ↔ x ∈ l := by unfold srtI; exact List.mem_mergeSort
theorem srtI_le (l : List Int) : (srtI l).Pairwise (· ≤ ·) := by
  have := List.pairwise_mergeSort (le := fun x y : Int => decide (x ≤ y)) (by intro a b c; simp only [decide_eq_true_eq]; omega) (by intro a b; simp only [Bool.or_eq_true, decide_eq_true_eq]; omega) l
  unfold srtI
  exact this.imp fun h => by simpa using h
def nubI (l : List Int) : List Int := Lib.compact (srtI l)
theorem nubI_is (l : List Int) : AscI (nubI l) ∧ ∀ x, x ∈ nubI l ↔ x ∈ l := by
  have hs : ∀ i j : Nat, i ≤ j → j < (srtI l).toArray.size → (srtI l).toArray[i]! ≤ (srtI l).toArray[j]! := by
    intro i j hij hj
    have hj' : j < (srtI l).length := by simpa using hj
    rw [getElem!_pos _ i (by simp; omega), getElem!_pos _ j (by simpa using hj)]
    simp only [List.getElem_toArray]
    rcases Nat.lt_or_eq_of_le hij with h | rfl
    · exact List.pairwise_iff_getElem.mp (srtI_le l) i j (by omega) hj' h
    · exact Int.le_refl _
  have := compact_uptoI hs (srtI l).length (by simp)
  unfold nubI Lib.compact
  refine ⟨this.1, fun x => ?_⟩
  rw [this.2, ← srtI_mem (l := l), List.mem_iff_getElem]
  constructor
  · rintro ⟨j, hj, e⟩
    rw [getElem!_pos _ j (by simpa using hj)] at e
    exact ⟨j, hj, by simpa using e⟩
  · rintro ⟨j, hj, e⟩
    refine ⟨j, hj, ?_⟩
    rw [getElem!_pos _ j (by simpa using hj)]
    simpa using e
theorem compact_leI (l : List Int) : (Lib.compact l).length ≤ l.length := by
  unfold Lib.compact Lib.compactUpTo
  rw [List.length_map]
  exact Nat.le_trans (List.length_filter_le _ _) (by simp)

/-! ### Rows of integers -/
abbrev cI (x : Int) : List Value := [.int .i64 x]
def eI (x : Int) : Value := .int .i64 x
theorem cI_len (x : Int) : (cI x).length = 1 := rfl
theorem info_i : (Try.prog.info? 3).map (fun i => (i.zero, i.size, i.bytes)) = some (some (.int .i64 0), 1, 8) := by kernel_rfl
theorem info_partsI {P : Program} {t : TypeId} {z : Value} {s y : Nat} (h : (P.info? t).map (fun i => (i.zero, i.size, i.bytes)) = some (some z, s, y)) : ∃ i, P.info? t = some i ∧ i.zero = some z ∧ i.size = s ∧ i.bytes = y := by
  cases hi : P.info? t with
  | none => rw [hi] at h; cases h
  | some i =>
    rw [hi] at h
    have h2 := Option.some.inj h
    exact ⟨i, rfl, congrArg (·.1) h2, congrArg (·.2.1) h2, congrArg (·.2.2) h2⟩
theorem kdI : Kd cI 1 29 3 := by
  obtain ⟨i, h1, h2, h3, h4⟩ := info_partsI info_i
  exact ⟨Try.underlying29, ⟨i, _, _, h1, h2, h3, rfl, rfl, by rw [h4]; decide⟩, cI_len, by decide, fun z u hu => by
    simp at hu
    subst hu; rfl⟩
theorem flat_cI (L : List Int) : L.flatMap cI = L.map eI := by
  induction L with
  | nil => rfl
  | cons x L ih => rw [List.flatMap_cons, ih]; rfl
theorem row_nilI {B : Nat} {w : World} {L : List Int} (h : Row cI 1 3 B w (.slice none 0 0) L) : L = [] := by
  obtain ⟨A, c, e, _⟩ := h.one cI_len
  have := (Value.slice.inj e).2.1
  exact List.eq_nil_of_length_eq_zero this.symm
/-- The elements of a literal. -/
theorem rd_lit {α : Type} {cs : α → List Value} {s : Nat} (hc : ∀ z, (cs z).length = s) {w : World} {g : Nat} {ty : TypeId} {L : List α} (h : w.heap[g]? = some (.cells (L.flatMap cs).toArray ty (0, 0))) : Rd cs s w (some ⟨g, 0, none⟩) L := by
  intro k z hz
  refine ⟨g, 0, rfl, (Array.getElem?_eq_some_iff.mp h).1, fun j u hu => ?_⟩
  rw [cell_of_row _ _ _ _ _ _ h, Nat.zero_add]
  have := flat_at hc hz hu
  simpa using this
end Go.Proofs.Ytihklpkpcnahkaa.Rw
/- Results that hold a pipe; New of the reference. -/
namespace Go.Proofs.Ytihklpkpcnahkaa.Pipe
open Go.ChangeShapes Go.WideShapes Go.RowKit Go.Lib
open Go.Proofs.Ytihklpkpcnahkaa.Mem (Cl eI Own)
open Go.Proofs.Ytihklpkpcnahkaa.Vec (sumZ sumZ_nonneg)
open Go.Proofs.Ytihklpkpcnahkaa.Fibre (MM rr_Sum rr_Parts rr_Same rr_Total)
open Go.Proofs.Ytihklpkpcnahkaa.Rw (Rd Kd Row glt get_lt ret_bool ret_int bstep below_drewN below_drew drew_below below_alloc cI cI_len kdI flat_cI append_rows)
set_option linter.unusedVariables false
set_option maxRecDepth 100000

theorem rd_cl {w : World} {A : Option Addr} {L : List Int} (h : Cl eI w A L) : Rd cI 1 w A L := by
  intro k z hz
  obtain ⟨b, off, e, hlt, hc⟩ := h k z hz
  refine ⟨b, off, e, hlt, fun j u hu => ?_⟩
  match j, hu with
  | 0, hu =>
    simp at hu
    subst hu
    rw [Nat.mul_one, Nat.add_zero]; exact hc
theorem own_row {L : List Int} {B : Nat} {w : World} {v : Value} (h : Row cI 1 3 B w v L) : Own eI 3 B w v L := by
  unfold Rw.Row at h
  rw [flat_cI] at h
  exact h
theorem own_cl {L : List Int} {B n c : Nat} {w : World} {A : Option Addr} (h : Own eI 3 B w (.slice A n c) L) : L.length = n ∧ n ≤ c ∧ Cl eI w A L ∧ n ≤ 9223372036854775807 := by
  obtain ⟨A', c', he, h1, h2, h3⟩ := h.inS
  cases he
  exact ⟨rfl, h1, h3, by unfold maxLen at h2; omega⟩
theorem res_pipe2 {fn : Func} {p u : Tmp} (h : fn.results = #[.cell p 24, .tmp u]) {tmps : Array Value} {w : World} {g : Nat} {u0 u1 : Value} (hp : tmps.getD p undef = .pointer (some ⟨g, 0, none⟩))
    (hc : Rw.Cel w g [u0, u1]) : (results fn tmps).run Try.prog w = .ok (.tuple #[.agg #[u0, u1], tmps.getD u undef]) w := by
  have hp' : tmps[p]?.getD undef = .pointer (some ⟨g, 0, none⟩) := by simpa using hp
  obtain ⟨h0, h1⟩ := hc.two
  simp [results, h, hp', go_sem, h0, h1]
theorem res_pipe3 {fn : Func} {p u v : Tmp} (h : fn.results = #[.cell p 24, .tmp u, .tmp v]) {tmps : Array Value} {w : World} {g : Nat} {u0 u1 : Value} (hp : tmps.getD p undef = .pointer (some ⟨g, 0, none⟩))
    (hc : Rw.Cel w g [u0, u1]) : (results fn tmps).run Try.prog w = .ok (.tuple #[.agg #[u0, u1], tmps.getD u undef, tmps.getD v undef]) w := by
  have hp' : tmps[p]?.getD undef = .pointer (some ⟨g, 0, none⟩) := by simpa using hp
  obtain ⟨h0, h1⟩ := hc.two
  simp [results, h, hp', go_sem, h0, h1]
/-- A slice of slices of the call's own. -/
def PlsO (B : Nat) (w : World) (A : Option Addr) (P : List (List Int)) : Prop :=
  ∀ (k : Nat) (l : List Int), P[k]? = some l → ∃ b off A1 c1, A = some ⟨b, off, none⟩ ∧ B ≤ b ∧ b < w.heap.size ∧ w.cell? ⟨b, off + k, none⟩ = some (.slice A1 l.length c1) ∧ Own eI 3 B w (.slice A1 l.length c1) l
theorem PlsO.nil (B : Nat) (w : World) (A : Option Addr) : PlsO B w A [] := fun k l h => by simp at h
theorem PlsO.pls {B : Nat} {w : World} {A : Option Addr} {P : List (List Int)} (h : PlsO B w A P) : Pls w A P := fun k l hk => by
  obtain ⟨b, off, A1, c1, e, -, hlt, h0, h1⟩ := h k l hk
  obtain ⟨-, -, h2, h3⟩ := own_cl h1
  exact ⟨b, off, A1, c1, e, hlt, h0, h2, h3⟩
theorem PlsO.far2 {B g : Nat} {w : World} {A : Option Addr} {P : List (List Int)} (h : PlsO B w A P) (hg : g < B) (x y : Value) : PlsO B ((w.setCell ⟨g, 0, none⟩ x).setCell ⟨g, 1, none⟩ y) A P := fun k l hk => by
  obtain ⟨b, off, A1, c1, e, hB, hlt, h0, h1⟩ := h k l hk
  have hot : ((w.setCell ⟨g, 0, none⟩ x).setCell ⟨g, 1, none⟩ y).cell? ⟨b, off + k, none⟩ = w.cell? ⟨b, off + k, none⟩ := by
    rw [World.cell?_setCell_other _ _ _ _ (fun e => by have h5 := congrArg Addr.block e; simp only at h5; omega), World.cell?_setCell_other _ _ _ _ (fun e => by have h5 := congrArg Addr.block e; simp only at h5; omega)]
  have hne : (Value.slice A1 l.length c1).ownBlock ≠ some g := fun e => by have := (h1.lt _ e).1; omega
  exact ⟨b, off, A1, c1, e, hB, by simpa using hlt, hot.trans h0, (h1.other (p := ⟨g, 0, none⟩) hne x).other (p := ⟨g, 1, none⟩) hne y⟩
theorem PlsO.on {B : Nat} {w w' : World} {A : Option Addr} {P : List (List Int)} (h : PlsO B w A P) (hb : Below w.heap.size w w') : PlsO B w' A P := fun k l hk => by
  obtain ⟨b, off, A1, c1, e, hB, hlt, h0, h1⟩ := h k l hk
  exact ⟨b, off, A1, c1, e, hB, Nat.lt_of_lt_of_le hlt hb.size, (hb.cell (p := ⟨b, _, none⟩) hlt).trans h0, h1.on hb⟩
theorem PlsO.less {B B' : Nat} {w : World} {A : Option Addr} {P : List (List Int)} (h : PlsO B w A P) (hB : B' ≤ B) : PlsO B' w A P := fun k l hk => by
  obtain ⟨b, off, A1, c1, e, h2, hlt, h0, h1⟩ := h k l hk
  exact ⟨b, off, A1, c1, e, Nat.le_trans hB h2, hlt, h0, h1.less hB⟩
theorem plsO_one {B : Nat} {w : World} {g n c : Nat} {A : Option Addr} {l : List Int} {ty : TypeId} (h : w.heap[g]? = some (.cells #[.slice A n c] ty (0, 0))) (hB : B ≤ g) (h1 : Own eI 3 B w (.slice A n c) l) : PlsO B w (some ⟨g, 0, none⟩) [l] := by
  intro k u hu
  match k, hu with
  | 0, hu =>
    simp at hu
    subst hu
    obtain ⟨rfl, -⟩ := own_cl h1
    refine ⟨g, 0, A, c, rfl, hB, (Array.getElem?_eq_some_iff.mp h).1, ?_, h1⟩
    rw [cell_of_row _ _ _ _ _ _ h]; rfl
/-- A pipe of the call's own, and an error. -/
def PRes (w : World) (err hold : Int) (P : List (List Int)) (e : Ending) (w' : World) : Prop :=
  ∃ A n c, e = .returned (.tuple #[.agg #[.int .i64 hold, .slice A n c], .int .i64 err]) ∧ P.length = n ∧ n ≤ c ∧ PlsO w.heap.size w' A P ∧ Below w.heap.size w w'
theorem PRes.none_ {w w' : World} {err : Int} (hb : Below w.heap.size w w') : PRes w err 0 [] (.returned (.tuple #[.agg #[.int .i64 0, .slice none 0 0], .int .i64 err])) w' := ⟨_, _, _, rfl, rfl, Nat.le_refl _, PlsO.nil _ _ _, hb⟩
theorem nw_no {m : List Int} (h : ¬ nwE m = 0) : nwH m = 0 ∧ nwP m = [] := ⟨if_neg h, if_neg h⟩
theorem nw_ok {m : List Int} (h : nwE m = 0) : nwH m = Fibre.totV m ∧ nwP m = [m] := ⟨if_pos h, if_pos h⟩
theorem nwE_tot {m : List Int} (h : ¬ Fibre.totE m = 0) : nwE m = Fibre.totE m := if_neg h
theorem nwE_end {m : List Int} (h : Fibre.totE m = 0) : nwE m = if Fibre.totV m = 0 then 10 else if MM < Fibre.totV m then 1 else 0 := if_pos h
set_option maxHeartbeats 1600000 in
theorem pr_New (m : List Int) (A : Option Addr) (n c : Nat) (hn : m.length = n) (w : World) (ha : Cl eI w A m) (h2 : n ≤ 9223372036854775807) :
    Calls Try.prog 16 #[.slice A n c] w (PRes w (nwE m) (nwH m) (nwP m)) := by
  have HA := Lib.hid ha
  have HN := Lib.hid hn
  have KT := Lib.hid fun (W : World) (h : Cl eI W A m) => rr_Total m A n c hn.symm W h h2
  obtain ⟨E, hE⟩ : ∃ E, Fibre.totE m = E := ⟨_, rfl⟩
  obtain ⟨S, hS⟩ : ∃ S, Fibre.totV m = S := ⟨_, rfl⟩
  rw [hE, hS] at KT
  have HE := Lib.hid (And.intro hE hS)
  have H8 : Hid (E = 0 → n ≤ 8) := Lib.hid fun h0 => by
    have h1 : Fibre.totE m = 0 := hE.trans h0
    have h2 := (Fibre.lisE_of h1).2
    have := h2.1
    omega
  clear ha hn h2 hE hS
  go_enter Try.func16, Try.ntmps16
  go_upto_region 1 with fail
  obtain ⟨w0, hw0⟩ : ∃ W, w.alloc (.cells #[.int .i64 0, .slice none 0 0] 24) = W := ⟨_, rfl⟩
  have D0 : Hid (Rw.Cel w0 w.heap.size [.int .i64 0, .slice none 0 0]) := hw0 ▸ Rw.Cel.new w [_, _] _
  have B0 : Hid (Below w.heap.size w w0) := hw0 ▸ below_alloc _ _
  rw [hw0]
  clear hw0
  go_wp2_with fail
  refine (KT.out _ (HA.out.on B0.out)).mono ?_
  rintro e w1 ⟨rfl, hb⟩
  have B1 := Lib.hid (bstep B0.out hb)
  have D1 := Lib.hid (D0.out.on hb)
  clear hb D0 B0
  obtain ⟨u0, u1⟩ := D1.out.two
  obtain ⟨v0, v1⟩ := D1.out.warm2
  by_cases hz : E = 0
  rotate_left
  · obtain ⟨z1, z2⟩ := nz hz
    have e1 : nwE m = E := (nwE_tot (by rw [HE.out.1]; exact hz)).trans HE.out.1
    have HEE := Lib.hid (And.intro e1 (nw_no (by rw [e1]; exact hz)))
    clear hz e1
    go_wp2_with fail
    exact bodyPost_ret (res_pipe2 Try.results16 rfl (D1.out.put2 _ _)) rfl (by rw [HEE.out.1, HEE.out.2.1, HEE.out.2.2]; exact PRes.none_ (Rw.below_put2 B1.out (Nat.le_refl _) _ _))
  subst hz
  have he := nwE_end HE.out.1
  rw [HE.out.2] at he
  have hMM : MM = 1099511627776 := rfl
  rw [hMM] at he
  by_cases hz : S = 0
  · subst hz
    have e1 : nwE m = 10 := he
    have HEE := Lib.hid (And.intro e1 (nw_no (by rw [e1]; decide)))
    clear e1 he hMM
    go_wp2_with fail
    exact bodyPost_ret (res_pipe2 Try.results16 rfl (D1.out.put2 _ _)) rfl (by rw [HEE.out.1, HEE.out.2.1, HEE.out.2.2]; exact PRes.none_ (Rw.below_put2 B1.out (Nat.le_refl _) _ _))
  rw [if_neg hz] at he
  obtain ⟨z1, -⟩ := nz hz
  rcases Int.lt_or_le 1099511627776 S with h1 | h1
  · have d1 : decide (1099511627776 < S) = true := decide_eq_true h1
    have e1 : nwE m = 1 := he.trans (if_pos h1)
    have HEE := Lib.hid (And.intro e1 (nw_no (by rw [e1]; decide)))
    clear e1 he hMM hz h1
    go_wp2_with fail
    exact bodyPost_ret (res_pipe2 Try.results16 rfl (D1.out.put2 _ _)) rfl (by rw [HEE.out.1, HEE.out.2.1, HEE.out.2.2]; exact PRes.none_ (Rw.below_put2 B1.out (Nat.le_refl _) _ _))
  have d1 : decide (1099511627776 < S) = false := decide_eq_false (by omega)
  have e1 : nwE m = 0 := he.trans (if_neg (by omega))
  have HEE := Lib.hid (And.intro e1 (nw_ok e1))
  have h8 := H8.out rfl
  have HS1 := Lib.hid B1.out.size
  have HG := Lib.hid D1.out.lt
  clear e1 he hMM hz h1 u0 u1 v0 v1
  go_wp2_with (at_builtin; refine append_rows kdI rfl _ _ rfl (.slice (some ⟨w1.heap.size, 0, none⟩) 0 0) [] rfl (Row.empty cI 1 3 w1 (Nat.le_refl _)) A n c m HN.out.symm rfl (rd_cl (HA.out.on (bstep B1.out (below_alloc _ _)))) (by simp; omega) (below_alloc _ _).size ?_; intro A2 n2 c2 w2 hn2 hr2 hg2 hat2; have HN2 := Lib.hid hn2; have HO2 := Lib.hid (own_row hr2); have HG2 := Lib.hid hg2; clear hn2 hr2 hg2 hat2; refine Hid.out ?_)
  have HB12 : Hid (Below w1.heap.size w1 w2) := (below_alloc w1 _).trans (Row.below (Row.empty cI 1 3 w1 (Nat.le_refl _)) HG2.out (below_alloc _ _).size)
  have B2 := Lib.hid (bstep B1.out HB12.out)
  have D2 := Lib.hid (D1.out.on HB12.out)
  refine Lib.hid ?_
  have HO3 : Hid (Own eI 3 w1.heap.size w2 (.slice A2 n2 c2) m) := Lib.hid (by have := HO2.out; rw [List.nil_append] at this; exact this)
  have HP3 : Hid (PlsO w1.heap.size (w2.alloc (.cells #[.slice A2 n2 c2] 29)) (some ⟨w2.heap.size, 0, none⟩) [m]) := Lib.hid (plsO_one (heap_alloc_new _ _) HB12.out.size (HO3.out.alloc _))
  obtain ⟨w3, hw3⟩ : ∃ W, w2.alloc (.cells #[.slice A2 n2 c2] 29) = W := ⟨_, rfl⟩
  have D3 : Hid (Rw.Cel w3 w.heap.size [.int .i64 0, .slice none 0 0]) := hw3 ▸ D2.out.alloc _
  have B3 : Hid (Below w.heap.size w w3) := Lib.hid (bstep B2.out (hw3 ▸ below_alloc _ _))
  rw [hw3] at HP3
  obtain ⟨u0, u1⟩ := D3.out.two
  obtain ⟨v0, v1⟩ := D3.out.warm2
  go_wp2_with fail
  exact bodyPost_ret (res_pipe2 Try.results16 rfl (D3.out.put2 _ _)) rfl (by
    rw [HEE.out.1, HEE.out.2.1, HEE.out.2.2, HE.out.2]
    exact ⟨_, _, _, rfl, rfl, Nat.le_refl _, ((HP3.out.far2 HG.out _ _).less HS1.out), Rw.below_put2 B3.out (Nat.le_refl _) _ _⟩)
end Go.Proofs.Ytihklpkpcnahkaa.Pipe
/- share.Split: the walk. -/
namespace Go.Proofs.Ytihklpkpcnahkaa.Share
open Go.ChangeShapes Go.WideShapes Go.RowKit Go.Lib Go.Proofs.Ytihklpkpcnahkaa.Mem
set_option linter.unusedVariables false
set_option maxRecDepth 100000

theorem lst_zero (n : Nat) : List.replicate n (0 : Int) = lst (fun _ => 0) n := by unfold lst; rw [List.map_const', List.length_range]
abbrev zeros (n : Nat) : Obj := .cells (madeCells #[.int .i64 0] n) 3
theorem one_made (w : World) (n : Nat) (hn : n ≤ 100000) : Own eI 3 w.heap.size (w.alloc (zeros n)) (.slice (some ⟨w.heap.size, 0, none⟩) n n) (lst (fun _ => 0) n) := by
  have h1 := own_made eI 3 w n 0 hn
  rw [lst_zero] at h1
  exact h1
theorem two_made (w : World) (n : Nat) (hn : n ≤ 100000) : Own eI 3 w.heap.size ((w.alloc (zeros n)).alloc (zeros n)).drew (.slice (some ⟨w.heap.size, 0, none⟩) n n) (lst (fun _ => 0) n) ∧
    Own eI 3 w.heap.size ((w.alloc (zeros n)).alloc (zeros n)).drew (.slice (some ⟨w.heap.size + 1, 0, none⟩) n n) (lst (fun _ => 0) n) ∧ Below w.heap.size w ((w.alloc (zeros n)).alloc (zeros n)).drew := by
  have h1 := one_made w n hn
  have h2 := one_made (w.alloc (zeros n)) n hn
  have hs : (w.alloc (zeros n)).heap.size = w.heap.size + 1 := by simp
  rw [hs] at h2
  exact ⟨(h1.alloc _).drew, (h2.less (by omega)).drew, below_drew (bstep (below_alloc _ _) (below_alloc _ _))⟩
/-- The list with its first k values. -/
def upL (f : Nat → Nat) (k n : Nat) : List Int := lst (fun j => if j < k then (f j : Int) else 0) n
theorem upL_len (f : Nat → Nat) (k n : Nat) : (upL f k n).length = n := lst_len _ _
theorem upL_zero (f : Nat → Nat) (n : Nat) : upL f 0 n = lst (fun _ => 0) n := by unfold upL; exact lst_congr fun i _ => by simp
theorem upL_at (f : Nat → Nat) {k n : Nat} (h : k < n) : (upL f k n)[k]? = some 0 := by
  unfold upL; rw [lst_at _ h, if_neg (Nat.lt_irrefl k)]
theorem upL_set (f : Nat → Nat) {k n : Nat} (h : k < n) : (upL f k n).set k (f k : Int) = upL f (k + 1) n := by
  unfold upL
  exact lst_set h fun i hi => by
    by_cases h1 : i = k
    · subst h1; simp
    · rw [if_neg h1]
      by_cases h2 : i < k
      · rw [if_pos (by omega), if_pos h2]
      · rw [if_neg (by omega), if_neg h2]
theorem upL_all (f : Nat → Nat) (n : Nat) : upL f n n = lst (fun j => (f j : Int)) n := lst_congr fun i hi => if_pos hi

set_option maxHeartbeats 3200000 in
theorem share_split (t : Int) (ws : List Int) (A : Option Addr) (c : Nat) (w : World) (hS : Cl eI w A ws) (hl : ws.length ≤ 9223372036854775807) :
    Calls Try.prog 39 #[.int .i64 t, .slice A ws.length c] w (ResL (splL t ws) (errS t ws) w) := by
  have HDIV := Lib.hid (share_divisor t ws A c w hS hl)
  by_cases hE : errS t ws = 0
  · obtain ⟨W, hW, hW0, hW1, hwW, -, hqr, -⟩ := dvV_ok hE
    have ok := Ok.of hE
    obtain ⟨T, hT⟩ : ∃ T : Nat, T = t.toNat := ⟨_, rfl⟩
    have ht : t = (T : Int) := by have := ok.t0; omega
    have hTm : T ≤ 1125899906842624 := by have h1 := ok.t1; have hm : mx = 1125899906842624 := rfl; omega
    rw [hW, hE] at HDIV
    have HRES : Hid (splL t ws = partsL t ws) := if_pos hE
    obtain ⟨q, hq⟩ : ∃ q, q = quo t.toNat (wf ws) ws.length := ⟨_, rfl⟩
    obtain ⟨r, hr⟩ : ∃ r, r = rst t.toNat (wf ws) ws.length := ⟨_, rfl⟩
    obtain ⟨L, hL⟩ : ∃ L, L = lft t.toNat (wf ws) ws.length := ⟨_, rfl⟩
    have HFIN : Hid (lst (fun j => (gots q r ws.length L j : Int)) ws.length = partsL t ws) := by
      show _ = _
      unfold partsL lst
      exact List.map_congr_left fun i hi => by rw [hq, hr, hL, ok.gots (List.mem_range.mp hi)]
    have HLN : Hid (L ≤ ws.length ∧ ws.length ≤ 512 ∧ 0 < ws.length) := ⟨hL ▸ ok.lft_le, ok.n1, ok.n0⟩
    have HSUM : Hid (∀ k, k ≤ ws.length → sm q k ≤ T) := fun k hk => by rw [hq, hT]; exact ok.quo_sum hk
    have HLQ : Hid (L = T - sm q ws.length) := by show L = _; rw [hL, hq, hT]; rfl
    have HDV := Lib.hid (show ∀ i, i < ws.length → ∀ W', Calls Try.prog 49 #[.int .i64 (T : Int), .int .i64 (wf ws i : Int), .int .i64 (W : Int)] W' fun e w' => e = .returned (.tuple #[.int .i64 (q i : Int), .int .i64 (r i : Int)]) ∧ Below W'.heap.size W' w' from fun i hi W' => by
      have h1 := share_divide hW0 hTm (hwW i hi) hW1 W'
      have h2 := hqr i hi
      rw [← hT] at h2 hq hr
      rw [h2.1, h2.2] at h1
      rw [hq, hr]; exact h1)
    have HQL : Hid (∀ i, i < ws.length → q i ≤ 1125899906842624) := fun i hi => by rw [hq]; exact Nat.le_trans (quo_le hi) (by omega)
    have HWF : Hid (∀ (i : Nat) z, ws[i]? = some z → z = (wf ws i : Int)) := fun i z hz => (wf_at hz (ok.all z (List.mem_of_getElem? hz)).1).symm
    have HS := Lib.hid hS
    obtain ⟨n, hn⟩ : ∃ n, ws.length = n := ⟨_, rfl⟩
    have HN := Lib.hid hn
    have HEE := Lib.hid hE
    have HTT := Lib.hid ht
    rw [hn] at HDIV HFIN HLN HSUM HLQ HDV HQL hl ⊢
    rw [hE]
    rw [ht] at HDIV ⊢
    have hn5 := HLN.out.2.1
    have hmk := fun W => make_ints n (by omega) W
    clear hS hW hW0 hW1 hwW hqr ok hT ht hq hr hL hE hn hl
    go_enter Try.func39, Try.ntmps39
    go_wp2_with fail
    refine HDIV.out.mono ?_
    rintro e w1 ⟨rfl, hb1⟩
    have HB1 := Lib.hid hb1
    clear hb1
    go_upto_region 4 with fail
    go_cut [8, 9] from 24 to 29 (fun x y wc => ∃ gp gr : Nat, x = .slice (some ⟨gp, 0, none⟩) n n ∧ y = .slice (some ⟨gr, 0, none⟩) n n ∧ gp ≠ gr ∧ Own eI 3 w1.heap.size wc (.slice (some ⟨gp, 0, none⟩) n n) (lst (fun _ => 0) n) ∧ Own eI 3 w1.heap.size wc (.slice (some ⟨gr, 0, none⟩) n n) (lst (fun _ => 0) n) ∧ Below w1.heap.size w1 wc)
    case first =>
      have HTM := Lib.hid (two_made w1 n (by omega))
      go_wp2_with fail
      go_region
      all_goals
        go_wp2_with fail
        go_meet
        case rel =>
          first
            | exact ⟨w1.heap.size, w1.heap.size + 1, rfl, rfl, by omega, HTM.out.1, HTM.out.2.1, HTM.out.2.2⟩
            | exact ⟨w1.heap.size + 1, w1.heap.size, rfl, rfl, by omega, HTM.out.2.1, HTM.out.1, HTM.out.2.2⟩
    case rest =>
      obtain ⟨gp, gr, rfl, rfl, hgne, hop, hor, hbc⟩ := hcut
      have HOP := Lib.hid hop
      have HOR := Lib.hid hor
      have HBC := Lib.hid hbc
      have HNE := Lib.hid hgne
      clear hop hor hbc hmk hgne
      go_wp2_with fail
      go_loopw [10, 11, 12, 33] (fun l _ _ x wr => ∃ k M : Nat, l = .int .i64 (M : Int) ∧ x = .int .i64 (k : Int) ∧ k ≤ n ∧ M = T - sm q k ∧ Own eI 3 w1.heap.size wr (.slice (some ⟨gp, 0, none⟩) n n) (upL q k n) ∧ Own eI 3 w1.heap.size wr (.slice (some ⟨gr, 0, none⟩) n n) (upL r k n) ∧ Below w1.heap.size w1 wr) (fun _ _ _ x _ => n - (RowKit.intOf x).toNat)
      case atStart => exact ⟨0, T, rfl, rfl, Nat.zero_le _, rfl, by rw [upL_zero]; exact HOP.out, by rw [upL_zero]; exact HOR.out, HBC.out⟩
      case round =>
        obtain ⟨k, M, rfl, rfl, hk, hM, hop, hor, hbel⟩ := hrel
        have HOP2 := Lib.hid hop
        have HOR2 := Lib.hid hor
        have HB := Lib.hid hbel
        have HM := Lib.hid hM
        clear hop hor hbel hM
        rcases Nat.lt_or_ge k n with hlt | hge
        · obtain ⟨z, hz⟩ := get_lt (L := ws) (k := k) (by rw [HN.out]; exact hlt)
          obtain ⟨b, off, hA, hb, hcell⟩ := (HS.out.on (HB1.out.trans (HB.out.mono HB1.out.size))) k z hz
          obtain rfl := hA
          obtain rfl := HWF.out k z hz
          have HZ := Lib.hid hz
          have HCALL := Lib.hid (HDV.out k hlt wr)
          obtain ⟨x, hx⟩ : ∃ x, x = wf ws k := ⟨_, rfl⟩
          obtain ⟨Q, hQ⟩ : ∃ x, x = q k := ⟨_, rfl⟩
          obtain ⟨R, hR⟩ : ∃ x, x = r k := ⟨_, rfl⟩
          rw [← hx] at hcell HCALL
          rw [← hQ, ← hR] at HCALL
          have HQR := Lib.hid (show Q = q k ∧ R = r k from ⟨hQ, hR⟩)
          have i1 : (k : Int) < (n : Int) := by omega
          have i2 : (0 : Int) ≤ (k : Int) := by omega
          have hk1 : IntKind.i64.wrap ((k : Int) + 1) = ((k + 1 : Nat) : Int) := wrap_id (by omega)
          clear hz hx hQ hR hb hk
          go_wp2_with fail
          refine HCALL.out.mono ?_
          rintro e w3 ⟨rfl, hb3⟩
          have HOP3 := Lib.hid (HOP2.out.on hb3)
          have HOR3 := Lib.hid (HOR2.out.on hb3)
          have HB3 : Hid (Below w1.heap.size w1 w3) := HB.out.trans (hb3.mono HB.out.size)
          have cp := HOP3.out.cell (upL_at q hlt)
          have cr := HOR3.out.cell (upL_at r hlt)
          have fp := HOP3.out.warm (upL_len q k n).symm k
          have fr := HOR3.out.warm (upL_len r k n).symm k
          have hne1 := HNE.out
          have hne2 : gr ≠ gp := fun e => HNE.out e.symm
          have HPP : Hid (Own eI 3 w1.heap.size ((w3.setCell ⟨gp, k, none⟩ (.int .i64 (Q : Int))).setCell ⟨gr, k, none⟩ (.int .i64 (R : Int))) (.slice (some ⟨gp, 0, none⟩) n n) (upL q (k + 1) n)) := by
            have h1 := HOP3.out.set (upL_len q k n).symm k (Q : Int)
            rw [HQR.out.1, upL_set q hlt] at h1
            rw [HQR.out.1]
            exact h1.other (p := ⟨gr, k, none⟩) (by show some gp ≠ some gr; simpa using HNE.out) _
          have HRR : Hid (Own eI 3 w1.heap.size ((w3.setCell ⟨gp, k, none⟩ (.int .i64 (Q : Int))).setCell ⟨gr, k, none⟩ (.int .i64 (R : Int))) (.slice (some ⟨gr, 0, none⟩) n n) (upL r (k + 1) n)) := by
            have h1 := HOR3.out.other (p := ⟨gp, k, none⟩) (by show some gr ≠ some gp; simpa using hne2) (.int .i64 (Q : Int))
            have h2 := h1.set (upL_len r k n).symm k (R : Int)
            rw [HQR.out.2, upL_set r hlt] at h2
            rw [HQR.out.2]
            exact h2
          have HBB : Hid (Below w1.heap.size w1 ((w3.setCell ⟨gp, k, none⟩ (.int .i64 (Q : Int))).setCell ⟨gr, k, none⟩ (.int .i64 (R : Int)))) := below_set (below_set HB3.out (p := ⟨gp, k, none⟩) (HOP3.out.lt gp rfl).1 _) (p := ⟨gr, k, none⟩) (HOR3.out.lt gr rfl).1 _
          have HSK := Lib.hid (show sm q (k + 1) ≤ T ∧ sm q (k + 1) = sm q k + Q by
            refine ⟨HSUM.out _ hlt, by rw [HQR.out.1]; rfl⟩)
          obtain ⟨M', hM'⟩ : ∃ x, x = M - Q := ⟨_, rfl⟩
          have HMM := Lib.hid (show M' = T - sm q (k + 1) ∧ Q ≤ M ∧ M' = M - Q by have := HM.out; have := HSK.out; omega)
          have hwm : IntKind.i64.wrap ((M : Int) - (Q : Int)) = (M' : Int) := by
            have h1 := HMM.out
            have h2 := HM.out
            rw [wrap_id (by omega)]; omega
          clear hb3 hM' hlt
          go_wp2_with fail
          go_roundw
          case rel => exact ⟨k + 1, M', rfl, rfl, by omega, HMM.out.1, HPP.out, HRR.out, HBB.out⟩
          case measure => simp [RowKit.intOf]; omega
        · obtain rfl : n = k := by omega
          obtain rfl : L = M := by have h1 := HM.out; have h2 := HLQ.out; omega
          have HLF := Lib.hid (largest_first r n n (some ⟨gr, 0, none⟩) wr hn5 ((upL_all r n) ▸ HOR2.out.cl))
          have hLn := HLN.out.1
          clear hk hge
          go_wp2_with fail
          refine HLF.out.mono ?_
          rintro e w4 ⟨go, s, rfl, hgo, hown, hrank, hb4⟩
          have hsl := fun W => slice_hi (some ⟨go, 0, none⟩) n n L hLn W
          have HGO : Hid (gp ≠ go) := by
            have := (HOP2.out.lt gp rfl).2
            show gp ≠ go
            omega
          have HOP4 : Hid (Own eI 3 w1.heap.size w4 (.slice (some ⟨gp, 0, none⟩) n n) (lst (fun j => (gots q r n 0 j : Int)) n)) := by
            have h1 := HOP2.out.on hb4
            rw [upL_all] at h1
            rw [lst_congr (g := fun j => (q j : Int)) fun i _ => by rw [gots_zero]]
            exact h1
          have HOO4 := Lib.hid hown
          have HRK := Lib.hid hrank
          have HB4 : Hid (Below w1.heap.size w1 w4) := HB.out.trans (hb4.mono HB.out.size)
          have hL6 : (L : Int) ≤ (n : Int) := by omega
          have hL7 : (0 : Int) ≤ (L : Int) := by omega
          clear hgo hown hrank hb4 hLn HLF
          go_wp2_with fail
          go_loopw [14, 63] (fun _ x wr' => ∃ k : Nat, x = .int .i64 (k : Int) ∧ k ≤ L ∧ Own eI 3 w1.heap.size wr' (.slice (some ⟨gp, 0, none⟩) n n) (lst (fun j => (gots q r n k j : Int)) n) ∧ Own eI 3 0 wr' (.slice (some ⟨go, 0, none⟩) n n) (lst (fun j => (s j : Int)) n) ∧ Below w1.heap.size w1 wr') (fun _ x _ => L - (RowKit.intOf x).toNat)
          case atStart => exact ⟨0, rfl, Nat.zero_le _, HOP4.out, HOO4.out.less (Nat.zero_le _), HB4.out⟩
          case round =>
            obtain ⟨k, rfl, hk, hop, hoo, hbel⟩ := hrel
            have HOP5 := Lib.hid hop
            have HOO5 := Lib.hid hoo
            have HB5 := Lib.hid hbel
            have hLn := HLN.out.1
            clear hop hoo hbel
            rcases Nat.lt_or_ge k L with hlt | hge
            · have hkn : k < n := by omega
              obtain ⟨x, hx⟩ : ∃ x, x = s k := ⟨_, rfl⟩
              have hxn : x < n := hx ▸ (HRK.out k hkn).1
              have ck := HOO5.out.cell (lst_at _ hkn)
              have cx := HOP5.out.cell (lst_at _ hxn)
              have fx := HOP5.out.warm (lst_len _ n).symm x
              obtain ⟨G, hG⟩ : ∃ x', x' = gots q r n k x := ⟨_, rfl⟩
              rw [← hx] at ck
              rw [← hG] at cx
              have hGb : G ≤ 1125899906842625 := by
                have h1 := HQL.out x hxn
                rw [hG]; unfold gots; split <;> omega
              have HNX : Hid (Own eI 3 w1.heap.size (wr.setCell ⟨gp, x, none⟩ (.int .i64 ((G + 1 : Nat) : Int))) (.slice (some ⟨gp, 0, none⟩) n n) (lst (fun j => (gots q r n (k + 1) j : Int)) n)) := by
                have h1 := HOP5.out.set (lst_len _ n).symm x ((G + 1 : Nat) : Int)
                rw [lst_set (g := fun j => (gots q r n (k + 1) j : Int)) hxn fun i hi => by
                  rw [gots_next hxn (by rw [hx]; exact (HRK.out k hkn).2) hi]
                  by_cases h2 : i = x
                  · rw [if_pos h2, if_pos h2, h2, hG]
                  · rw [if_neg h2, if_neg h2]] at h1
                exact h1
              have HOX : Hid (Own eI 3 0 (wr.setCell ⟨gp, x, none⟩ (.int .i64 ((G + 1 : Nat) : Int))) (.slice (some ⟨go, 0, none⟩) n n) (lst (fun j => (s j : Int)) n)) := HOO5.out.other (p := ⟨gp, x, none⟩) (by show some go ≠ some gp; have := HGO.out; simp; omega) _
              have HBX : Hid (Below w1.heap.size w1 (wr.setCell ⟨gp, x, none⟩ (.int .i64 ((G + 1 : Nat) : Int)))) := below_set HB5.out (p := ⟨gp, x, none⟩) (HOP5.out.lt gp rfl).1 _
              have i1 : (k : Int) < (L : Int) := by omega
              have i2 : (0 : Int) ≤ (k : Int) := by omega
              have i3 : (x : Int) < (n : Int) := by omega
              have i4 : (0 : Int) ≤ (x : Int) := by omega
              have hk1 : IntKind.i64.wrap ((k : Int) + 1) = ((k + 1 : Nat) : Int) := wrap_id (by omega)
              have hg1 : IntKind.i64.wrap ((G : Int) + 1) = ((G + 1 : Nat) : Int) := wrap_id (by omega)
              have HLT := Lib.hid hlt
              clear hx hG hGb hxn hkn hLn hlt hk
              go_wp2_with fail
              go_roundw
              case rel => exact ⟨k + 1, rfl, HLT.out, HNX.out, HOX.out, HBX.out⟩
              case measure =>
                have := HLT.out
                simp [RowKit.intOf]; omega
            · obtain rfl : L = k := by omega
              have HOF : Hid (Own eI 3 w.heap.size wr (.slice (some ⟨gp, 0, none⟩) n n) (splL t ws)) := by
                rw [HRES.out, ← HFIN.out]
                exact HOP5.out.less HB1.out.size
              have HBF : Hid (Below w.heap.size w wr) := HB1.out.trans (HB5.out.mono HB1.out.size)
              clear hk hge hLn
              go_wp2_with fail
              go_ret2
              exact ⟨_, rfl, by rw [← HTT.out]; exact HOF.out, HBF.out⟩
  · obtain ⟨E, hEE⟩ : ∃ E, E = errS t ws := ⟨_, rfl⟩
    have HRES : Hid (splL t ws = []) := if_neg hE
    have hE1 : ((E : Int) != 0) = true := by simp; omega
    have hE2 : ¬ E = 0 := by omega
    have hE3 : ¬ (E : Int) = 0 := by omega
    obtain ⟨D, hD⟩ : ∃ D, D = dvV t ws := ⟨_, rfl⟩
    obtain ⟨n, hn⟩ : ∃ n, ws.length = n := ⟨_, rfl⟩
    rw [← hEE, ← hD, hn] at HDIV
    rw [← hEE, hn]
    clear hEE hD hS hl hn hE
    go_enter Try.func39, Try.ntmps39
    go_wp2_with fail
    refine HDIV.out.mono ?_
    rintro e w1 ⟨rfl, hb1⟩
    have HB1 := Lib.hid hb1
    clear hb1
    go_wp2_with fail
    go_ret2
    exact ⟨_, rfl, by rw [HRES.out]; exact Own.nil _ _ _ _, HB1.out⟩
end Go.Proofs.Ytihklpkpcnahkaa.Share
/- Content of the reference. -/
namespace Go.Proofs.Ytihklpkpcnahkaa.Pipe
open Go.ChangeShapes Go.WideShapes Go.RowKit Go.Lib
open Go.Proofs.Ytihklpkpcnahkaa.Mem (Cl eI Own make_ints)
open Go.Proofs.Ytihklpkpcnahkaa.Vec (sumZ plusL lessL plus_at less_at plus_len less_len sumZ_nonneg le_sum sumZ_plus plus_get)
open Go.Proofs.Ytihklpkpcnahkaa.Fibre (MM rr_Sum rr_Parts rr_Same rr_Total)
open Go.Proofs.Ytihklpkpcnahkaa.Share (zeros one_made lst_zero)
open Go.Proofs.Ytihklpkpcnahkaa.Rw (Rd Kd Row glt get_lt ret_bool ret_int bstep below_drewN below_drew drew_below below_alloc cI cI_len kdI flat_cI append_rows take_snoc_of)
set_option linter.unusedVariables false
set_option maxRecDepth 100000

/-- The first j of one list, the rest of the other. -/
def mixL : Nat → List Int → List Int → List Int
  | 0, _, Y => Y
  | _ + 1, [], Y => Y
  | _ + 1, _ :: _, [] => []
  | j + 1, x :: X, _ :: Y => x :: mixL j X Y
theorem mix_zero (X Y : List Int) : mixL 0 X Y = Y := by unfold mixL; rfl
theorem mix_len : ∀ (j : Nat) (X Y : List Int), (mixL j X Y).length = Y.length
  | 0, _, _ => by rw [mix_zero]
  | _ + 1, [], _ => rfl
  | _ + 1, _ :: _, [] => rfl
  | j + 1, x :: X, y :: Y => by rw [mixL, List.length_cons, List.length_cons, mix_len j X Y]
theorem mix_at : ∀ (j : Nat) (X Y : List Int), (mixL j X Y)[j]? = Y[j]?
  | 0, _, _ => by rw [mix_zero]
  | _ + 1, [], _ => rfl
  | _ + 1, _ :: _, [] => rfl
  | j + 1, x :: X, y :: Y => by rw [mixL, List.getElem?_cons_succ, List.getElem?_cons_succ, mix_at j X Y]
theorem mix_set : ∀ (j : Nat) (X Y : List Int) {z : Int}, X.length = Y.length → X[j]? = some z → (mixL j X Y).set j z = mixL (j + 1) X Y
  | _, [], _, _, _, h => by simp at h
  | _, _ :: _, [], _, e, _ => by simp at e
  | 0, x :: X, y :: Y, z, _, h => by
    simp at h
    subst h
    rw [mix_zero, mixL, mix_zero, List.set_cons_zero]
  | j + 1, x :: X, y :: Y, z, e, h => by
    rw [List.getElem?_cons_succ] at h
    rw [mixL, mixL, List.set_cons_succ, mix_set j X Y (by simpa using e) h]
theorem mix_all : ∀ (j : Nat) (X Y : List Int), X.length = Y.length → Y.length ≤ j → mixL j X Y = X
  | 0, X, Y, e, h => by
    obtain rfl : Y = [] := List.eq_nil_of_length_eq_zero (by omega)
    obtain rfl : X = [] := List.eq_nil_of_length_eq_zero e
    rw [mix_zero]
  | _ + 1, [], [], _, _ => rfl
  | _ + 1, [], _ :: _, e, _ => by simp at e
  | _ + 1, _ :: _, [], e, _ => by simp at e
  | j + 1, x :: X, y :: Y, e, h => by
    rw [mixL, mix_all j X Y (by simpa using e) (by simpa using h)]
/-- A list of integers of the call's own, and an error. -/
def LRes (w : World) (err : Int) (L : List Int) (e : Ending) (w' : World) : Prop :=
  ∃ A n c, e = .returned (.tuple #[.slice A n c, .int .i64 err]) ∧ L.length = n ∧ Own eI 3 w.heap.size w' (.slice A n c) L ∧ Below w.heap.size w w'
theorem take_pgs {kinds : Nat} {P : List (List Int)} (h : Pgs kinds P) (k : Nat) : Pgs kinds (P.take k) := fun l hl => h l (List.mem_of_mem_take hl)
theorem cont_step {kinds : Nat} {P : List (List Int)} {k : Nat} {l : List Int} (h : Pgs kinds P) (hl : P[k]? = some l) : cont kinds (P.take (k + 1)) = plusL (cont kinds (P.take k)) l := by
  rw [take_snoc_of hl]
  exact cont_snoc (take_pgs h k) (h l (List.mem_of_getElem? hl))
theorem cont_nonneg {kinds : Nat} : ∀ {P : List (List Int)}, Pgs kinds P → ∀ z ∈ cont kinds P, 0 ≤ z
  | [], _, z, hz => by rw [List.eq_of_mem_replicate hz]; exact Int.le_refl _
  | l :: P, h, z, hz => by
    obtain ⟨k, hk⟩ := List.mem_iff_getElem?.mp hz
    rw [cont] at hk
    obtain ⟨u, v, hu, hv, rfl⟩ := plus_get (by rw [cont_len h.tail, h.head.len]) hk
    have h1 := (h.head.all u (List.mem_of_getElem? hu)).1
    have h2 := cont_nonneg h.tail v (List.mem_of_getElem? hv)
    omega
/-- Sums of a kind stay in range. -/
theorem cont_lim {hold : Int} {P : List (List Int)} {kinds k : Nat} (ok : POk hold P kinds) (hk : k ≤ P.length) : (∀ z ∈ cont kinds (P.take k), 0 ≤ z ∧ z ≤ MM) := fun z hz => by
  have h0 := cont_nonneg (take_pgs ok.all k)
  obtain ⟨i, hi⟩ := List.mem_iff_getElem?.mp hz
  have h1 := le_sum h0 hi
  rw [cont_sum (take_pgs ok.all k)] at h1
  have h2 : tot P = tot (P.take k) + tot (P.drop k) := by rw [← tot_append, List.take_append_drop]
  have h3 : 0 ≤ tot (P.drop k) := tot_nonneg fun l hl => ok.all l (List.mem_of_mem_drop hl)
  have h4 := ok.sum
  have h5 := ok.h2
  exact ⟨h0 z hz, by omega⟩
set_option maxHeartbeats 3200000 in
theorem pr_Content (hold : Int) (P : List (List Int)) (A : Option Addr) (n c : Nat) (hn : P.length = n) (w : World) (ha : Pls w A P) (h2 : n ≤ 9223372036854775807) :
    Calls Try.prog 22 #[.agg #[.int .i64 hold, .slice A n c]] w (LRes w (ckP hold P) (coL hold P)) := by
  have HA := Lib.hid ha
  have HN := Lib.hid hn
  have KC := Lib.hid fun (W : World) (h : Pls W A P) => pr_Check hold P A n c hn W h h2
  obtain ⟨E, hE⟩ : ∃ E, ckP hold P = E := ⟨_, rfl⟩
  rw [hE] at KC
  have HE := Lib.hid hE
  clear ha hn h2 hE
  go_enter Try.func22, Try.ntmps22
  go_upto_region 1 with fail
  obtain ⟨w0, hw0⟩ : ∃ W, w.alloc (.cells #[.int .i64 hold, .slice A n c] 24) = W := ⟨_, rfl⟩
  have C0 : Hid (Rw.Cel w0 w.heap.size [.int .i64 hold, .slice A n c]) := hw0 ▸ Rw.Cel.new w [_, _] _
  have B0 : Hid (Below w.heap.size w w0) := hw0 ▸ below_alloc _ _
  rw [hw0]
  clear hw0
  obtain ⟨x0, x1⟩ := C0.out.two
  go_wp2_with fail
  refine (KC.out _ (HA.out.on B0.out)).mono ?_
  rintro e w1 ⟨rfl, hb⟩
  have B1 := Lib.hid (bstep B0.out hb)
  have C1 := Lib.hid (C0.out.on hb)
  clear hb x0 x1 C0 B0
  obtain ⟨x0, x1⟩ := C1.out.two
  by_cases hz : E = 0
  rotate_left
  · obtain ⟨z1, z2⟩ := nz hz
    have e1 : coL hold P = [] := if_neg (by rw [HE.out]; exact hz)
    have HEE := Lib.hid (And.intro HE.out e1)
    clear hz e1
    go_wp2_with fail
    go_ret2
    rw [HEE.out.1, HEE.out.2]
    exact ⟨_, _, _, rfl, rfl, Own.nil _ _ _ _, B1.out⟩
  subst hz
  have ok := ckP_of HE.out
  obtain ⟨m, hm⟩ : ∃ m, kin P = m := ⟨_, rfl⟩
  rw [hm] at ok
  have OK := Lib.hid ok
  have HM := Lib.hid hm
  have m8 := ok.k8
  have n0 := ok.n1
  have n2 := ok.n2
  obtain ⟨l0, hl0⟩ := get_lt (L := P) (k := 0) (by omega)
  obtain ⟨b, off, A1, n1, c1, hA, hb, e0, hl1, hcl, hm1⟩ := pls_at (HA.out.on B1.out) hl0
  subst hA
  obtain rfl : n1 = m := by
    have := (ok.all l0 (List.mem_of_getElem? hl0)).len
    omega
  rw [Nat.add_zero] at e0
  have i3 : (0 : Int) < (n : Int) := by have := HN.out; omega
  have i4 : 0 < n := by have := HN.out; omega
  have hmk := fun W => make_ints n1 (by omega) W
  have HO0 := Lib.hid (one_made w1 n1 (by omega))
  rw [← lst_zero] at HO0
  have HG := Lib.hid (below_alloc w1 (zeros n1))
  clear ok hl0 hcl hl1 hb hm
  go_upto_region 5 with fail
  clear x0 x1 e0 hmk
  obtain ⟨w2, hw2⟩ : ∃ W, w1.alloc (zeros n1) = W := ⟨_, rfl⟩
  rw [hw2] at HO0 HG
  have HO2 : Hid (Own eI 3 w1.heap.size w2 (.slice (some ⟨w1.heap.size, 0, none⟩) n1 n1) (cont n1 (P.take 0))) := HO0
  rw [hw2]
  clear hw2 HO0
  obtain ⟨go, hgo⟩ : ∃ g, w1.heap.size = g := ⟨_, rfl⟩
  have GO := Lib.hid hgo
  rw [hgo] at HG HO2 ⊢
  clear hgo
  have HCL := Lib.hid fun (k : Nat) => cont_len (take_pgs OK.out.all k)
  go_wp2_with fail
  go_loopw [6, 7] (fun i _ wr => ∃ k : Nat, k ≤ n ∧ i = .int .i64 k ∧ Own eI 3 go wr (.slice (some ⟨go, 0, none⟩) n1 n1) (cont n1 (P.take k)) ∧ Below go w1 wr) (fun i _ _ => n - (RowKit.intOf i).toNat)
  case atStart => exact ⟨0, Nat.zero_le _, rfl, HO2.out, HG.out⟩
  case round =>
    obtain ⟨k, hk, rfl, hown, hbel⟩ := hrel
    have HO := Lib.hid hown
    have HW := Lib.hid hbel
    have HB := Lib.hid (B1.out.trans (hbel.mono (by rw [← GO.out]; exact B1.out.size)))
    clear hown hbel
    obtain ⟨x0, x1⟩ := (C1.out.below HW.out (by rw [← GO.out]; exact C1.out.lt)).two
    rcases Nat.lt_or_ge k n with hlt | hge
    · obtain ⟨l, hl⟩ := get_lt (L := P) (k := k) (by have := HN.out; omega)
      obtain ⟨b', off', A2, n2, c2, e', hb2, e2, hl2, hcl2, hm2⟩ := pls_at (HA.out.on B1.out) hl
      cases e'
      obtain rfl : n2 = n1 := by have := (OK.out.all l (List.mem_of_getElem? hl)).len; omega
      have HST := Lib.hid (cont_step OK.out.all hl)
      have HLM := Lib.hid (cont_lim OK.out (k := k + 1) (by have := HN.out; omega))
      have HL := Lib.hid (And.intro hl hl2)
      have HE2 := Lib.hid (And.intro hb2 e2)
      have HC2 := Lib.hid hcl2
      obtain ⟨X, hX⟩ : ∃ X, cont n2 (P.take k) = X := ⟨_, rfl⟩
      have HXL : Hid (X.length = n2) := Lib.hid (by rw [← hX]; exact HCL.out k)
      rw [hX] at HST HO
      rw [HST.out] at HLM
      have i1 : (k : Int) < (n : Int) := by omega
      have i2 : (0 : Int) ≤ (k : Int) := by omega
      clear hl hl2 hcl2 hb2 e2 hX
      go_wp2_with fail
      clear x0 x1
      go_loopw [7] (fun j wr2 => ∃ i : Nat, i ≤ n2 ∧ j = .int .i64 i ∧ Own eI 3 go wr2 (.slice (some ⟨go, 0, none⟩) n2 n2) (mixL i (plusL X l) X) ∧ Below go w1 wr2) (fun j _ => n2 - (RowKit.intOf j).toNat)
      case atStart => exact ⟨0, Nat.zero_le _, rfl, by rw [mix_zero]; exact HO.out, HW.out⟩
      case round =>
        obtain ⟨i, hi, rfl, hown, hbel⟩ := hrel
        have HO5 := Lib.hid hown
        have HW5 := Lib.hid hbel
        clear hown hbel
        obtain ⟨x0, x1⟩ := (C1.out.below HW5.out (by rw [← GO.out]; exact C1.out.lt)).two
        rcases Nat.lt_or_ge i n2 with hli | hgi
        · obtain ⟨x, hx⟩ := get_lt (L := X) (k := i) (by rw [HXL.out]; exact hli)
          obtain ⟨y, hy⟩ := get_lt (L := l) (k := i) (by rw [HL.out.2]; exact hli)
          obtain ⟨b3, o3, hA3, hb3, e3⟩ := Fibre.cl_at HC2.out hy
          subst hA3
          have e2 : wr.cell? ⟨b, off + k, none⟩ = some (.slice (some ⟨b3, o3, none⟩) n2 c2) := (HW5.out.cell (p := ⟨b, off + k, none⟩) (by rw [← GO.out]; exact HE2.out.1)).trans HE2.out.2
          have e4 : wr.cell? ⟨b3, o3 + i, none⟩ = some (.int .i64 y) := (HW5.out.cell (p := ⟨b3, o3 + i, none⟩) (by rw [← GO.out]; exact hb3)).trans e3
          have ci : wr.cell? ⟨go, i, none⟩ = some (.int .i64 x) := HO5.out.cell ((mix_at i (plusL X l) X).trans hx)
          have hml : n2 = (mixL i (plusL X l) X).length := by rw [mix_len, HXL.out]
          have fi := HO5.out.warm hml i
          have hp := plus_at hx hy
          obtain ⟨s, hs⟩ : ∃ s, x + y = s := ⟨_, rfl⟩
          rw [hs] at hp
          have hsl := HLM.out s (List.mem_of_getElem? hp)
          have hMM : MM = 1099511627776 := rfl
          have ws : IntKind.i64.wrap s = s := Rw.wrap_id (by omega)
          have HN5 : Hid (Own eI 3 go (wr.setCell ⟨go, i, none⟩ (.int .i64 s)) (.slice (some ⟨go, 0, none⟩) n2 n2) (mixL (i + 1) (plusL X l) X)) := Lib.hid (by
            have h1 := HO5.out.set hml i s
            rw [mix_set i (plusL X l) X (by rw [plus_len (by rw [HL.out.2, HXL.out])]) hp] at h1
            exact h1)
          have HB5 : Hid (Below go w1 (wr.setCell ⟨go, i, none⟩ (.int .i64 s))) := Lib.hid (Mem.below_set HW5.out (p := ⟨go, i, none⟩) (Nat.le_refl _) _)
          have j1 : (i : Int) < (n2 : Int) := by omega
          have j2 : (0 : Int) ≤ (i : Int) := by omega
          clear hx hy hb3 e3 hml hp hsl hMM
          go_wp2_with fail
          go_region
          all_goals
            go_wp2_with fail
            go_roundw
            case rel => exact ⟨i + 1, by omega, by go_num, HN5.out.drew, below_drew HB5.out⟩
            case measure => simp [RowKit.intOf]; omega
        · obtain rfl : n2 = i := by omega
          have hk1 : IntKind.i64.wrap ((k : Int) + 1) = ((k + 1 : Nat) : Int) := Rw.wrap_id (by have := HN.out; omega)
          have HO6 : Hid (Own eI 3 go wr (.slice (some ⟨go, 0, none⟩) n2 n2) (cont n2 (P.take (k + 1)))) := Lib.hid (by
            rw [HST.out]
            have h1 := HO5.out
            rw [mix_all n2 (plusL X l) X (by rw [plus_len (by rw [HL.out.2, HXL.out])]) (by rw [HXL.out]; exact Nat.le_refl _)] at h1
            exact h1)
          go_wp2_with fail
          go_roundw
          case rel => exact ⟨k + 1, by omega, by go_num, HO6.out, HW5.out⟩
          case measure => simp [RowKit.intOf]; omega
    · obtain rfl : n = k := by omega
      have HO7 : Hid (Own eI 3 w.heap.size wr (.slice (some ⟨go, 0, none⟩) n1 n1) (coL hold P)) := Lib.hid (by
        have h1 := HO.out
        rw [List.take_of_length_le (by rw [HN.out]; exact Nat.le_refl _)] at h1
        unfold coL
        rw [if_pos HE.out, HM.out]
        exact h1.less (by rw [← GO.out]; exact B1.out.size))
      go_wp2_with fail
      go_ret2
      rw [HE.out]
      exact ⟨_, _, _, rfl, (own_cl HO7.out).1, HO7.out, HB.out⟩
end Go.Proofs.Ytihklpkpcnahkaa.Pipe
/- Contracts of divide and MulDiv of the reference. -/
namespace Go.Proofs.Ytihklpkpcnahkaa.Num
open Go.ChangeShapes Go.WideShapes Go.RowKit
set_option linter.unusedVariables false
set_option linter.unusedSimpArgs false

/-- The quotient, cut off at 2^52. -/
def capQ (n c : Nat) : Nat := min (n / c) 4503599627370496
theorem cap_step {A b c bit : Nat} (hc : 1 ≤ c) : capQ ((2 * A + bit) * b) c = min (2 * capQ (A * b) c + (2 * (A * b % c) + bit * b) / c) 4503599627370496 := by
  have e : (2 * A + bit) * b = c * (2 * (A * b / c)) + (2 * (A * b % c) + bit * b) := by
    have h := Nat.div_add_mod (A * b) c
    have e1 : c * (2 * (A * b / c)) = 2 * (c * (A * b / c)) := Nat.mul_left_comm _ _ _
    rw [Nat.add_mul, Nat.mul_assoc, e1]; omega
  unfold capQ
  rw [e, Nat.mul_add_div (by omega)]
  generalize (2 * (A * b % c) + bit * b) / c = t
  generalize A * b / c = n
  omega
theorem rest_step {A b c bit : Nat} : (2 * A + bit) * b % c = (2 * (A * b % c) + bit * b) % c := by
  have h := Nat.div_add_mod (A * b) c
  have e : (2 * A + bit) * b = (2 * (A * b % c) + bit * b) + c * (2 * (A * b / c)) := by
    have e1 : c * (2 * (A * b / c)) = 2 * (c * (A * b / c)) := Nat.mul_left_comm _ _ _
    rw [Nat.add_mul, Nat.mul_assoc, e1]; omega
  rw [e, Nat.add_mul_mod_self_left]
theorem bit_step (a i : Nat) : a / 2 ^ i = 2 * (a / 2 ^ (i + 1)) + a / 2 ^ i % 2 := by
  have : a / 2 ^ (i + 1) = a / 2 ^ i / 2 := by rw [Nat.pow_succ, Nat.div_div_eq_div_mul]
  rw [this]; omega

theorem and_bit {a i v : Nat} (ha : a < 9223372036854775808) (h : a / 2 ^ i % 2 = v) : bits .and .i64 ((a : Int) / 2 ^ i) 1 = v := by
  have e : (a : Int) / 2 ^ i = ((a / 2 ^ i : Nat) : Int) := by rw [Int.natCast_ediv, Int.natCast_pow]; rfl
  rw [e, Go.Proofs.and_one _ (by have := Nat.div_le_self a (2 ^ i); omega), h]

set_option maxHeartbeats 400000 in
theorem ref_divide (a b c : Nat) (w : World) (ha : a ≤ 1125899906842624) (hb : b ≤ 1125899906842624) (hc1 : 1 ≤ c) (hc2 : c ≤ 1125899906842624) :
    Calls Try.prog 52 #[.int .i64 (a : Int), .int .i64 (b : Int), .int .i64 (c : Int)] w fun e w' => e = .returned (.tuple #[.int .i64 (capQ (a * b) c : Int), .int .i64 ((a * b % c : Nat) : Int)]) ∧ Below w.heap.size w w' := by
  have ha' : (a : Int) ≤ 1125899906842624 := by omega
  have hb' : (b : Int) ≤ 1125899906842624 := by omega
  have hc1' : 1 ≤ (c : Int) := by omega
  have hc2' : (c : Int) ≤ 1125899906842624 := by omega
  go_enter Try.func52, Try.ntmps52
  go_wp2_with fail
  go_loop [8, 9, 10] (fun x y z => ∃ j q r : Nat, j ≤ 51 ∧ x = .int .i64 q ∧ y = .int .i64 r ∧ z = .int .i64 ((j : Int) - 1) ∧ q = capQ (a / 2 ^ j * b) c ∧ r = a / 2 ^ j * b % c) (fun _ _ z => (intOf z + 1).toNat)
  case atStart =>
    have h0 : a / 2 ^ 51 = 0 := Nat.div_eq_of_lt (by omega)
    exact ⟨51, 0, 0, by omega, rfl, rfl, by go_num, by rw [h0]; simp [capQ], by rw [h0]; simp⟩
  case round =>
    obtain ⟨j, q, r, hj, rfl, rfl, rfl, hq, hr⟩ := hrel
    have hq1 : (q : Int) ≤ 4503599627370496 := by unfold capQ at hq; omega
    have hr1 : (r : Int) < c := by have := Nat.mod_lt (a / 2 ^ j * b) hc1; omega
    have HQ := Lib.hid hq
    have HR := Lib.hid hr
    clear hq hr
    cases j with
    | zero =>
      rw [show ((0 : Nat) : Int) - 1 = -1 from rfl]
      go_wp2
      go_ret2
      have e1 := HQ.out
      have e2 := HR.out
      rw [Nat.pow_zero, Nat.div_one] at e1 e2
      exact ⟨ret_two (by rw [e1]) (by rw [e2, Int.natCast_emod, Int.natCast_mul]), Below.refl _ _⟩
    | succ i =>
      have hi : ((i + 1 : Nat) : Int) - 1 = i := by omega
      rw [hi]; clear hi
      have hdb : a / 2 ^ i = 2 * (a / 2 ^ (i + 1)) + a / 2 ^ i % 2 := bit_step a i
      have hc0 : 0 ≤ (c : Int) := by omega
      rcases Nat.mod_two_eq_zero_or_one (a / 2 ^ i) with hbit | hbit
      · have hband := and_bit (a := a) (i := i) (by omega) hbit
        have e1 := cap_step (A := a / 2 ^ (i + 1)) (b := b) (bit := 0) hc1
        have e2 := rest_step (A := a / 2 ^ (i + 1)) (b := b) (c := c) (bit := 0)
        rw [hbit] at hdb
        rw [← hdb, ← HQ.out, ← HR.out] at e1
        rw [← hdb, ← HR.out] at e2
        obtain ⟨t, ht⟩ : ∃ t : Nat, 2 * (r : Int) / c = t := ⟨2 * r / c, by rw [Int.natCast_ediv, Int.natCast_mul]; rfl⟩
        obtain ⟨v, hv⟩ : ∃ v : Nat, 2 * (r : Int) % c = v := ⟨2 * r % c, by rw [Int.natCast_emod, Int.natCast_mul]; rfl⟩
        have et : t = 2 * r / c := by have : ((2 * r / c : Nat) : Int) = 2 * (r : Int) / c := by rw [Int.natCast_ediv, Int.natCast_mul]; rfl
                                      omega
        have ev : v = 2 * r % c := by have : ((2 * r % c : Nat) : Int) = 2 * (r : Int) % c := by rw [Int.natCast_emod, Int.natCast_mul]; rfl
                                      omega
        have et1 : (t : Int) ≤ 4503599627370496 := by have := Nat.div_le_self (2 * r) c; omega
        rw [Nat.zero_mul, Nat.add_zero] at e1 e2
        rw [← et] at e1
        rw [← ev] at e2
        have E1 := Lib.hid e1
        have E2 := Lib.hid e2
        clear e1 e2 et ev hdb hbit
        go_wp2_with fail
        go_round
        case rel => exact ⟨i, min (2 * q + t) 4503599627370496, v, by omega, congrArg _ (by omega), congrArg _ hv, rfl, E1.out.symm, E2.out.symm⟩
        case measure => simp [intOf]
      · have hband := and_bit (a := a) (i := i) (by omega) hbit
        have e1 := cap_step (A := a / 2 ^ (i + 1)) (b := b) (bit := 1) hc1
        have e2 := rest_step (A := a / 2 ^ (i + 1)) (b := b) (c := c) (bit := 1)
        rw [hbit] at hdb
        rw [← hdb, ← HQ.out, ← HR.out] at e1
        rw [← hdb, ← HR.out] at e2
        obtain ⟨t, ht⟩ : ∃ t : Nat, (2 * (r : Int) + b) / c = t := ⟨(2 * r + b) / c, by rw [Int.natCast_ediv, Int.natCast_add, Int.natCast_mul]; rfl⟩
        obtain ⟨v, hv⟩ : ∃ v : Nat, (2 * (r : Int) + b) % c = v := ⟨(2 * r + b) % c, by rw [Int.natCast_emod, Int.natCast_add, Int.natCast_mul]; rfl⟩
        have et : t = (2 * r + b) / c := by have : (((2 * r + b) / c : Nat) : Int) = (2 * (r : Int) + b) / c := by rw [Int.natCast_ediv, Int.natCast_add, Int.natCast_mul]; rfl
                                            omega
        have ev : v = (2 * r + b) % c := by have : (((2 * r + b) % c : Nat) : Int) = (2 * (r : Int) + b) % c := by rw [Int.natCast_emod, Int.natCast_add, Int.natCast_mul]; rfl
                                            omega
        have et1 : (t : Int) ≤ 4503599627370496 := by have := Nat.div_le_self (2 * r + b) c; omega
        rw [Nat.one_mul] at e1 e2
        rw [← et] at e1
        rw [← ev] at e2
        have E1 := Lib.hid e1
        have E2 := Lib.hid e2
        clear e1 e2 et ev hdb hbit
        go_wp2_with fail
        go_round
        case rel => exact ⟨i, min (2 * q + t) 4503599627370496, v, by omega, congrArg _ (by omega), congrArg _ hv, rfl, E1.out.symm, E2.out.symm⟩
        case measure => simp [intOf]
end Go.Proofs.Ytihklpkpcnahkaa.Num
/- The contract of MulDiv of the reference. -/
namespace Go.Proofs.Ytihklpkpcnahkaa.Num
open Go.ChangeShapes Go.WideShapes Go.RowKit
set_option linter.unusedVariables false
set_option linter.unusedSimpArgs false

/-- What the reference's divide returns for the magnitudes. -/
def DivAt (a b c : Int) (n r : Nat) : Prop := ∀ W, Calls Try.prog 52 #[.int .i64 (a.natAbs : Int), .int .i64 (b.natAbs : Int), .int .i64 (c.natAbs : Int)] W fun e w' => e = .returned (.tuple #[.int .i64 (n : Int), .int .i64 (r : Int)]) ∧ Below W.heap.size W w'

set_option maxHeartbeats 1000000 in
theorem ref_md_z0 (a b c : Int) (n r : Nat) (x y z : Bool) (w : World) (ha : inB a = true) (hb : inB b = true) (hc : inB c = true)
    (a1 : -1125899906842624 ≤ a) (a2 : a ≤ 1125899906842624) (b1 : -1125899906842624 ≤ b) (b2 : b ≤ 1125899906842624) (c1 : -1125899906842624 ≤ c) (c2 : c ≤ 1125899906842624) (hz' : (c == 0) = false)
    (hd1 : 1 ≤ (c.natAbs : Int)) (hn : (n : Int) ≤ 4503599627370496) (HD : Hid (DivAt a b c n r)) (da : decide (a < 0) = x) (db : decide (b < 0) = y) (dc : decide (c < 0) = z) (hr : r = 0) :
    Calls Try.prog 40 #[.int .i64 a, .int .i64 b, .int .i64 c, .int .i64 0] w fun e w' => e = .returned (.tuple #[.int .i64 (okV (sg ((x != y) != z) (n + 0))), .int .i64 (okE (sg ((x != y) != z) (n + 0)))]) ∧ Below w.heap.size w w' := by
  subst hr
  cases x
  all_goals cases y
  all_goals cases z
  all_goals simp only [bne_self_eq_false, Bool.true_bne, Bool.false_bne, Bool.not_true, Bool.not_false, Bool.bne_true, Bool.bne_false, Bool.false_eq_true, if_true, if_false, Nat.add_zero]
  all_goals
    go_enter Try.func40, Try.ntmps40
    go_wp2_with (first | (go_at_call 51; refine (ref_in _ _).mono ?_; rintro e w' ⟨rfl, rfl⟩) | (go_at_call 53; refine (ref_abs _ _ (by omega) (by omega)).mono ?_; rintro e w' ⟨rfl, rfl⟩) | (go_at_call 52; refine (HD.out _).mono ?_; rintro e w1 ⟨rfl, hb1⟩) | (go_at_call 54; refine (ref_result _ _).mono ?_; rintro e w' ⟨rfl, rfl⟩))
    go_ret2
    exact ⟨ret_two (by simp [sg]) (by simp [sg]), hb1⟩

set_option maxHeartbeats 1000000 in
theorem ref_md_z1 (a b c : Int) (n r : Nat) (x y z : Bool) (w : World) (ha : inB a = true) (hb : inB b = true) (hc : inB c = true)
    (a1 : -1125899906842624 ≤ a) (a2 : a ≤ 1125899906842624) (b1 : -1125899906842624 ≤ b) (b2 : b ≤ 1125899906842624) (c1 : -1125899906842624 ≤ c) (c2 : c ≤ 1125899906842624) (hz' : (c == 0) = false)
    (hd1 : 1 ≤ (c.natAbs : Int)) (hn : (n : Int) ≤ 4503599627370496) (HD : Hid (DivAt a b c n r)) (da : decide (a < 0) = x) (db : decide (b < 0) = y) (dc : decide (c < 0) = z) (hr : r = 0) :
    Calls Try.prog 40 #[.int .i64 a, .int .i64 b, .int .i64 c, .int .i64 1] w fun e w' => e = .returned (.tuple #[.int .i64 (okV (sg ((x != y) != z) (n + 0))), .int .i64 (okE (sg ((x != y) != z) (n + 0)))]) ∧ Below w.heap.size w w' := by
  subst hr
  cases x
  all_goals cases y
  all_goals cases z
  all_goals simp only [bne_self_eq_false, Bool.true_bne, Bool.false_bne, Bool.not_true, Bool.not_false, Bool.bne_true, Bool.bne_false, Bool.false_eq_true, if_true, if_false, Nat.add_zero]
  all_goals
    go_enter Try.func40, Try.ntmps40
    go_wp2_with (first | (go_at_call 51; refine (ref_in _ _).mono ?_; rintro e w' ⟨rfl, rfl⟩) | (go_at_call 53; refine (ref_abs _ _ (by omega) (by omega)).mono ?_; rintro e w' ⟨rfl, rfl⟩) | (go_at_call 52; refine (HD.out _).mono ?_; rintro e w1 ⟨rfl, hb1⟩) | (go_at_call 54; refine (ref_result _ _).mono ?_; rintro e w' ⟨rfl, rfl⟩))
    go_ret2
    exact ⟨ret_two (by simp [sg]) (by simp [sg]), hb1⟩

set_option maxHeartbeats 1000000 in
theorem ref_md_z2 (a b c : Int) (n r : Nat) (x y z : Bool) (w : World) (ha : inB a = true) (hb : inB b = true) (hc : inB c = true)
    (a1 : -1125899906842624 ≤ a) (a2 : a ≤ 1125899906842624) (b1 : -1125899906842624 ≤ b) (b2 : b ≤ 1125899906842624) (c1 : -1125899906842624 ≤ c) (c2 : c ≤ 1125899906842624) (hz' : (c == 0) = false)
    (hd1 : 1 ≤ (c.natAbs : Int)) (hn : (n : Int) ≤ 4503599627370496) (HD : Hid (DivAt a b c n r)) (da : decide (a < 0) = x) (db : decide (b < 0) = y) (dc : decide (c < 0) = z) (hr : r = 0) :
    Calls Try.prog 40 #[.int .i64 a, .int .i64 b, .int .i64 c, .int .i64 2] w fun e w' => e = .returned (.tuple #[.int .i64 (okV (sg ((x != y) != z) (n + 0))), .int .i64 (okE (sg ((x != y) != z) (n + 0)))]) ∧ Below w.heap.size w w' := by
  subst hr
  cases x
  all_goals cases y
  all_goals cases z
  all_goals simp only [bne_self_eq_false, Bool.true_bne, Bool.false_bne, Bool.not_true, Bool.not_false, Bool.bne_true, Bool.bne_false, Bool.false_eq_true, if_true, if_false, Nat.add_zero]
  all_goals
    go_enter Try.func40, Try.ntmps40
    go_wp2_with (first | (go_at_call 51; refine (ref_in _ _).mono ?_; rintro e w' ⟨rfl, rfl⟩) | (go_at_call 53; refine (ref_abs _ _ (by omega) (by omega)).mono ?_; rintro e w' ⟨rfl, rfl⟩) | (go_at_call 52; refine (HD.out _).mono ?_; rintro e w1 ⟨rfl, hb1⟩) | (go_at_call 54; refine (ref_result _ _).mono ?_; rintro e w' ⟨rfl, rfl⟩))
    go_ret2
    exact ⟨ret_two (by simp [sg]) (by simp [sg]), hb1⟩

end Go.Proofs.Ytihklpkpcnahkaa.Num
