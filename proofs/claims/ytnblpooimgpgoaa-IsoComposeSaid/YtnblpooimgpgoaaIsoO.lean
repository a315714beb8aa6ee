/- At, part, whole, Norm, Part of the program. -/
import Derived.Test.YtnblpooimgpgoaaIsoN
namespace Go.Proofs.Ytnblpooimgpgoaa.Iso
open Go.ChangeShapes Go.WideShapes Go.RowKit Go.Lib Go.Proofs.Ytnblpooimgpgoaa.Rw
set_option linter.unusedVariables false
set_option maxRecDepth 100000

/-! ### The function of At -/
def lastAt (D : List Rn) : Int := match D.getLast? with
  | some r => r.1
  | none => 0
theorem lastAt_snoc (D : List Rn) (r : Rn) : lastAt (D ++ [r]) = r.1 := by unfold lastAt; simp
theorem lastAt_one {D : List Rn} (hp : ∀ r ∈ D, 1 ≤ r.2.1) {y : Int} (h : ex D = [y]) : lastAt D = y := by
  cases D with
  | nil => simp [ex] at h
  | cons d D =>
    have h1 := hp d (by simp)
    have hl : (exR d ++ ex D).length = 1 := by rw [← ex_cons, h]; rfl
    rw [List.length_append, exR_len] at hl
    have h2 := ex_len (m := D) fun r hr => hp r (by simp [hr])
    have h3 : D = [] := by
      cases D with
      | nil => rfl
      | cons s D =>
        have h4 := hp s (by simp)
        have h5 := lenM_nonneg (m := D) fun r hr => hp r (by simp [hr])
        simp only [lenM] at h2
        omega
    subst h3
    have h6 := ex_first (m := ([] : List Rn)) h1
    rw [h] at h6
    simp at h6
    show d.1 = y
    exact h6.symm
set_option maxHeartbeats 400000 in
theorem iso_atFn (a n : Int) (b : Bool) (g : Nat) (x : Int) (w : World) (hc : Cel w g [.int .i64 x]) :
    Calls Try.prog 48 #[.agg #[.int .i64 a, .int .i64 n, .bool b], .pointer (some ⟨g, 0, none⟩)] w fun e w' => e = .returned (.tuple #[]) ∧ Cel w' g [.int .i64 a] ∧ Off (fun k => k = g) w w' := by
  have HC1 : Hid (Cel (w.alloc (.cells #[.int .i64 a, .int .i64 n, .bool b] 48)) g [.int .i64 x]) := hc.alloc _
  have d0 : (w.alloc (.cells #[.int .i64 a, .int .i64 n, .bool b] 48)).cell? ⟨g, 0, none⟩ = some (.int .i64 x) := HC1.out.at_ 0 _ rfl
  have d1 : (w.alloc (.cells #[.int .i64 a, .int .i64 n, .bool b] 48)).frozen? ⟨g, 0, none⟩ = false := HC1.out.warm 0
  have c0 : w.cell? ⟨g, 0, none⟩ = some (.int .i64 x) := hc.at_ 0 _ rfl
  have c1 : w.frozen? ⟨g, 0, none⟩ = false := hc.warm 0
  have hg := hc.lt
  have HC2 : Hid (Cel (w.setCell ⟨g, 0, none⟩ (.int .i64 a)) g [.int .i64 a]) := hc.set 0 _
  clear hc
  go_enter Try.func48, Try.ntmps48
  go_wp2_with fail
  go_end0
  exact ⟨rfl, HC2.out.alloc _, ((Off.refl (fun k => k = g) w).set (p := ⟨g, 0, none⟩) (Or.inl rfl) _).alloc _⟩
def atJ (g : Nat) (D : List Rn) (S : Nat → Prop) (W : World) : Prop := S = (fun k => k = g) ∧ Cel W g [.int .i64 (lastAt D)]
theorem at_vis (g N : Nat) : Vis 48 #[] #[.pointer (some ⟨g, 0, none⟩)] N (atJ g) where
  eg := enters_of Try.func48 (by kernel_rfl) rfl
  lt := by rintro D S W ⟨rfl, h⟩ y hy; rw [hy]; exact h.lt
  keep := by rintro D S W W' ⟨rfl, h⟩ h1 h2; exact ⟨rfl, h.keep h1 (h2 g rfl)⟩
  step := by
    rintro D S W r ⟨rfl, h⟩ _ _ _
    show Calls Try.prog 48 #[.agg #[.int .i64 r.1, .int .i64 r.2.1, .bool r.2.2], .pointer (some ⟨g, 0, none⟩)] W _
    refine (iso_atFn r.1 r.2.1 r.2.2 g _ W h).mono ?_
    rintro e w' ⟨rfl, h1, h2⟩
    exact ⟨rfl, _, ⟨rfl, by rw [lastAt_snoc]; exact h1⟩, fun y hy => Or.inl hy, h2⟩
def atE (L : List Rn) (x : Int) : Int := if eC L = 0 then (if x < 0 ∨ lenM L ≤ x then 1 else 0) else eC L
def atV (L : List Rn) (x : Int) : Int := if atE L x = 0 then atI L x else 0
theorem pcs_at {L : List Rn} (h : ∀ r ∈ L, gd r = true) {x : Int} (h0 : 0 ≤ x) (h1 : x < lenM L) : lastAt (pcs L x (x + 1)) = atI L x := by
  have hp : ∀ r ∈ L, 1 ≤ r.2.1 := fun r hr => gd_pos (h r hr)
  have hl := ex_len hp
  have hx : x.toNat < (ex L).length := by omega
  refine lastAt_one (fun r hr => gd_pos (pcs_gd h _ _ r hr)) ?_
  rw [pcs_ex hp]
  have e : (x + 1).toNat = x.toNat + 1 := by omega
  rw [e]
  unfold win
  rw [List.take_add_one, List.drop_append, List.drop_of_length_le (by rw [List.length_take]; omega), List.length_take, Nat.min_eq_left (by omega), Nat.sub_self, List.getElem?_eq_getElem hx]
  have h2 : atM L x = some (ex L)[x.toNat] := by rw [atM_nn h0, List.getElem?_eq_getElem hx]
  rw [atI_some h2]
  rfl
theorem eC_zero_vd {L : List Rn} (h : eC L = 0) : Vd L := Vd.ofE h

set_option maxHeartbeats 1600000 in
theorem iso_At (L : List Rn) (A : Option Addr) (c : Nat) (x : Int) (w : World) (ha : Rns w A L) (hm : L.length ≤ 9223372036854775807) :
    Calls Try.prog 20 #[.slice A L.length c, .int .i64 x] w fun e w' => e = .returned (.tuple #[.int .i64 (atV L x), .int .i64 (atE L x)]) ∧ Below w.heap.size w w' := by
  have hmf : ∀ (fn : Fn) (first cap : Array Value) (w : World), (Instr.makeFunc fn first cap).run Try.prog w = .ok (.func fn first cap) w := fun _ _ _ _ => rfl
  have HA := Lib.hid ha
  clear ha
  obtain ⟨V, hV⟩ : ∃ V, atV L x = V := ⟨_, rfl⟩
  obtain ⟨E, hE⟩ : ∃ E, atE L x = E := ⟨_, rfl⟩
  rw [hV, hE]
  have HV := Lib.hid hV
  have HE := Lib.hid hE
  clear hV hE
  go_enter Try.func20, Try.ntmps20
  go_wp2_with fail
  refine (iso_Length L A c w HA.out hm).mono ?_
  rintro e w1 ⟨rfl, hb1⟩
  have HB1 := Lib.hid hb1
  clear hb1
  by_cases hz : eC L = 0
  · have HD := Lib.hid (Vd.ofE hz)
    rw [hz, show lenV L = lenM L from if_pos hz]
    have HZ := Lib.hid hz
    clear hz
    rcases Int.lt_or_le x 0 with h0 | h0
    · obtain rfl : E = 1 := by rw [← HE.out]; unfold atE; rw [if_pos HZ.out, if_pos (Or.inl h0)]
      obtain rfl : V = 0 := by rw [← HV.out]; unfold atV; rw [HE.out, if_neg (by decide)]
      have d0 : decide (x < 0) = true := decide_eq_true h0
      clear h0
      go_wp2_with fail
      go_ret2
      exact ⟨rfl, HB1.out⟩
    rcases Int.lt_or_le x (lenM L) with h1 | h1
    · obtain rfl : E = 0 := by rw [← HE.out]; unfold atE; rw [if_pos HZ.out, if_neg (by omega)]
      obtain rfl : atI L x = V := by rw [← HV.out]; unfold atV; rw [HE.out, if_pos rfl]
      have d0 : decide (x < 0) = false := decide_eq_false (by omega)
      have d1 : decide (lenM L ≤ x) = false := decide_eq_false (by omega)
      have hml : lenM L ≤ 17179869184 := HD.out.len
      have wx : IntKind.i64.wrap (x + 1) = x + 1 := wrap_id (by omega)
      have HPC := Lib.hid (pcs_at HD.out.all h0 h1)
      have HVis : Hid (∀ g W, atJ g [] (fun k => k = g) W → Rns W A L → g ≠ g + 1 → (∀ (k : Nat) (r : Rn), L[k]? = some r → ∀ (b off : Nat), A = some ⟨b, off, none⟩ → ¬ b = g) → Calls Try.prog 47 #[.slice A L.length c, .agg #[.int .i64 x, .int .i64 (x + 1)], .func (.func 48) #[] #[.pointer (some ⟨g, 0, none⟩)]] W (VisP (atJ g) (pcs L x (x + 1)) (fun k => k = g) W)) :=
        fun g W hj hr _ hn => iso_visit L (at_vis g _) hj A c hr hn HD.out.all (by have := HD.out.n; omega) x (x + 1) (by unfold big; omega) (by unfold big; omega)
      clear h0 h1 hml
      go_upto_region 7 with fail
      generalize hw2 : w1.alloc (.cells #[.int .i64 0] 3) = w2
      have HJ2 : Hid (atJ w1.heap.size [] (fun k => k = w1.heap.size) w2) := hw2 ▸ ⟨rfl, Cel.new _ [.int .i64 0] _⟩
      have HB2 : Hid (Below w.heap.size w w2) := hw2 ▸ bstep HB1.out (below_alloc _ _)
      have HA2 := Lib.hid (HA.out.on HB2.out)
      have HN2 : Hid (∀ (k : Nat) (r : Rn), L[k]? = some r → ∀ (b off : Nat), A = some ⟨b, off, none⟩ → ¬ b = w1.heap.size) := fun k r hr b off e h => by have := rd_old HA.out k r hr b off e; have := HB1.out.size; omega
      clear hw2
      go_wp2_with fail
      refine (HVis.out _ _ HJ2.out HA2.out (by omega) HN2.out).mono ?_
      rintro e w3 ⟨rfl, S', ⟨rfl, hc3⟩, hs3, ho3⟩
      rw [HPC.out] at hc3
      have c0 : w3.cell? ⟨w1.heap.size, 0, none⟩ = some (.int .i64 (atI L x)) := hc3.at_ 0 _ rfl
      have HO3 := Lib.hid ho3
      clear hc3 hs3 ho3
      go_wp2_with fail
      go_ret2
      exact ⟨rfl, HB2.out.trans (HO3.out.below HB2.out.size fun y hy => by rw [hy]; exact HB1.out.size)⟩
    · obtain rfl : E = 1 := by rw [← HE.out]; unfold atE; rw [if_pos HZ.out, if_pos (Or.inr h1)]
      obtain rfl : V = 0 := by rw [← HV.out]; unfold atV; rw [HE.out, if_neg (by decide)]
      have d0 : decide (x < 0) = false := decide_eq_false (by omega)
      have d1 : decide (lenM L ≤ x) = true := decide_eq_true (by omega)
      clear h0 h1
      go_wp2_with fail
      go_ret2
      exact ⟨rfl, HB1.out⟩
  · obtain ⟨z1, z2⟩ := ne_tests hz
    obtain rfl : eC L = E := by rw [← HE.out]; unfold atE; rw [if_neg hz]
    obtain rfl : V = 0 := by rw [← HV.out]; unfold atV; rw [HE.out, if_neg hz]
    clear hz
    go_wp2_with fail
    go_ret2
    exact ⟨rfl, HB1.out⟩

/-! ### Parts -/
def nmJ (g : Nat) (M0 D : List Rn) (S : Nat → Prop) (W : World) : Prop := Nm W g S (nfL (ex (M0 ++ D)))
theorem ex_range {D : List Rn} (h : ∀ s ∈ D, gd s = true) : ∀ x ∈ ex D, 0 ≤ x ∧ x < ml := by
  intro x hx
  obtain ⟨r, hr, hx⟩ := mem_ex.mp hx
  obtain ⟨k, hk, rfl⟩ := mem_exR.mp hx
  exact gd_im (h r hr) hk
theorem nm_vis (g N : Nat) (M0 : List Rn) (h0 : ∀ s ∈ M0, gd s = true) (h1 : M0.length ≤ 70000) (h2 : lenM M0 ≤ 17592186044416) (hN : N ≤ 600) : Vis 60 #[.pointer (some ⟨g, 0, none⟩)] #[] N (nmJ g M0) where
  eg := enters_of Try.func60 (by kernel_rfl) rfl
  lt := fun D S W h => Nm.lt h
  keep := fun D S W W' h h1 h2 => Nm.keep h h1 h2
  step := by
    intro D S W r h hD hg hr
    show Calls Try.prog 60 #[.pointer (some ⟨g, 0, none⟩), .agg #[.int .i64 r.1, .int .i64 r.2.1, .bool r.2.2]] W _
    have hall : ∀ s ∈ M0 ++ D, gd s = true := fun s hs => by
      rcases List.mem_append.mp hs with h | h
      · exact h0 s h
      · exact hg s h
    have hpos : ∀ s ∈ M0 ++ D, 1 ≤ s.2.1 := fun s hs => gd_pos (hall s hs)
    have hlen := nfL_len hpos
    have hD2 := lenM_lim (fun s hs => gd_lim (hg s hs)) (by omega) D.length
    rw [List.take_length] at hD2
    have hl : ((ex (M0 ++ D)).length : Int) ≤ 1125899906842624 := by rw [ex_len hpos, lenM_append]; omega
    refine (iso_add h (by rw [List.length_append] at hlen; omega) (ex_range hall) hl r hr).mono ?_
    rintro e W' ⟨rfl, S', h3, h4, h5⟩
    refine ⟨rfl, S', ?_, h4, h5⟩
    unfold nmJ
    rw [← List.append_assoc, ex_append (M0 ++ D), ex_one]
    exact h3
/-- A map. -/
theorem ret_sl {A : Option Addr} {n m c : Nat} (h : n = m) : Ending.returned (.slice A n c) = .returned (.slice A m c) := by rw [h]
theorem ret_map {A : Option Addr} {n m c : Nat} {x y : Int} (h : n = m) (h2 : x = y) : Ending.returned (.tuple #[.slice A n c, .int .i64 x]) = .returned (.tuple #[.slice A m c, .int .i64 y]) := by rw [h, h2]
def Res1 (M : List Rn) (w : World) (e : Ending) (w' : World) : Prop := ∃ A c, e = .returned (.slice A M.length c) ∧ Mp w' A c M ∧ Below w.heap.size w w'
set_option maxHeartbeats 800000 in
theorem iso_part (L : List Rn) (A : Option Addr) (c : Nat) (f t : Int) (w : World) (ha : Rns w A L) (hg : ∀ r ∈ L, gd r = true) (hm : L.length ≤ 600) (hf : -big ≤ f ∧ f ≤ big) (ht : -big ≤ t ∧ t ≤ big) :
    Calls Try.prog 64 #[.slice A L.length c, .agg #[.int .i64 f, .int .i64 t]] w (Res1 (nfL (win (ex L) f.toNat t.toNat)) w) := by
  have hmf : ∀ (fn : Fn) (first cap : Array Value) (w : World), (Instr.makeFunc fn first cap).run Try.prog w = .ok (.func fn first cap) w := fun _ _ _ _ => rfl
  have HA := Lib.hid ha
  have HP : Hid (ex (pcs L f t) = win (ex L) f.toNat t.toNat) := pcs_ex (fun r hr => gd_pos (hg r hr)) f t
  have HVis : Hid (∀ g W, nmJ g [] [] (fun k => k = g) W → Rns W A L → (∀ (k : Nat) (r : Rn), L[k]? = some r → ∀ (b off : Nat), A = some ⟨b, off, none⟩ → ¬ b = g) → Calls Try.prog 47 #[.slice A L.length c, .agg #[.int .i64 f, .int .i64 t], .func (.func 60) #[.pointer (some ⟨g, 0, none⟩)] #[]] W (VisP (nmJ g []) (pcs L f t) (fun k => k = g) W)) :=
    fun g W hj hr hn => iso_visit L (nm_vis g _ [] (by simp) (by simp) (by simp [lenM]) hm) hj A c hr hn hg hm f t hf ht
  clear ha hg hf ht
  go_enter Try.func64, Try.ntmps64
  go_upto_region 2 with fail
  generalize hw2 : (w.alloc (.cells #[.int .i64 f, .int .i64 t] 28)).alloc (.cells #[.slice none 0 0] 68) = w2
  have HJ2 : Hid (nmJ (w.heap.size + 1) [] [] (fun k => k = w.heap.size + 1) w2) := hw2 ▸ (by have := Nm.new (w.alloc (.cells #[.int .i64 f, .int .i64 t] 28)); simp only [World.size_alloc] at this; exact this)
  have HB2 : Hid (Below w.heap.size w w2) := hw2 ▸ below2 _ _ _
  have HC2 : Hid (Cel w2 w.heap.size [.int .i64 f, .int .i64 t]) := hw2 ▸ (Cel.new w [.int .i64 f, .int .i64 t] _).alloc _
  have HA2 := Lib.hid (HA.out.on HB2.out)
  have HN2 : Hid (∀ (k : Nat) (r : Rn), L[k]? = some r → ∀ (b off : Nat), A = some ⟨b, off, none⟩ → ¬ b = w.heap.size + 1) := fun k r hr b off e h => by have := rd_old HA.out k r hr b off e; omega
  clear hw2
  obtain ⟨c0, c1⟩ := HC2.out.two
  go_wp2_with fail
  refine (HVis.out _ _ HJ2.out HA2.out HN2.out).mono ?_
  rintro e w3 ⟨rfl, S', hj3, hs3, ho3⟩
  have hj3' : Nm w3 (w.heap.size + 1) S' (nfL (win (ex L) f.toNat t.toNat)) := by
    have h := hj3
    unfold nmJ at h
    rw [List.nil_append, HP.out] at h
    exact h
  obtain ⟨A3, c3, d0, hrow, -, -, -⟩ := hj3'.reads
  have HO3 := Lib.hid ho3
  have HR3 := Lib.hid hrow
  clear hj3 hs3 ho3 hj3' hrow c0 c1
  go_wp2_with fail
  go_ret
  obtain ⟨A4, c4, e4, hle, -, hrd, -⟩ := HR3.out.one cR_len
  cases e4
  exact ⟨A3, c3, rfl, ⟨hrd, hle⟩, HB2.out.trans (HO3.out.below HB2.out.size fun y hy => by rw [hy]; omega)⟩
set_option maxHeartbeats 800000 in
theorem iso_whole (L : List Rn) (A : Option Addr) (c : Nat) (w : World) (ha : Rns w A L) (hg : ∀ r ∈ L, gd r = true) (hm : L.length ≤ 600) :
    Calls Try.prog 51 #[.slice A L.length c] w (Res1 (nfL (ex L)) w) := by
  have HA := Lib.hid ha
  have hl := lenM_lim (fun r hr => gd_lim (hg r hr)) hm L.length
  rw [List.take_length] at hl
  have HT : Hid (∀ W, Rns W A L → Calls Try.prog 42 #[.slice A L.length c] W fun e w' => e = .returned (.int .i64 (lenM L)) ∧ Below W.heap.size W w') := fun W hW => iso_total L A c W hW hm fun r hr => gd_lim (hg r hr)
  have HP : Hid (∀ W, Rns W A L → Calls Try.prog 64 #[.slice A L.length c, .agg #[.int .i64 0, .int .i64 (lenM L)]] W (Res1 (nfL (ex L)) W)) := fun W hW => by
    have h := iso_part L A c 0 (lenM L) W hW hg hm (by unfold big; omega) (by unfold big; omega)
    have h2 := ex_len (m := L) fun r hr => gd_pos (hg r hr)
    rw [show (0 : Int).toNat = 0 from rfl, show (lenM L).toNat = (ex L).length by omega, win_all] at h
    exact h
  clear ha hl hg
  go_enter Try.func51, Try.ntmps51
  go_wp2_with fail
  refine (HT.out w HA.out).mono ?_
  rintro e w1 ⟨rfl, hb1⟩
  have HB1 := Lib.hid hb1
  clear hb1
  go_wp2_with fail
  refine (HP.out w1 (HA.out.on HB1.out)).mono ?_
  rintro e w2 ⟨A2, c2, rfl, hr2, hb2⟩
  have HR2 := Lib.hid hr2
  have HB2 := Lib.hid (bstep HB1.out hb2)
  clear hr2 hb2
  obtain ⟨N, hN⟩ : ∃ N, (nfL (ex L)).length = N := ⟨_, rfl⟩
  rw [hN]
  have HN := Lib.hid hN
  clear hN
  go_wp2_with fail
  go_ret
  exact ⟨A2, c2, ret_sl HN.out.symm, HR2.out, HB2.out⟩
def nrmL (L : List Rn) : List Rn := if eC L = 0 then nfL (ex L) else []
set_option maxHeartbeats 800000 in
theorem iso_Norm (L : List Rn) (A : Option Addr) (c : Nat) (w : World) (ha : Rns w A L) (hm : L.length ≤ 9223372036854775807) :
    Calls Try.prog 22 #[.slice A L.length c] w (Res (nrmL L) (eC L) w) := by
  have HA := Lib.hid ha
  clear ha
  go_enter Try.func22, Try.ntmps22
  go_wp2_with fail
  refine (iso_Check L A c w HA.out hm).mono ?_
  rintro e w1 ⟨rfl, hb1⟩
  have HB1 := Lib.hid hb1
  clear hb1
  by_cases hz : eC L = 0
  · have HV := Lib.hid (Vd.ofE hz)
    have HE : Hid (nrmL L = nfL (ex L)) := if_pos hz
    rw [hz]
    have HZ := Lib.hid hz
    clear hz
    go_wp2_with fail
    refine (iso_whole L A c w1 (HA.out.on HB1.out) HV.out.all (by have := HV.out.n; omega)).mono ?_
    rintro e w2 ⟨A2, c2, rfl, hr2, hb2⟩
    have HR2 := Lib.hid hr2
    have HB2 := Lib.hid (bstep HB1.out hb2)
    clear hr2 hb2
    obtain ⟨N, hN⟩ : ∃ N, (nfL (ex L)).length = N := ⟨_, rfl⟩
    rw [hN]
    have HN := Lib.hid hN
    clear hN
    go_wp2_with fail
    go_ret2
    exact ⟨A2, c2, ret_map (by rw [HE.out, HN.out]) HZ.out.symm, by rw [HE.out]; exact HR2.out, HB2.out⟩
  · obtain ⟨z1, z2⟩ := ne_tests hz
    have HE : Hid (nrmL L = []) := if_neg hz
    clear hz
    go_wp2_with fail
    go_ret2
    rw [HE.out]
    exact Res.err HB1.out
def prtE (L : List Rn) (f t : Int) : Int := if eC L = 0 then (if inW f t (lenM L) then 0 else 1) else eC L
def prtL (L : List Rn) (f t : Int) : List Rn := if prtE L f t = 0 then nfL (win (ex L) f.toNat t.toNat) else []
theorem inW_iff {f t n : Int} : inW f t n = true ↔ 0 ≤ f ∧ f ≤ t ∧ t ≤ n := by unfold inW; simp
set_option maxHeartbeats 800000 in
theorem iso_Part (L : List Rn) (A : Option Addr) (c : Nat) (f t : Int) (w : World) (ha : Rns w A L) (hm : L.length ≤ 9223372036854775807) :
    Calls Try.prog 32 #[.slice A L.length c, .agg #[.int .i64 f, .int .i64 t]] w (Res (prtL L f t) (prtE L f t) w) := by
  have HA := Lib.hid ha
  clear ha
  obtain ⟨E, hE⟩ : ∃ E, prtE L f t = E := ⟨_, rfl⟩
  obtain ⟨M, hM⟩ : ∃ M, prtL L f t = M := ⟨_, rfl⟩
  rw [hE, hM]
  have HE := Lib.hid hE
  have HM := Lib.hid hM
  clear hE hM
  go_enter Try.func32, Try.ntmps32
  go_upto_region 1 with fail
  generalize hw1 : w.alloc (.cells #[.int .i64 f, .int .i64 t] 28) = w1
  have HB1 : Hid (Below w.heap.size w w1) := hw1 ▸ below_alloc _ _
  have HC1 : Hid (Cel w1 w.heap.size [.int .i64 f, .int .i64 t]) := hw1 ▸ Cel.new _ _ _
  clear hw1
  go_wp2_with fail
  refine (iso_Length L A c w1 (HA.out.on HB1.out) hm).mono ?_
  rintro e w2 ⟨rfl, hb2⟩
  have HB2 := Lib.hid (bstep HB1.out hb2)
  have HC2 := Lib.hid (HC1.out.on hb2)
  clear hb2
  by_cases hz : eC L = 0
  · have HV := Lib.hid (Vd.ofE hz)
    rw [hz, show lenV L = lenM L from if_pos hz]
    have HZ := Lib.hid hz
    clear hz
    obtain ⟨c0, c1⟩ := HC2.out.two
    go_wp2_with fail
    refine (iso_isWithin f t (lenM L) w2).mono ?_
    rintro e w3 ⟨rfl, hb3⟩
    have HB3 := Lib.hid (bstep HB2.out hb3)
    have HC3 := Lib.hid (HC2.out.on hb3)
    clear hb3 c0 c1
    cases hin : inW f t (lenM L) with
    | true =>
      obtain rfl : E = 0 := by rw [← HE.out]; unfold prtE; rw [if_pos HZ.out, hin]; rfl
      have HM2 : Hid (nfL (win (ex L) f.toNat t.toNat) = M) := by rw [← HM.out]; unfold prtL; rw [HE.out, if_pos rfl]; exact Lib.hid rfl
      obtain ⟨h1, h2, h3⟩ := inW_iff.mp hin
      have hl : lenM L ≤ 17179869184 := HV.out.len
      have HP := Lib.hid (iso_part L A c f t w3 (HA.out.on HB3.out) HV.out.all (by have := HV.out.n; omega) (by unfold big; omega) (by unfold big; omega))
      clear h1 h2 h3 hl hin
      obtain ⟨c0, c1⟩ := HC3.out.two
      go_wp2_with fail
      refine HP.out.mono ?_
      rintro e w4 ⟨A2, c2, rfl, hr2, hb2⟩
      rw [HM2.out] at hr2 ⊢
      have HR2 := Lib.hid hr2
      have HB4 := Lib.hid (bstep HB3.out hb2)
      clear hr2 hb2
      obtain ⟨N, hN⟩ : ∃ N, M.length = N := ⟨_, rfl⟩
      rw [hN]
      have HN := Lib.hid hN
      clear hN
      go_wp2_with fail
      go_ret2
      exact ⟨A2, c2, ret_map HN.out.symm rfl, HR2.out, HB4.out⟩
    | false =>
      obtain rfl : E = 1 := by rw [← HE.out]; unfold prtE; rw [if_pos HZ.out, hin]; rfl
      obtain rfl : M = [] := by rw [← HM.out]; unfold prtL; rw [HE.out, if_neg (by decide)]
      clear hin
      go_wp2_with fail
      go_ret2
      exact Res.err HB3.out
  · obtain ⟨z1, z2⟩ := ne_tests hz
    obtain rfl : eC L = E := by rw [← HE.out]; unfold prtE; rw [if_neg hz]
    obtain rfl : M = [] := by rw [← HM.out]; unfold prtL; rw [HE.out, if_neg hz]
    clear hz
    go_wp2_with fail
    go_ret2
    exact Res.err HB2.out
#print axioms iso_At
#print axioms iso_Norm
#print axioms iso_Part
end Go.Proofs.Ytnblpooimgpgoaa.Iso
