/- Forward and Back of the program. -/
import Derived.Test.YtkbnhmgladkojaaAlignJ
namespace Go.Proofs.Ytkbnhmgladkojaa.Align
open Go.ChangeShapes Go.WideShapes Go.RowKit Go.Lib Go.Proofs.Ytkbnhmgladkojaa.Rw
open Go.Proofs.Ytkbnhmgladkojaa.Num (mdV)
set_option linter.unusedVariables false
set_option maxRecDepth 100000

theorem fst_ex {f : Mk → Bool} : ∀ {L : List Mk}, (∃ (k : Nat) (s : Mk), L[k]? = some s ∧ f s = true) → ∃ K, Fst L f K
  | [], ⟨k, s, h, _⟩ => by simp at h
  | x :: L, ⟨k, s, h, hf⟩ => by
    cases hx : f x with
    | true => exact ⟨0, by simp, fun s hs => by simp at hs; subst hs; exact hx, fun j s hj => absurd hj (by omega)⟩
    | false =>
      cases k with
      | zero => simp at h; subst h; rw [hx] at hf; cases hf
      | succ k =>
        obtain ⟨K, h1, h2, h3⟩ := fst_ex (f := f) (L := L) ⟨k, s, by simpa using h, hf⟩
        refine ⟨K + 1, by simp; omega, fun s hs => h2 s (by simpa using hs), fun j s hj hs => ?_⟩
        cases j with
        | zero => simp at hs; subst hs; exact hx
        | succ j => exact h3 j s (by omega) (by simpa using hs)
/-- The mark before the first one behind the first mark that meets a test. -/
theorem fst_before {L : List Mk} {f : Mk → Bool} {K : Nat} (h : Fst (L.drop 1) f K) {p : Mk} (hp : L[K]? = some p) : K = 0 ∨ f p = false := by
  cases K with
  | zero => exact Or.inl rfl
  | succ K => exact Or.inr (h.2.2 K p (by omega) (by rw [List.getElem?_drop, Nat.add_comm]; exact hp))
theorem fst_at {L : List Mk} {f : Mk → Bool} {K : Nat} (h : Fst (L.drop 1) f K) : ∃ p n, L[K]? = some p ∧ L[K + 1]? = some n ∧ f n = true := by
  have h1 := h.1
  rw [List.length_drop] at h1
  obtain ⟨p, hp⟩ := get_lt (L := L) (k := K) (by omega)
  obtain ⟨n, hn⟩ := get_lt (L := L) (k := K + 1) (by omega)
  exact ⟨p, n, hp, hn, h.2.1 n (by rw [List.getElem?_drop, Nat.add_comm]; exact hn)⟩
theorem Ac.fst_ex {L : List Mk} {m q : Mk} {N : Nat} (h : Ac L m q N) {f : Mk → Bool} (hf : f q = true) : ∃ K, Fst (L.drop 1) f K := by
  refine Align.fst_ex ⟨N - 1, q, ?_, hf⟩
  rw [List.getElem?_drop, show 1 + (N - 1) = N by have := h.two; omega]
  exact h.lst
theorem cell_box (w : World) (x : Value) (t : TypeId) : (w.alloc (.cells #[x] t)).cell? ⟨w.heap.size, 0, none⟩ = some x := by
  rw [cell_of_row _ _ _ _ _ _ (heap_alloc_new w (.cells #[x] t))]
  rfl

/-! ### Back, by the marks around -/
theorem bck_fst : ∀ {r : List Mk} {m : Mk} {b : Int} {K : Nat}, Fst r (fun n => decide (b ≤ n.2)) K → ∀ {p n : Mk}, (m :: r)[K]? = some p → r[K]? = some n → bck m r b = segB p n b
  | [], m, b, K, h, p, n, _, hn => by simp at hn
  | n0 :: r, m, b, K, h, p, n, hp, hn => by
    rw [bck]
    by_cases hb : b ≤ n0.2
    · rw [if_pos hb]
      cases K with
      | zero => simp at hp hn; subst hp hn; rfl
      | succ K =>
        have : decide (b ≤ n0.2) = false := h.2.2 0 n0 (by omega) rfl
        rw [decide_eq_true hb] at this
        cases this
    · rw [if_neg hb]
      cases K with
      | zero =>
        have : decide (b ≤ n0.2) = true := h.2.1 n0 rfl
        rw [decide_eq_false hb] at this
        cases this
      | succ K =>
        refine bck_fst (K := K) ⟨by have := h.1; simp at this; omega, fun s hs => h.2.1 s (by simpa using hs), fun j s hj hs => h.2.2 (j + 1) s (by omega) (by simpa using hs)⟩ (by simpa using hp) (by simpa using hn)
def valB (L : List Mk) (b : Int) : Int := match L with
  | [] => 0
  | m :: r => bck m r b
theorem valB_fst {L : List Mk} {b : Int} {K : Nat} (h : Fst (L.drop 1) (fun n => decide (b ≤ n.2)) K) {p n : Mk} (hp : L[K]? = some p) (hn : L[K + 1]? = some n) : valB L b = segB p n b := by
  cases L with
  | nil => simp at hp
  | cons m r => exact bck_fst h hp (by simpa using hn)
theorem bckE_in {L : List Mk} {m q : Mk} {N : Nat} (hz : chkA L = 0) (h : Ac L m q N) {b : Int} (h0 : m.2 ≤ b) (h1 : b ≤ q.2) : bckE L b = 0 ∧ bckV L b = valB L b := by
  have e : bckE L b = 0 := by unfold bckE; rw [if_pos hz, h.fs, h.la, if_pos ⟨h0, h1⟩]
  exact ⟨e, by unfold bckV; rw [if_pos e]; rfl⟩
theorem bckE_out {L : List Mk} {m q : Mk} {N : Nat} (hz : chkA L = 0) (h : Ac L m q N) {b : Int} (h0 : b < m.2 ∨ q.2 < b) : bckE L b = 1 ∧ bckV L b = 0 := by
  have e : bckE L b = 1 := by unfold bckE; rw [if_pos hz, h.fs, h.la, if_neg (by omega)]
  exact ⟨e, by unfold bckV; rw [e, if_neg (by decide)]⟩
theorem bckE_bad {L : List Mk} (hz : ¬ chkA L = 0) (b : Int) : bckE L b = chkA L ∧ bckV L b = 0 := by
  have e : bckE L b = chkA L := by unfold bckE; rw [if_neg hz]
  exact ⟨e, by unfold bckV; rw [e, if_neg hz]⟩
theorem segB_lim {p n : Mk} (h : Aft p n) {b : Int} (h0 : p.2 ≤ b) (h1 : b ≤ n.2) : p.1 ≤ segB p n b ∧ segB p n b ≤ n.1 :=
  ⟨segB_lo h h0, (seg_back h n.1 b).mp (by rw [seg_hi h]; exact h1)⟩
theorem valA_fst {L : List Mk} {m q : Mk} {N : Nat} (h : Ac L m q N) {a : Int} {K : Nat} {p n : Mk} (hp : L[K]? = some p) (hn : L[K + 1]? = some n) (h0 : p.1 ≤ a) (h1 : a ≤ n.1) : valA L a = seg p n a := h.seg K p n hp hn a h0 h1

theorem tst_Forward (g : Nat) (a : Int) : Tst 29 #[] #[.pointer (some ⟨g, 0, none⟩)] (fun W => W.cell? ⟨g, 0, none⟩ = some (.int .i64 a) ∧ g < W.heap.size) (fun m => decide (a ≤ m.1)) where
  eg := fun args w => rfl
  keep := fun W W' h hb => ⟨(hb.cell (p := ⟨g, 0, none⟩) h.2).trans h.1, Nat.lt_of_lt_of_le h.2 hb.size⟩
  step := fun m W h => by
    obtain ⟨h0, h1⟩ := h
    go_enter Try.func29, Try.ntmps29
    go_wp2_with fail
    go_ret
    exact ⟨rfl, below_alloc _ _⟩

set_option maxHeartbeats 3200000 in
theorem align_Forward (L : List Mk) (A : Option Addr) (c : Nat) (a : Int) (w : World) (ha : Mks w A L) (hm : L.length ≤ 9223372036854775807) (hcap : L.length ≤ c) :
    Calls Try.prog 15 #[.slice A L.length c, .int .i64 a] w fun e w' => e = .returned (.tuple #[.int .i64 (fwdV L a), .int .i64 (fwdE L a)]) ∧ Below w.heap.size w w' := by
  have HA := Lib.hid ha
  have HCap := Lib.hid hcap
  clear ha hcap
  obtain ⟨V, hV⟩ : ∃ V, fwdV L a = V := ⟨_, rfl⟩
  obtain ⟨E, hE⟩ : ∃ E, fwdE L a = E := ⟨_, rfl⟩
  rw [hV, hE]
  have HV := Lib.hid hV
  have HE := Lib.hid hE
  clear hV hE
  go_enter Try.func15, Try.ntmps15
  go_upto_region 1 with fail
  obtain ⟨w0, hw0⟩ : ∃ W, w.alloc (.cells #[.int .i64 a] 3) = W := ⟨_, rfl⟩
  have HB0 : Hid (Below w.heap.size w w0) := hw0 ▸ below_alloc _ _
  have HX0 : Hid (w0.cell? ⟨w.heap.size, 0, none⟩ = some (.int .i64 a) ∧ w.heap.size < w0.heap.size) := hw0 ▸ ⟨cell_box _ _ _, by simp⟩
  rw [hw0]
  clear hw0
  go_wp2_with fail
  refine (align_Check L A c w0 (HA.out.on HB0.out) hm HCap.out).mono ?_
  rintro e w1 ⟨rfl, hb1⟩
  have HX1 : Hid (w1.cell? ⟨w.heap.size, 0, none⟩ = some (.int .i64 a) ∧ w.heap.size < w1.heap.size) := (tst_Forward w.heap.size a).keep _ _ HX0.out hb1
  have HB1 := Lib.hid (bstep HB0.out hb1)
  clear hb1
  by_cases hz : chkA L = 0
  · obtain ⟨m, q, N, hac⟩ := Ac.of hz
    have HZ := Lib.hid hz
    have HC := Lib.hid hac
    have hN := hac.len
    have h1N := hac.two
    have hNf := hac.few
    have hcN : N + 1 ≤ c := by have := HCap.out; omega
    obtain ⟨b, off, rfl, hb⟩ := rd_ne (HA.out.on HB1.out) (show 0 < L.length by omega)
    obtain ⟨c0, c1⟩ := at_k (HA.out.on HB1.out) hac.fst
    obtain ⟨c2, c3⟩ := at_k (HA.out.on HB1.out) hac.lst
    rw [Nat.zero_mul, Nat.add_zero] at c0 c1
    obtain ⟨x0, -⟩ := HX1.out
    have wN : IntKind.i64.wrap (N : Int) = (N : Int) := wrap_id (by omega)
    have i0 : (0 : Int) < (N : Int) + 1 := by omega
    have i1 : (N : Int) < (N : Int) + 1 := by omega
    rw [hz]
    clear hz
    rcases Int.lt_or_le a m.1 with h0 | h0
    · obtain ⟨e1, e2⟩ := fwdE_out HZ.out hac (Or.inl h0)
      obtain rfl : E = 1 := by rw [← HE.out]; exact e1
      obtain rfl : V = 0 := by rw [← HV.out]; exact e2
      have d0 : decide (a < m.1) = true := decide_eq_true h0
      clear h0 e1 e2 hac hcN
      go_wp2_with fail
      go_quiet (fail)
      go_wp2_with fail
      go_ret2
      exact ⟨rfl, below_drewN HB1.out _⟩
    rcases Int.lt_or_le q.1 a with h1 | h1
    · obtain ⟨e1, e2⟩ := fwdE_out HZ.out hac (Or.inr h1)
      obtain rfl : E = 1 := by rw [← HE.out]; exact e1
      obtain rfl : V = 0 := by rw [← HV.out]; exact e2
      have d0 : decide (a < m.1) = false := decide_eq_false (by omega)
      have d1 : decide (q.1 < a) = true := decide_eq_true h1
      clear h0 h1 e1 e2 hac hcN
      go_wp2_with fail
      go_quiet (fail)
      go_wp2_with fail
      go_ret2
      exact ⟨rfl, below_drewN HB1.out _⟩
    obtain ⟨e1, e2⟩ := fwdE_in HZ.out hac h0 h1
    obtain rfl : E = 0 := by rw [← HE.out]; exact e1
    obtain ⟨K, hK⟩ := hac.fst_ex (f := fun n => decide (a ≤ n.1)) (decide_eq_true h1)
    obtain ⟨p, n, hp, hn, hna⟩ := fst_at hK
    have hge : a ≤ n.1 := of_decide_eq_true hna
    have hpa : p.1 ≤ a := by
      rcases fst_before hK hp with h | h
      · subst h; rw [hac.fst] at hp; cases hp; exact h0
      · have := of_decide_eq_false h; omega
    have d0 : decide (a < m.1) = false := decide_eq_false (by omega)
    have d1 : decide (q.1 < a) = false := decide_eq_false (by omega)
    have hpair := hac.pair K p n hp hn
    have hpl := hac.at_ hp
    have hnl := hac.at_ hn
    have ha1 := hpair.1
    have ha2 := hpair.2
    have hsl := seg_lim hpair ⟨hpl.2.2.1, hpl.2.2.2⟩ hnl.2.2.2 hpa hge
    have hseg : V = seg p n a := by rw [← HV.out, e2]; exact valA_fst hac hp hn hpa hge
    obtain ⟨X, hX⟩ : ∃ X, a - p.1 = X := ⟨_, rfl⟩
    obtain ⟨Y, hY⟩ : ∃ Y, n.2 - p.2 = Y := ⟨_, rfl⟩
    obtain ⟨Z, hZ⟩ : ∃ Z, n.1 - p.1 = Z := ⟨_, rfl⟩
    unfold seg at hseg
    rw [hX, hY, hZ] at hseg hsl
    obtain ⟨Q, hQ⟩ : ∃ Q, X * Y / Z = Q := ⟨_, rfl⟩
    rw [hQ] at hseg hsl
    have wX : IntKind.i64.wrap X = X := wrap_id (by omega)
    have wY : IntKind.i64.wrap Y = Y := wrap_id (by omega)
    have wZ : IntKind.i64.wrap Z = Z := wrap_id (by omega)
    have wV : IntKind.i64.wrap V = V := wrap_id (by omega)
    have HS : Hid (∀ W, Calls Try.prog 30 #[.int .i64 X, .int .i64 Y, .int .i64 Z, .int .i64 0] W fun e w' => e = .returned (.int .i64 Q) ∧ Below W.heap.size W w') := Lib.hid fun W => by
      have := align_scaled X Y Z 0 W
      rw [md_down (by omega) (by omega) (by omega) (by omega) (by omega) (by omega), hQ] at this
      exact this
    replace hseg := hseg.symm
    clear hsl hQ
    have HAr := Lib.hid fun (W : World) (h : Mks W (some ⟨b, off, none⟩) L) (hI : W.cell? ⟨w.heap.size, 0, none⟩ = some (.int .i64 a) ∧ w.heap.size < W.heap.size) => align_around (tst_Forward w.heap.size a) L b off N c hN h1N hcN W h (by omega) hI hK p n hp hn
    clear h0 h1 e1 e2 hac hge hpa hpair hpl hnl ha1 ha2 hK hp hn hna hcN
    go_wp2_with fail
    go_quiet (fail)
    have HB2 := Lib.hid (below_drewN HB1.out nq)
    have HX2 : Hid ((w1.drewN nq).cell? ⟨w.heap.size, 0, none⟩ = some (.int .i64 a) ∧ w.heap.size < (w1.drewN nq).heap.size) := (tst_Forward w.heap.size a).keep _ _ HX1.out (below_drewN (Below.refl _ _) nq)
    generalize hw2 : w1.drewN nq = w2 at HB2 HX2
    clear hw2 d0 d1 c0 c1 c2 c3 x0
    go_wp2_with fail
    refine (HAr.out w2 (HA.out.on HB2.out) HX2.out).mono ?_
    rintro e w3 ⟨rfl, hb3⟩
    have HB3 := Lib.hid (bstep HB2.out hb3)
    have HX3 : Hid (w3.cell? ⟨w.heap.size, 0, none⟩ = some (.int .i64 a) ∧ w.heap.size < w3.heap.size) := (tst_Forward w.heap.size a).keep _ _ HX2.out hb3
    clear hb3
    go_upto_region 7 with fail
    generalize hw4 : (w3.alloc (.cells #[.int .i64 p.1, .int .i64 p.2] 41)).alloc (.cells #[.int .i64 n.1, .int .i64 n.2] 41) = w4
    have HB34 : Hid (Below w3.heap.size w3 w4) := hw4 ▸ bstep (below_alloc _ _) (below_alloc _ _)
    have HP4 : Hid (Cel w4 w3.heap.size [.int .i64 p.1, .int .i64 p.2]) := hw4 ▸ (Cel.new w3 [.int .i64 p.1, .int .i64 p.2] _).alloc _
    have HN4 : Hid (Cel w4 (w3.heap.size + 1) [.int .i64 n.1, .int .i64 n.2]) := hw4 ▸ Cel.new_at _ [.int .i64 n.1, .int .i64 n.2] _ (by simp)
    have HB4 := Lib.hid (bstep HB3.out HB34.out)
    have HS4 : Hid (∀ W : World, Below w4.heap.size w4 W → ((W.cell? ⟨w3.heap.size, 0, none⟩ = some (.int .i64 p.1) ∧ W.cell? ⟨w3.heap.size, 1, none⟩ = some (.int .i64 p.2)) ∧ (W.cell? ⟨w3.heap.size + 1, 0, none⟩ = some (.int .i64 n.1) ∧ W.cell? ⟨w3.heap.size + 1, 1, none⟩ = some (.int .i64 n.2))) ∧ W.cell? ⟨w.heap.size, 0, none⟩ = some (.int .i64 a)) := fun W h =>
      ⟨⟨(HP4.out.on h).two, (HN4.out.on h).two⟩, ((tst_Forward w.heap.size a).keep _ _ ((tst_Forward w.heap.size a).keep _ _ HX3.out HB34.out) h).1⟩
    clear hw4
    obtain ⟨⟨⟨k0, k1⟩, k2, k3⟩, k4⟩ := HS4.out _ (Below.refl _ _)
    go_region_held3 (fun W => ((W.cell? ⟨w3.heap.size, 0, none⟩ = some (.int .i64 p.1) ∧ W.cell? ⟨w3.heap.size, 1, none⟩ = some (.int .i64 p.2)) ∧ (W.cell? ⟨w3.heap.size + 1, 0, none⟩ = some (.int .i64 n.1) ∧ W.cell? ⟨w3.heap.size + 1, 1, none⟩ = some (.int .i64 n.2))) ∧ W.cell? ⟨w.heap.size, 0, none⟩ = some (.int .i64 a))
      (first | exact HS4.out _ (Below.refl _ _) | exact HS4.out _ (drew_below _) | exact HS4.out _ (bstep (drew_below _) hb5))
      ((go_at_call 30; (refine (HS.out _).mono ?_); rintro e w5 ⟨rfl, hb5⟩))
    all_goals
      go_wp2_with fail
      go_ret2
      exact ⟨rfl, bstep HB4.out (bstep (drew_below _) hb5)⟩
  · obtain ⟨z1, z2⟩ := ne_tests hz
    obtain ⟨e1, e2⟩ := fwdE_bad hz a
    obtain rfl : chkA L = E := by rw [← HE.out]; exact e1.symm
    obtain rfl : V = 0 := by rw [← HV.out]; exact e2
    clear hz e1 e2
    go_wp2_with fail
    go_ret2
    exact ⟨rfl, HB1.out⟩

theorem tst_Back (g : Nat) (a : Int) : Tst 32 #[] #[.pointer (some ⟨g, 0, none⟩)] (fun W => W.cell? ⟨g, 0, none⟩ = some (.int .i64 a) ∧ g < W.heap.size) (fun m => decide (a ≤ m.2)) where
  eg := fun args w => rfl
  keep := fun W W' h hb => ⟨(hb.cell (p := ⟨g, 0, none⟩) h.2).trans h.1, Nat.lt_of_lt_of_le h.2 hb.size⟩
  step := fun m W h => by
    obtain ⟨h0, h1⟩ := h
    go_enter Try.func32, Try.ntmps32
    go_wp2_with fail
    go_ret
    exact ⟨rfl, below_alloc _ _⟩

set_option maxHeartbeats 3200000 in
theorem align_Back (L : List Mk) (A : Option Addr) (c : Nat) (a : Int) (w : World) (ha : Mks w A L) (hm : L.length ≤ 9223372036854775807) (hcap : L.length ≤ c) :
    Calls Try.prog 17 #[.slice A L.length c, .int .i64 a] w fun e w' => e = .returned (.tuple #[.int .i64 (bckV L a), .int .i64 (bckE L a)]) ∧ Below w.heap.size w w' := by
  have HA := Lib.hid ha
  have HCap := Lib.hid hcap
  clear ha hcap
  obtain ⟨V, hV⟩ : ∃ V, bckV L a = V := ⟨_, rfl⟩
  obtain ⟨E, hE⟩ : ∃ E, bckE L a = E := ⟨_, rfl⟩
  rw [hV, hE]
  have HV := Lib.hid hV
  have HE := Lib.hid hE
  clear hV hE
  go_enter Try.func17, Try.ntmps17
  go_upto_region 1 with fail
  obtain ⟨w0, hw0⟩ : ∃ W, w.alloc (.cells #[.int .i64 a] 3) = W := ⟨_, rfl⟩
  have HB0 : Hid (Below w.heap.size w w0) := hw0 ▸ below_alloc _ _
  have HX0 : Hid (w0.cell? ⟨w.heap.size, 0, none⟩ = some (.int .i64 a) ∧ w.heap.size < w0.heap.size) := hw0 ▸ ⟨cell_box _ _ _, by simp⟩
  rw [hw0]
  clear hw0
  go_wp2_with fail
  refine (align_Check L A c w0 (HA.out.on HB0.out) hm HCap.out).mono ?_
  rintro e w1 ⟨rfl, hb1⟩
  have HX1 : Hid (w1.cell? ⟨w.heap.size, 0, none⟩ = some (.int .i64 a) ∧ w.heap.size < w1.heap.size) := (tst_Back w.heap.size a).keep _ _ HX0.out hb1
  have HB1 := Lib.hid (bstep HB0.out hb1)
  clear hb1
  by_cases hz : chkA L = 0
  · obtain ⟨m, q, N, hac⟩ := Ac.of hz
    have HZ := Lib.hid hz
    have HC := Lib.hid hac
    have hN := hac.len
    have h1N := hac.two
    have hNf := hac.few
    have hcN : N + 1 ≤ c := by have := HCap.out; omega
    obtain ⟨b, off, rfl, hb⟩ := rd_ne (HA.out.on HB1.out) (show 0 < L.length by omega)
    obtain ⟨c0, c1⟩ := at_k (HA.out.on HB1.out) hac.fst
    obtain ⟨c2, c3⟩ := at_k (HA.out.on HB1.out) hac.lst
    rw [Nat.zero_mul, Nat.add_zero] at c0 c1
    obtain ⟨x0, -⟩ := HX1.out
    have wN : IntKind.i64.wrap (N : Int) = (N : Int) := wrap_id (by omega)
    have i0 : (0 : Int) < (N : Int) + 1 := by omega
    have i1 : (N : Int) < (N : Int) + 1 := by omega
    rw [hz]
    clear hz
    rcases Int.lt_or_le a m.2 with h0 | h0
    · obtain ⟨e1, e2⟩ := bckE_out HZ.out hac (Or.inl h0)
      obtain rfl : E = 1 := by rw [← HE.out]; exact e1
      obtain rfl : V = 0 := by rw [← HV.out]; exact e2
      have d0 : decide (a < m.2) = true := decide_eq_true h0
      clear h0 e1 e2 hac hcN
      go_wp2_with fail
      go_quiet (fail)
      go_wp2_with fail
      go_ret2
      exact ⟨rfl, below_drewN HB1.out _⟩
    rcases Int.lt_or_le q.2 a with h1 | h1
    · obtain ⟨e1, e2⟩ := bckE_out HZ.out hac (Or.inr h1)
      obtain rfl : E = 1 := by rw [← HE.out]; exact e1
      obtain rfl : V = 0 := by rw [← HV.out]; exact e2
      have d0 : decide (a < m.2) = false := decide_eq_false (by omega)
      have d1 : decide (q.2 < a) = true := decide_eq_true h1
      clear h0 h1 e1 e2 hac hcN
      go_wp2_with fail
      go_quiet (fail)
      go_wp2_with fail
      go_ret2
      exact ⟨rfl, below_drewN HB1.out _⟩
    obtain ⟨e1, e2⟩ := bckE_in HZ.out hac h0 h1
    obtain rfl : E = 0 := by rw [← HE.out]; exact e1
    obtain ⟨K, hK⟩ := hac.fst_ex (f := fun n => decide (a ≤ n.2)) (decide_eq_true h1)
    obtain ⟨p, n, hp, hn, hna⟩ := fst_at hK
    have hge : a ≤ n.2 := of_decide_eq_true hna
    have hpa : p.2 ≤ a := by
      rcases fst_before hK hp with h | h
      · subst h; rw [hac.fst] at hp; cases hp; exact h0
      · have := of_decide_eq_false h; omega
    have d0 : decide (a < m.2) = false := decide_eq_false (by omega)
    have d1 : decide (q.2 < a) = false := decide_eq_false (by omega)
    have hpair := hac.pair K p n hp hn
    have hpl := hac.at_ hp
    have hnl := hac.at_ hn
    have ha1 := hpair.1
    have ha2 := hpair.2
    have hsl := segB_lim hpair hpa hge
    have hseg : V = segB p n a := by rw [← HV.out, e2]; exact valB_fst hK hp hn
    rw [← hseg] at hsl
    obtain ⟨X, hX⟩ : ∃ X, a - p.2 = X := ⟨_, rfl⟩
    obtain ⟨Y, hY⟩ : ∃ Y, n.1 - p.1 = Y := ⟨_, rfl⟩
    obtain ⟨Z, hZ⟩ : ∃ Z, n.2 - p.2 = Z := ⟨_, rfl⟩
    unfold segB at hseg
    rw [hX, hY, hZ] at hseg
    obtain ⟨Q, hQ⟩ : ∃ Q, -(-(X * Y) / Z) = Q := ⟨_, rfl⟩
    have hseg2 : p.1 + Q = V := by omega
    have wX : IntKind.i64.wrap X = X := wrap_id (by omega)
    have wY : IntKind.i64.wrap Y = Y := wrap_id (by omega)
    have wZ : IntKind.i64.wrap Z = Z := wrap_id (by omega)
    have wV : IntKind.i64.wrap V = V := wrap_id (by omega)
    have HS : Hid (∀ W, Calls Try.prog 30 #[.int .i64 X, .int .i64 Y, .int .i64 Z, .int .i64 1] W fun e w' => e = .returned (.int .i64 Q) ∧ Below W.heap.size W w') := Lib.hid fun W => by
      have := align_scaled X Y Z 1 W
      rw [md_up (by omega) (by omega) (by omega) (by omega) (by omega) (by omega), hQ] at this
      exact this
    clear hsl hQ hseg
    have HAr := Lib.hid fun (W : World) (h : Mks W (some ⟨b, off, none⟩) L) (hI : W.cell? ⟨w.heap.size, 0, none⟩ = some (.int .i64 a) ∧ w.heap.size < W.heap.size) => align_around (tst_Back w.heap.size a) L b off N c hN h1N hcN W h (by omega) hI hK p n hp hn
    clear h0 h1 e1 e2 hac hge hpa hpair hpl hnl ha1 ha2 hK hp hn hna hcN
    go_wp2_with fail
    go_quiet (fail)
    have HB2 := Lib.hid (below_drewN HB1.out nq)
    have HX2 : Hid ((w1.drewN nq).cell? ⟨w.heap.size, 0, none⟩ = some (.int .i64 a) ∧ w.heap.size < (w1.drewN nq).heap.size) := (tst_Back w.heap.size a).keep _ _ HX1.out (below_drewN (Below.refl _ _) nq)
    generalize hw2 : w1.drewN nq = w2 at HB2 HX2
    clear hw2 d0 d1 c0 c1 c2 c3 x0
    go_wp2_with fail
    refine (HAr.out w2 (HA.out.on HB2.out) HX2.out).mono ?_
    rintro e w3 ⟨rfl, hb3⟩
    have HB3 := Lib.hid (bstep HB2.out hb3)
    have HX3 : Hid (w3.cell? ⟨w.heap.size, 0, none⟩ = some (.int .i64 a) ∧ w.heap.size < w3.heap.size) := (tst_Back w.heap.size a).keep _ _ HX2.out hb3
    clear hb3
    go_upto_region 7 with fail
    generalize hw4 : (w3.alloc (.cells #[.int .i64 p.1, .int .i64 p.2] 41)).alloc (.cells #[.int .i64 n.1, .int .i64 n.2] 41) = w4
    have HB34 : Hid (Below w3.heap.size w3 w4) := hw4 ▸ bstep (below_alloc _ _) (below_alloc _ _)
    have HP4 : Hid (Cel w4 w3.heap.size [.int .i64 p.1, .int .i64 p.2]) := hw4 ▸ (Cel.new w3 [.int .i64 p.1, .int .i64 p.2] _).alloc _
    have HN4 : Hid (Cel w4 (w3.heap.size + 1) [.int .i64 n.1, .int .i64 n.2]) := hw4 ▸ Cel.new_at _ [.int .i64 n.1, .int .i64 n.2] _ (by simp)
    have HB4 := Lib.hid (bstep HB3.out HB34.out)
    have HS4 : Hid (∀ W : World, Below w4.heap.size w4 W → ((W.cell? ⟨w3.heap.size, 0, none⟩ = some (.int .i64 p.1) ∧ W.cell? ⟨w3.heap.size, 1, none⟩ = some (.int .i64 p.2)) ∧ (W.cell? ⟨w3.heap.size + 1, 0, none⟩ = some (.int .i64 n.1) ∧ W.cell? ⟨w3.heap.size + 1, 1, none⟩ = some (.int .i64 n.2))) ∧ W.cell? ⟨w.heap.size, 0, none⟩ = some (.int .i64 a)) := fun W h =>
      ⟨⟨(HP4.out.on h).two, (HN4.out.on h).two⟩, ((tst_Back w.heap.size a).keep _ _ ((tst_Back w.heap.size a).keep _ _ HX3.out HB34.out) h).1⟩
    clear hw4
    obtain ⟨⟨⟨k0, k1⟩, k2, k3⟩, k4⟩ := HS4.out _ (Below.refl _ _)
    go_region_held3 (fun W => ((W.cell? ⟨w3.heap.size, 0, none⟩ = some (.int .i64 p.1) ∧ W.cell? ⟨w3.heap.size, 1, none⟩ = some (.int .i64 p.2)) ∧ (W.cell? ⟨w3.heap.size + 1, 0, none⟩ = some (.int .i64 n.1) ∧ W.cell? ⟨w3.heap.size + 1, 1, none⟩ = some (.int .i64 n.2))) ∧ W.cell? ⟨w.heap.size, 0, none⟩ = some (.int .i64 a))
      (first | exact HS4.out _ (Below.refl _ _) | exact HS4.out _ (drew_below _) | exact HS4.out _ (bstep (drew_below _) hb5))
      ((go_at_call 30; (refine (HS.out _).mono ?_); rintro e w5 ⟨rfl, hb5⟩))
    all_goals
      go_wp2_with fail
      go_ret2
      exact ⟨rfl, bstep HB4.out (bstep (drew_below _) hb5)⟩
  · obtain ⟨z1, z2⟩ := ne_tests hz
    obtain ⟨e1, e2⟩ := bckE_bad hz a
    obtain rfl : chkA L = E := by rw [← HE.out]; exact e1.symm
    obtain rfl : V = 0 := by rw [← HV.out]; exact e2
    clear hz e1 e2
    go_wp2_with fail
    go_ret2
    exact ⟨rfl, HB1.out⟩
#print axioms align_Forward
#print axioms align_Back
end Go.Proofs.Ytkbnhmgladkojaa.Align
