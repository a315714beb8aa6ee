/- Even of the program and of the reference. -/
import Derived.Test.YtdolhanniiejfaaShareJ
namespace Go.Proofs.Ytdolhanniiejfaa.Share
open Go.ChangeShapes Go.WideShapes Go.RowKit Go.Lib Go.Proofs.Ytdolhanniiejfaa.Mem
set_option linter.unusedVariables false
set_option maxRecDepth 100000

theorem split_n (t : Int) (ws : List Int) (n : Nat) (hn : ws.length = n) (A : Option Addr) (c : Nat) (w : World) (hS : Cl eI w A ws) (hl : n ≤ 9223372036854775807) :
    Calls Try.prog 11 #[.int .i64 t, .slice A n c] w (ResL (splL t ws) (errS t ws) w) := by
  subst hn; exact share_split t ws A c w hS hl
theorem rsplit_n (t : Int) (ws : List Int) (n : Nat) (hn : ws.length = n) (A : Option Addr) (c : Nat) (w : World) (hS : Cl eI w A ws) (hl : n ≤ 9223372036854775807) :
    Calls Try.prog 12 #[.int .i64 t, .slice A n c] w (ResL (splL t ws) (errS t ws) w) := by
  subst hn; exact ref_split t ws A c w hS hl
theorem bounds_n (t : Int) (ws : List Int) (n : Nat) (hn : ws.length = n) (A : Option Addr) (c : Nat) (w : World) (hS : Cl eI w A ws) (hl : n ≤ 9223372036854775807) :
    Calls Try.prog 13 #[.int .i64 t, .slice A n c] w (ResL (bouL t ws) (errS t ws) w) := by
  subst hn; exact share_bounds t ws A c w hS hl
theorem rbounds_n (t : Int) (ws : List Int) (n : Nat) (hn : ws.length = n) (A : Option Addr) (c : Nat) (w : World) (hS : Cl eI w A ws) (hl : n ≤ 9223372036854775807) :
    Calls Try.prog 14 #[.int .i64 t, .slice A n c] w (ResL (bouL t ws) (errS t ws) w) := by
  subst hn; exact ref_bounds t ws A c w hS hl
theorem same_n (L M : List Int) (n m : Nat) (hn : L.length = n) (hm : M.length = m) (A B : Option Addr) (c d : Nat) (w : World) (ha : Cl eI w A L) (hb : Cl eI w B M) (h1 : n ≤ 9223372036854775807) (h2 : m ≤ 9223372036854775807) :
    Calls Try.prog 15 #[.slice A n c, .slice B m d] w fun e w' => e = .returned (.bool (decide (L = M))) ∧ Below w.heap.size w w' := by
  subst hn; subst hm; exact same_ints L M A B c d w ha hb h1 h2
theorem ResL.open_ {L : List Int} {E : Nat} {w : World} {e : Ending} {w' : World} (h : ResL L E w e w') : ∃ (A : Option Addr) (n c : Nat), e = .returned (.tuple #[.slice A n c, .int .i64 (E : Int)]) ∧ L.length = n ∧ n ≤ 9223372036854775807 ∧ Own eI 3 w.heap.size w' (.slice A n c) L ∧ Cl eI w' A L ∧ Below w.heap.size w w' := by
  obtain ⟨v, rfl, ho, hb⟩ := h
  obtain ⟨A, c, rfl, hl, hc⟩ := ho.inS.open_
  exact ⟨A, _, c, rfl, rfl, hl, ho, hc, hb⟩
theorem own_cl {α : Type} {enc : α → Value} {t : TypeId} {B n c : Nat} {w : World} {A : Option Addr} {L : List α} (h : Own enc t B w (.slice A n c) L) : Cl enc w A L := by
  obtain ⟨A2, c2, e, _, _, hc⟩ := h.inS
  exact (Value.slice.inj e).1 ▸ hc
/-- What Even returns. -/
def evE (t m : Int) : Nat := if m < 1 ∨ 512 < m then 1 else errS t (List.replicate m.toNat 1)
def evL (t m : Int) : List Int := if m < 1 ∨ 512 < m then [] else splL t (List.replicate m.toNat 1)
theorem ev_out {t m : Int} (h : m < 1 ∨ 512 < m) : evE t m = 1 ∧ evL t m = [] := ⟨if_pos h, if_pos h⟩
theorem ev_in {t : Int} {N : Nat} (h1 : 1 ≤ N) (h2 : N ≤ 512) : evE t (N : Int) = errS t (List.replicate N 1) ∧ evL t (N : Int) = splL t (List.replicate N 1) := by
  unfold evE evL
  rw [if_neg (by omega), if_neg (by omega), Int.toNat_natCast]
  exact ⟨rfl, rfl⟩
theorem ev_t {t : Int} {m : Int} (h : inW t = false) : evE t m = 1 ∧ evL t m = [] := by
  unfold evE evL
  by_cases hm : m < 1 ∨ 512 < m
  · rw [if_pos hm, if_pos hm]; exact ⟨rfl, rfl⟩
  · rw [if_neg hm, if_neg hm, errS_t h]
    refine ⟨rfl, ?_⟩
    unfold splL
    rw [errS_t h, if_neg (by omega)]

set_option maxHeartbeats 1600000 in
theorem share_even (t m : Int) (w : World) : Calls Try.prog 16 #[.int .i64 t, .int .i64 m] w (ResL (evL t m) (evE t m) w) := by
  by_cases hm : m < 1 ∨ 512 < m
  · have HE := Lib.hid (ev_out (t := t) hm)
    have HF : Hid (ResL (evL t m) (evE t m) w (.returned (.tuple #[.slice none 0 0, .int .i64 1])) w) := ⟨_, by rw [HE.out.1]; rfl, by rw [HE.out.2]; exact Own.nil _ _ _ _, Below.refl _ _⟩
    rcases hm with h | h
    · go_enter Try.func16, Try.ntmps16
      go_wp2_with fail
      go_ret2
      exact HF.out
    · have h1 : ¬ m < 1 := by omega
      go_enter Try.func16, Try.ntmps16
      go_wp2_with fail
      go_ret2
      exact HF.out
  · obtain ⟨N, rfl⟩ : ∃ N : Nat, m = (N : Int) := ⟨m.toNat, by omega⟩
    have HN := Lib.hid (show 1 ≤ N ∧ N ≤ 512 by omega)
    have HE := Lib.hid (ev_in (t := t) HN.out.1 HN.out.2)
    have h1 : ¬ (N : Int) < 1 := by omega
    have h2 : ¬ (512 : Int) < (N : Int) := by omega
    have h3 : 1 ≤ N := HN.out.1
    have h4 : ¬ 512 < N := by have := HN.out; omega
    clear hm
    go_enter Try.func16, Try.ntmps16
    go_wp2_with fail
    have HR := Lib.hid (repeat_int N 1 w.heap.size 1 (w.alloc (.cells #[.int .i64 1] 3)) (by have := HN.out; omega) HN.out.1 (int_one w 1 3 rfl) (by simp))
    have HB1 := Lib.hid (below_alloc w (.cells #[.int .i64 1] 3))
    generalize w.alloc (.cells #[.int .i64 1] 3) = w1 at *
    refine HR.out.mono ?_
    rintro e w2 ⟨rfl, hown, hb2⟩
    have HB2 : Hid (Below w.heap.size w w2) := bstep HB1.out hb2
    have HSP := Lib.hid (split_n t (List.replicate N 1) N (by simp) _ N w2 hown.cl (by have := HN.out; omega))
    obtain ⟨E, hE⟩ : ∃ E, E = errS t (List.replicate N 1) := ⟨_, rfl⟩
    obtain ⟨R, hR⟩ : ∃ E, E = splL t (List.replicate N 1) := ⟨_, rfl⟩
    rw [← hE, ← hR] at HSP HE
    clear hown hb2 hE hR HR HB1
    go_wp2_with fail
    refine HSP.out.mono ?_
    intro e w3 h3
    obtain ⟨A, n, c, rfl, hn, hl, ho, -, hb3⟩ := h3.open_
    have HO := Lib.hid ho
    have HB3 := Lib.hid hb3
    clear ho hb3 h3 hn hl
    go_wp2_with fail
    go_ret2
    exact ⟨_, tup2 rfl (by rw [HE.out.1]), by rw [HE.out.2]; exact HO.out.less HB2.out.size, bstep HB2.out HB3.out⟩

set_option maxHeartbeats 1600000 in
theorem ref_even (t m : Int) (w : World) : Calls Try.prog 17 #[.int .i64 t, .int .i64 m] w (ResL (evL t m) (evE t m) w) := by
  have hmx : mx = 1125899906842624 := rfl
  cases hi : inW t with
  | false =>
    have HE := Lib.hid (ev_t (m := m) hi)
    have HF : Hid (ResL (evL t m) (evE t m) w (.returned (.tuple #[.slice none 0 0, .int .i64 1])) w) := ⟨_, by rw [HE.out.1]; rfl, by rw [HE.out.2]; exact Own.nil _ _ _ _, Below.refl _ _⟩
    rcases inW_no.mp hi with h | h
    · clear hi hmx
      go_enter Try.func17, Try.ntmps17
      go_wp2_with fail
      go_ret2
      exact HF.out
    · have h1 : ¬ t < 0 := by omega
      have h2 : 1125899906842624 < t := by omega
      clear hi hmx h
      go_enter Try.func17, Try.ntmps17
      go_wp2_with fail
      go_ret2
      exact HF.out
  | true =>
    obtain ⟨t0, t1⟩ := inW_iff.mp hi
    have g1 : ¬ t < 0 := by omega
    have g2 : ¬ 1125899906842624 < t := by omega
    clear hi t0 t1 hmx
    by_cases hm : m < 1 ∨ 512 < m
    · have HE := Lib.hid (ev_out (t := t) hm)
      have HF : Hid (ResL (evL t m) (evE t m) w (.returned (.tuple #[.slice none 0 0, .int .i64 1])) w) := ⟨_, by rw [HE.out.1]; rfl, by rw [HE.out.2]; exact Own.nil _ _ _ _, Below.refl _ _⟩
      rcases hm with h | h
      · go_enter Try.func17, Try.ntmps17
        go_wp2_with fail
        go_ret2
        exact HF.out
      · have h1 : ¬ m < 1 := by omega
        go_enter Try.func17, Try.ntmps17
        go_wp2_with fail
        go_ret2
        exact HF.out
    · obtain ⟨N, rfl⟩ : ∃ N : Nat, m = (N : Int) := ⟨m.toNat, by omega⟩
      have HN := Lib.hid (show 1 ≤ N ∧ N ≤ 512 by omega)
      have HE := Lib.hid (ev_in (t := t) HN.out.1 HN.out.2)
      have h1 : ¬ (N : Int) < 1 := by omega
      have h2 : ¬ (512 : Int) < (N : Int) := by omega
      have h3 : 1 ≤ N := HN.out.1
      have h4 : ¬ 512 < N := by have := HN.out; omega
      clear hm
      go_enter Try.func17, Try.ntmps17
      go_wp2_with fail
      go_loopw [6, 7] (fun v x wr => ∃ (k c' : Nat) (A' : Option Addr), v = .slice A' k c' ∧ x = .int .i64 (k : Int) ∧ k ≤ N ∧ Own eI 3 w.heap.size wr (.slice A' k c') (List.replicate k 1) ∧ Below w.heap.size w wr) (fun _ x _ => N - (RowKit.intOf x).toNat)
      case atStart => exact ⟨0, 0, none, rfl, rfl, Nat.zero_le _, Own.nil _ _ _ _, Below.refl _ _⟩
      case round =>
        obtain ⟨k, c', A', rfl, rfl, hk, hown, hbel⟩ := hrel
        have HO := Lib.hid hown
        have HB := Lib.hid hbel
        clear hown hbel
        rcases Nat.lt_or_ge k N with hlt | hge
        · have HLT := Lib.hid hlt
          have hk1 : IntKind.i64.wrap ((k : Int) + 1) = ((k + 1 : Nat) : Int) := wrap_id (by have := HN.out; omega)
          have i1 : (k : Int) < (N : Int) := by omega
          clear hk hlt
          go_wp2_with (at_builtin; refine append_int rfl _ _ rfl w.heap.size (.slice A' k c') (List.replicate k 1) rfl (HO.out.alloc _) wr.heap.size 1 1 rfl (by simp) (by have := HN.out; have := HLT.out; simp; omega) (Nat.le_trans HB.out.size (below_alloc _ _).size) ?_; intro v' w6 hown' hg' hat; refine Hid.out ?_)
          have HBA := Lib.hid (below_alloc wr (.cells #[.int .i64 1] 3))
          have HB6 : Hid (Below w.heap.size w w6) := HB.out.trans ((HBA.out.mono HB.out.size).trans (Own.below (HO.out.alloc _) hg' (Nat.le_trans HB.out.size HBA.out.size)))
          obtain ⟨A6, c6, rfl, -, -⟩ := hown'.inS.open_
          have e6 : (List.replicate k (1 : Int) ++ [1]).length = k + 1 := by simp
          have e7 : List.replicate k (1 : Int) ++ [1] = List.replicate (k + 1) 1 := List.replicate_succ'.symm
          rw [e6, e7] at hown'
          rw [e6]
          have HO6 := Lib.hid hown'
          clear hown' hg' hat e6 e7 HBA
          refine Lib.hid ?_
          go_wp2_with fail
          go_roundw
          case rel => exact ⟨k + 1, c6, A6, rfl, rfl, HLT.out, HO6.out, HB6.out⟩
          case measure =>
            have := HLT.out
            simp [RowKit.intOf]; omega
        · obtain rfl : N = k := by omega
          have hcl := own_cl HO.out
          have HSP := Lib.hid (rsplit_n t (List.replicate N 1) N (by simp) A' c' wr hcl (by have := HN.out; omega))
          obtain ⟨E, hE⟩ : ∃ E, E = errS t (List.replicate N 1) := ⟨_, rfl⟩
          obtain ⟨R, hR⟩ : ∃ E, E = splL t (List.replicate N 1) := ⟨_, rfl⟩
          rw [← hE, ← hR] at HSP HE
          clear hE hR hcl hk hge
          go_wp2_with fail
          refine HSP.out.mono ?_
          intro e w3 h3
          obtain ⟨A3, n3, c3, rfl, hn, hl, ho, -, hb3⟩ := h3.open_
          have HO3 := Lib.hid ho
          have HB3 := Lib.hid hb3
          clear ho hb3 h3 hn hl
          go_wp2_with fail
          go_ret2
          exact ⟨_, tup2 rfl (by rw [HE.out.1]), by rw [HE.out.2]; exact HO3.out.less HB.out.size, bstep HB.out HB3.out⟩
#print axioms share_even
#print axioms ref_even
end Go.Proofs.Ytdolhanniiejfaa.Share
