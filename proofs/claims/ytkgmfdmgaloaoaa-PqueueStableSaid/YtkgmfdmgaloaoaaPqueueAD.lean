/- The walks of PqueueSorts, PqueueNil. -/
import Derived.Test.YtkgmfdmgaloaoaaPqueueAC
namespace Go.Proofs.Ytkgmfdmgaloaoaa.PqueueI
open Go.ChangeShapes Go.WideShapes Go.RowKit Go.Lib Go.Proofs.Ytkgmfdmgaloaoaa.Pqueue
set_option linter.unusedVariables false
set_option maxRecDepth 100000

theorem row_rd {B : Nat} {w : World} {A : Option Addr} {n c : Nat} {L : List It} (h : Row cV 2 TV B w (.slice A n c) L) : Rd cV 2 w A L ∧ n = L.length ∧ n ≤ c ∧ c ≤ maxLen := by
  obtain ⟨A', c', e, h1, h2, h3, -⟩ := h.one cV_len
  cases e
  exact ⟨h3, rfl, h1, h2⟩
/-- Too long: the chapter's values alone. -/
theorem great_of {n k : Nat} (h : k < n) : decide ((k : Int) < (n : Int)) = true := by simp; omega
set_option maxHeartbeats 800000 in
theorem walk_PqueueSorts (w : World) (m : Int) (A : Option Addr) (c : Nat) (L : List It) (hs : Rd cV 2 w A L) (hl : L.length ≤ c) (hc : c ≤ maxLen) :
    Calls Try.prog 4 #[.int .i64 m, .slice A L.length c] w fun e w' => e = .returned (.bool true) ∧ Below w.heap.size w w' := by
  have HS := Lib.hid hs
  have HL := Lib.hid hl
  have HC := Lib.hid hc
  have hm9 : L.length ≤ 9223372036854775807 := by unfold maxLen at hc; omega
  obtain ⟨N, hN⟩ : ∃ N, L.length = N := ⟨_, rfl⟩
  have HN := Lib.hid hN
  rw [hN] at hm9 ⊢
  clear hs hl hc hN
  rcases Nat.lt_or_ge 150 N with hg | hg
  · go_enter Try.func4, Try.ntmps4
    go_wp2_with fail
    refine (awake_true w).mono ?_
    rintro e w1 ⟨rfl, hb⟩
    have HB := Lib.hid hb
    clear hb
    go_wp2_with fail
    go_ret
    exact ⟨rfl, HB.out⟩
  · have hg' : ¬ 150 < N := by omega
    have HG := Lib.hid hg
    clear hg
    go_enter Try.func4, Try.ntmps4
    go_wp2_with fail
    refine (order_at m w).mono ?_
    rintro e w0 ⟨n, rfl, ho, rfl⟩
    have HO := Lib.hid ho
    clear ho
    go_wp2_with fail
    have HSORT := Lib.hid (q_Sort (c := c) HS.out (by rw [HN.out]; have := HG.out; omega) HO.out)
    rw [HN.out] at HSORT
    refine HSORT.out.mono ?_
    rintro e w1 ⟨T, A1, c1, hT, rfl, hr1, -, hp1, hb1⟩
    have HR1 := Lib.hid hr1
    have HP1 := Lib.hid (hp1 (sw_lessM m))
    have HB1 := Lib.hid hb1
    have HT := Lib.hid hT
    clear hr1 hp1 hb1 hT HSORT
    rw [HN.out]
    go_wp2_with fail
    have HRS := Lib.hid (ref_Sort (m := m) (HS.out.on HB1.out) (by rw [HN.out]; have := HG.out; omega) HL.out HC.out)
    rw [HN.out] at HRS
    refine HRS.out.mono ?_
    rintro e w2 ⟨T2, A2, c2, hT2, rfl, hr2, hp2, hb2⟩
    obtain ⟨rfl, -⟩ := HP1.out.one (sw_lessM m) hp2 (by rw [hT2, HT.out])
    have HR2 := Lib.hid (row_rd hr2).1
    have HR1' := Lib.hid ((row_rd HR1.out).1.on hb2)
    have HB2 := Lib.hid (bstep HB1.out hb2)
    clear hr2 hp2 hb2 hT2 HRS
    rw [HN.out]
    go_wp2_with fail
    have HSAME := Lib.hid (ref_Same T A1 A2 c1 c2 w2 HR1'.out HR2.out (by rw [HT.out, HN.out]; have := HG.out; omega))
    rw [HT.out, HN.out] at HSAME
    refine HSAME.out.mono ?_
    rintro e w3 ⟨rfl, hb3⟩
    have HB3 := Lib.hid (bstep HB2.out hb3)
    clear hb3 HSAME
    go_wp2_with fail
    refine (awake_true w3).mono ?_
    rintro e w4 ⟨rfl, hb4⟩
    have HB4 := Lib.hid (bstep HB3.out hb4)
    clear hb4
    go_wp2_with fail
    go_ret
    exact ⟨rfl, HB4.out⟩
#print axioms walk_PqueueSorts
end Go.Proofs.Ytkgmfdmgaloaoaa.PqueueI
