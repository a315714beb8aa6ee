/- same of the laws; the chapter's values (awake). -/
import Derived.Test.YtkgmfdmgaloaoaaPqueueZ
namespace Go.Proofs.Ytkgmfdmgaloaoaa.PqueueI
open Go.ChangeShapes Go.WideShapes Go.RowKit Go.Lib Go.Proofs.Ytkgmfdmgaloaoaa.Pqueue
set_option linter.unusedVariables false
set_option maxRecDepth 100000

set_option maxHeartbeats 1600000 in
theorem law_same (L M : List It) (A B : Option Addr) (c d : Nat) (w : World) (ha : Rd cV 2 w A L) (hb : Rd cV 2 w B M) (hm : L.length ≤ 1000000) (hp : L.Perm M) :
    Calls Try.prog 24 #[.slice A L.length c, .slice B M.length d] w fun e w' => e = .returned (.bool true) ∧ Below w.heap.size w w' := by
  have HA := Lib.hid ha
  have HB := Lib.hid hb
  have HP := Lib.hid hp
  obtain ⟨N, hN⟩ : ∃ N, L.length = N := ⟨_, rfl⟩
  have HN := Lib.hid hN
  have HNM := Lib.hid (show M.length = N by rw [← hp.length_eq]; exact hN)
  rw [hN] at hm
  rw [hN, HNM.out]
  have HM := Lib.hid hm
  clear ha hb hN hp
  have hl' : ((N : Int) == (N : Int)) = true := by simp
  go_enter Try.func24, Try.ntmps24
  go_wp2_with fail
  go_loopw [5] (fun i wr => ∃ k : Nat, k ≤ N ∧ i = .int .i64 k ∧ Below w.heap.size w wr) (fun i _ => N - (intOf i).toNat)
  case atStart => exact ⟨0, Nat.zero_le _, rfl, Below.refl _ _⟩
  case round =>
    obtain ⟨k, hk, rfl, hbel⟩ := hrel
    have HW := Lib.hid hbel
    clear hbel
    rcases Nat.lt_or_ge k N with hlt | hge
    · obtain ⟨s, hs⟩ := get_lt (L := L) (k := k) (by rw [HN.out]; exact hlt)
      obtain ⟨b1, off1, rfl, hb1, h0, h1⟩ := rd_cells (HA.out.on HW.out) hs
      have i1 : (k : Int) < (N : Int) := by omega
      have i2 : (0 : Int) ≤ (k : Int) := by omega
      have HCA := Lib.hid (show ∀ W, Below wr.heap.size wr W → Calls Try.prog 37 #[.slice (some ⟨b1, off1, none⟩) N c, eV s] W fun e w' => e = .returned (.int .i64 (cnt M s : Int)) ∧ Below W.heap.size W w' from fun W hW => by
        have h := law_count L (some ⟨b1, off1, none⟩) c s W ((HA.out.on HW.out).on hW) (by rw [HN.out]; exact HM.out)
        rw [HN.out, cnt_perm HP.out s] at h
        exact h)
      have HCB := Lib.hid (show ∀ W, Below wr.heap.size wr W → Calls Try.prog 37 #[.slice B N d, eV s] W fun e w' => e = .returned (.int .i64 (cnt M s : Int)) ∧ Below W.heap.size W w' from fun W hW => by
        have h := law_count M B d s W ((HB.out.on HW.out).on hW) (by rw [HNM.out]; exact HM.out)
        rw [HNM.out] at h
        exact h)
      have HS := Lib.hid (show ∀ W, Below wr.heap.size wr W → (W.cell? ⟨b1, off1 + k * 2, none⟩ = some (.int .i64 s.1) ∧ W.cell? ⟨b1, off1 + k * 2 + 1, none⟩ = some (.int .i64 s.2)) from fun W hW =>
        ⟨(hW.cell (p := ⟨b1, _, none⟩) hb1).trans h0, (hW.cell (p := ⟨b1, _, none⟩) hb1).trans h1⟩)
      obtain ⟨q, hq⟩ : ∃ q, cnt M s = q := ⟨_, rfl⟩
      rw [hq] at HCA HCB
      have hqq : ((q : Int) != (q : Int)) = false := by simp
      clear hs hq
      go_wp2_with fail
      go_region_held3 (fun W' => W'.cell? ⟨b1, off1 + k * 2, none⟩ = some (.int .i64 s.1) ∧ W'.cell? ⟨b1, off1 + k * 2 + 1, none⟩ = some (.int .i64 s.2))
        (first | exact HS.out _ (drew_below _) | exact HS.out _ (bstep (drew_below _) hb2) | exact HS.out _ (bstep (drew_below _) hb3) | exact HS.out _ (bstep (bstep (drew_below _) hb2) hb3) | exact HS.out _ (bstep (bstep (drew_below _) hb3) hb2))
        (first | (go_at_call 37; (first | (with_reducible refine (HCA.out _ (drew_below _)).mono ?_) | (with_reducible refine (HCA.out _ (bstep (drew_below _) hb3)).mono ?_)); rintro e w2 ⟨rfl, hb2⟩) | (go_at_call 37; (first | (with_reducible refine (HCB.out _ (drew_below _)).mono ?_) | (with_reducible refine (HCB.out _ (bstep (drew_below _) hb2)).mono ?_)); rintro e w3 ⟨rfl, hb3⟩))
      all_goals
        have HBZ : Hid (Below w.heap.size w w2 ∨ Below w.heap.size w w3) := Lib.hid (by first | exact Or.inl (HW.out.trans ((bstep (bstep (drew_below _) hb3) hb2).mono HW.out.size)) | exact Or.inr (HW.out.trans ((bstep (bstep (drew_below _) hb2) hb3).mono HW.out.size)))
        go_wp2_with fail
        go_roundw
        case rel => exact ⟨k + 1, by omega, by go_num, by first | exact HW.out.trans ((bstep (bstep (drew_below _) hb3) hb2).mono HW.out.size) | exact HW.out.trans ((bstep (bstep (drew_below _) hb2) hb3).mono HW.out.size)⟩
        case measure => simp [intOf]; omega
    · obtain rfl : k = N := by omega
      go_wp2_with fail
      go_ret
      exact ⟨rfl, HW.out⟩
#print axioms law_same
end Go.Proofs.Ytkgmfdmgaloaoaa.PqueueI
