/- The law NumLong: the walk. -/
import Derived.Test.YtekjmkihmegnnaaLawKit
import Derived.Test.YtekjmkihmegnnaaNumS
import Derived.Test.YtekjmkihmegnnaaNumI
import Derived.OwnWalk
import Derived.Laws.OwnMore
namespace Go.Proofs.Ytekjmkihmegnnaa
open Go Go.ChangeShapes Go.WideShapes Go.RowKit
set_option linter.unusedVariables false

/-- The first k of n cells hold x, the others 0. -/
def filled (n k : Nat) (x : Int) : List Value := List.replicate k (.int .i64 x) ++ List.replicate (n - k) (.int .i64 0)
theorem filled_at {n k : Nat} {x : Int} (h : k < n) : (filled n k x)[k]? = some (.int .i64 0) := by
  unfold filled
  rw [List.getElem?_append_right (by simp)]
  rw [List.getElem?_replicate, if_pos (by simp; omega)]
theorem filled_set {n k : Nat} {x : Int} (h : k < n) : (filled n k x).set k (.int .i64 x) = filled n (k + 1) x := by
  unfold filled
  obtain ⟨d, hd⟩ : ∃ d, n - k = d + 1 := ⟨n - k - 1, by omega⟩
  have e2 : n - (k + 1) = d := by omega
  rw [hd, e2, List.set_append_right _ _ (by simp), List.length_replicate, Nat.sub_self, List.replicate_succ (n := d), List.set_cons_zero, List.replicate_succ' (n := k), List.append_assoc]
  rfl
theorem filled_all {n j : Nat} {x z : Int} (h : (List.replicate n x)[j]? = some z) : (filled n n x)[j]? = some (.int .i64 z) := by
  unfold filled
  rw [List.getElem?_replicate] at h
  by_cases hj : j < n
  · rw [if_pos hj] at h
    cases h
    rw [List.getElem?_append_left (by simpa using hj), List.getElem?_replicate, if_pos hj]
  · rw [if_neg hj] at h; cases h
theorem filled_zero (n : Nat) (x : Int) : (madeCells #[Value.int .i64 0] n).toList = filled n 0 x := by
  unfold filled madeCells
  apply List.ext_getElem?
  intro i
  simp only [List.replicate_zero, List.nil_append, Nat.sub_zero, List.getElem?_replicate]
  by_cases h : i < n
  · simp [h, Nat.mod_one]
  · simp [h]

theorem info_int : (Try.prog.info? 3).map (fun i => (i.zero, i.size, i.bytes)) = some (some (.int .i64 0), 1, 8) := by kernel_rfl

set_option maxHeartbeats 400000 in
theorem walk_NumLong (w : World) (a0 : Int) (w0 : (Lit.int .u8 a0).wf = true) (a1 : Int) (w1 : (Lit.int .i64 a1).wf = true) :
    Calls Try.prog 11 #[.int .u8 a0, .int .i64 a1] w fun e w' => e = .returned (.bool true) ∧ Below w.heap.size w w' := by
  obtain ⟨i0, hi, hz0, hz1, hz2⟩ := info_parts info_int
  have hb := bounds_u8 w0
  obtain ⟨h0, h1⟩ := hb
  obtain ⟨n, hn⟩ : ∃ n : Nat, n = 65532 + a0.toNat % 9 := ⟨_, rfl⟩
  have hn1 : 65532 + a0 % 9 = (n : Int) := by omega
  have hn2 : n ≤ 65540 := by omega
  clear w0 w1 hn
  go_enter Try.func11, Try.ntmps11
  go_wp2_with (at_make; refine wpList_make_full _ rfl (.tmp 16) (.tmp 16) 27 rfl w.heap.size 3 i0 (.int .i64 0) 1 Try.underlying27 hi hz0 hz1 .i64 .i64 _ _ n rfl rfl rfl rfl ?b2 ?b3 ?b4 ?_)
  case b2 => rw [hz2]; omega
  case b3 => unfold maxLen; omega
  case b4 => exact Nat.le_refl _
  intro w1 hown hgr
  rw [filled_zero n a1] at hown
  have hB := (Below.refl w.heap.size w).grown hgr (Nat.le_refl _) (by intro k hk; cases hk)
  have hs1 : w.heap.size < w1.heap.size := by
    have := hown.2
    rcases this with ⟨h, _⟩ | ⟨g, cap, cur, h, _, hh, _⟩
    · cases h
    · simp only [Value.slice.injEq, Option.some.injEq, Addr.mk.injEq, and_true, true_and] at h
      obtain ⟨rfl, rfl⟩ := h
      rcases Nat.lt_or_ge w.heap.size w1.heap.size with h1 | h1
      · exact h1
      · rw [Array.getElem?_eq_none h1] at hh; cases hh
  have HO := Lib.hid hown
  have HB := Lib.hid hB
  have HG := Lib.hid hgr
  clear hown hB hgr hn1
  go_wp2_with fail
  go_loopw [7] (fun i wr => ∃ k : Nat, k ≤ n ∧ i = .int .i64 k ∧ wr.ownsRow w.heap.size 3 1 (.slice (some ⟨w.heap.size, 0, none⟩) n n) n (filled n k a1) ∧ Below w.heap.size w wr ∧ w.heap.size < wr.heap.size) (fun i _ => n - (intOf i).toNat)
  case atStart => exact ⟨0, Nat.zero_le _, rfl, HO.out, HB.out, hs1⟩
  case round =>
    obtain ⟨k, hk, rfl, ho, hbel, hsz⟩ := hrel
    have HO := Lib.hid ho
    have HB := Lib.hid hbel
    clear hbel
    rcases Nat.lt_or_ge k n with hlt | hge
    · have hc := (ho.cellAt k (by omega)).trans (filled_at (x := a1) hlt)
      have hf := ho.frozenAt k
      clear ho
      go_wp2_with fail
      go_roundw
      case rel =>
        have hs := HO.out.stored k (.int .i64 a1)
        rw [filled_set hlt] at hs
        exact ⟨k + 1, by omega, by go_num, hs.1, HB.out.setCell (Nat.le_refl _) _, by simp; exact hsz⟩
      case measure => simp [intOf]; omega
    · obtain rfl : k = n := by omega
      have hH : Holds wr wr.heap.size (some ⟨w.heap.size, 0, none⟩) (List.replicate k a1) := by
        intro j z hz
        have hj : j < k := by
          rcases Nat.lt_or_ge j k with h | h
          · exact h
          · rw [List.getElem?_replicate, if_neg (by omega)] at hz; cases hz
        refine ⟨w.heap.size, 0, rfl, hsz, ?_⟩
        rw [Nat.zero_add]
        exact (HO.out.cellAt j (by omega)).trans (filled_all hz)
      have hsum : ∀ W, Holds W W.heap.size (some ⟨w.heap.size, 0, none⟩) (List.replicate k a1) → Calls Try.prog 19 #[.slice (some ⟨w.heap.size, 0, none⟩) k k] W fun e w' => e = .returned (.tuple #[.int .i64 (sumV (List.replicate k a1)), .int .i64 (sumE (List.replicate k a1))]) ∧ Below W.heap.size W w' := fun W hW => by
        have h := num_sum (List.replicate k a1) (some ⟨w.heap.size, 0, none⟩) k W hW (by simp; omega)
        rw [List.length_replicate] at h; exact h
      have hsum2 : ∀ W, Holds W W.heap.size (some ⟨w.heap.size, 0, none⟩) (List.replicate k a1) → Calls Try.prog 20 #[.slice (some ⟨w.heap.size, 0, none⟩) k k] W fun e w' => e = .returned (.tuple #[.int .i64 (sumV (List.replicate k a1)), .int .i64 (sumE (List.replicate k a1))]) ∧ W = w' := fun W hW => by
        have h := ref_sum (List.replicate k a1) (some ⟨w.heap.size, 0, none⟩) k W hW (by simp; omega)
        rw [List.length_replicate] at h; exact h
      have hlong : 65536 < k → sumE (List.replicate k a1) = 8 := fun h => sumE_long (by simpa using h)
      obtain ⟨V, hV⟩ : ∃ V, V = sumV (List.replicate k a1) := ⟨_, rfl⟩
      obtain ⟨E, hE⟩ : ∃ E, E = sumE (List.replicate k a1) := ⟨_, rfl⟩
      rw [← hE] at hlong
      simp only [← hV, ← hE] at hsum hsum2
      have H1 := Lib.hid hsum
      have H2 := Lib.hid hsum2
      have HH := Lib.hid hH
      clear hsum hsum2 hH hV hE ho
      by_cases hs : k ≤ 65536
      · have hs' : (k : Int) ≤ 65536 := by omega
        clear hlong hs
        go_wp2_with fail
        refine (H1.out _ HH.out).mono ?_
        rintro e w3 ⟨rfl, hb3⟩
        go_wp2_with fail
        refine (H2.out _ ((HH.out.below hb3).more hb3.size)).mono ?_
        rintro e w' ⟨rfl, rfl⟩
        go_wp2_with fail
        refine (awake_any _).mono ?_
        rintro e w4 ⟨rfl, hb4⟩
        go_wp2_with fail
        go_ret
        have s3 := hb3.size
        exact ⟨rfl, (HB.out.trans (hb3.mono (by omega))).trans (hb4.mono (by omega))⟩
      · obtain rfl := hlong (by omega)
        have hs' : decide ((k : Int) ≤ 65536) = false := decide_eq_false (by omega)
        clear hs
        go_wp2_with fail
        refine (H1.out _ HH.out).mono ?_
        rintro e w3 ⟨rfl, hb3⟩
        go_wp2_with fail
        refine (H2.out _ ((HH.out.below hb3).more hb3.size)).mono ?_
        rintro e w' ⟨rfl, rfl⟩
        go_wp2_with fail
        refine (awake_any _).mono ?_
        rintro e w4 ⟨rfl, hb4⟩
        go_wp2_with fail
        go_ret
        have s3 := hb3.size
        exact ⟨rfl, (HB.out.trans (hb3.mono (by omega))).trans (hb4.mono (by omega))⟩
#print axioms walk_NumLong
end Go.Proofs.Ytekjmkihmegnnaa
