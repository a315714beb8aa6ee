/- Contract of with of the reference. -/
import Derived.Test.YtccbnobpighckaaSpanM
namespace Go.Proofs.Ytccbnobpighckaa.Span
open Go.ChangeShapes Go.WideShapes Go.RowKit Go.Lib Go.Proofs
set_option linter.unusedVariables false
set_option maxRecDepth 100000

theorem with_at {l : List Int} {k : Nat} {n : Int} (hk : k ≤ l.length) (h : ∀ (j : Nat) (z : Int), j < k → l[j]? = some z → z < n) (h2 : ∀ z, l[k]? = some z → n < z) : withL l n = l.take k ++ [n] ++ l.drop k := by
  have e : l = l.take k ++ l.drop k := (List.take_append_drop k l).symm
  conv => lhs; rw [e]
  rw [with_split fun y hy => ?_, List.append_assoc]
  · congr 1
    cases hd : l.drop k with
    | nil => rfl
    | cons z r =>
      have hz : l[k]? = some z := by
        have := congrArg (fun x : List Int => x[0]?) hd
        simpa [List.getElem?_drop] using this
      have := h2 z hz
      rw [withL, if_neg (by omega), if_neg (by omega)]; rfl
  · obtain ⟨j, hj⟩ := List.mem_iff_getElem?.mp hy
    rw [List.getElem?_take] at hj
    split at hj
    · exact h j y (by assumption) hj
    · cases hj
theorem with_same {l : List Int} {k : Nat} {n : Int} (h : ∀ (j : Nat) (z : Int), j < k → l[j]? = some z → z < n) (h2 : l[k]? = some n) : withL l n = l := by
  have e : l = l.take k ++ l.drop k := (List.take_append_drop k l).symm
  conv => lhs; rw [e]
  rw [with_split fun y hy => ?_]
  · conv => rhs; rw [e]
    congr 1
    cases hd : l.drop k with
    | nil => rw [List.drop_eq_nil_iff] at hd; have := lt_get h2; omega
    | cons z r =>
      have hz : l[k]? = some z := by
        have := congrArg (fun x : List Int => x[0]?) hd
        simpa [List.getElem?_drop] using this
      rw [h2] at hz; cases hz
      rw [withL, if_neg (by omega), if_pos rfl]
  · obtain ⟨j, hj⟩ := List.mem_iff_getElem?.mp hy
    rw [List.getElem?_take] at hj
    split at hj
    · exact h j y (by assumption) hj
    · cases hj

set_option maxHeartbeats 3200000 in
theorem ref_with (l : List Int) (n : Int) (A : Option Addr) (c : Nat) (w : World) (ha : Its w A l) (hc : l.length ≤ c) (hm : c ≤ maxLen) (hl : l.length ≤ 100000) :
    Calls Try.prog 106 #[.slice A l.length c, .int .i64 n] w (WithRes (withL l n) w) := by
  have HA := Lib.hid ha
  obtain ⟨i0, hi, hz0, hz1, hz2⟩ := info_parts info_int
  have HM := Lib.hid hm
  clear ha hm
  go_enter Try.func106, Try.ntmps106
  go_wp2_with fail
  go_loop [5] (fun i => ∃ k : Nat, k ≤ l.length ∧ i = .int .i64 k ∧ (∀ (j : Nat) (z : Int), j < k → l[j]? = some z → z < n)) (fun i => l.length - (intOf i).toNat)
  case atStart => exact ⟨0, Nat.zero_le _, rfl, fun j t h => absurd h (by omega)⟩
  case round =>
    obtain ⟨k, hk, rfl, hv⟩ := hrel
    have HV := Lib.hid hv
    clear hv
    rcases Nat.lt_or_ge k l.length with hlt | hge
    · obtain ⟨z, hz⟩ := get_lt hlt
      obtain ⟨b, off, rfl, hb, h0⟩ := HA.out k z hz
      have HZ := Lib.hid hz
      have i1 : (k : Int) < (l.length : Int) := by omega
      clear hz
      rcases Int.lt_trichotomy z n with g | g | g
      · have HN := Lib.hid (show ∀ (j : Nat) (y : Int), j < k + 1 → l[j]? = some y → y < n by
          intro j y hj hy
          rcases Nat.lt_or_eq_of_le (Nat.le_of_lt_succ hj) with h | rfl
          · exact HV.out j y h hy
          · rw [HZ.out] at hy; cases hy; exact g)
        go_wp2_with fail
        go_round
        case rel => exact ⟨k + 1, by omega, by go_num, HN.out⟩
        case measure => simp [intOf]; omega
      · subst g
        have HW := Lib.hid (with_same HV.out HZ.out)
        have d1 : decide (z < z) = false := decide_eq_false (by omega)
        go_wp2_with fail
        go_ret
        exact ⟨_, rfl, by rw [HW.out]; exact ⟨_, _, rfl, hc, HM.out, HA.out⟩, Below.refl _ _⟩
      · have HW := Lib.hid (with_at hk HV.out fun y hy => by rw [HZ.out] at hy; cases hy; exact g)
        have d1 : decide (z < n) = false := decide_eq_false (by omega)
        have d2 : (z == n) = false := beq_false_of_ne (by omega)
        have HST := Lib.hid (slice_to (some ⟨b, off, none⟩) l.length c k (by omega))
        obtain ⟨A', c', m, hld, hsf, hdrop⟩ := slice_from HA.out hc k hk
        have HSF := Lib.hid hsf
        have HDR := Lib.hid hdrop
        have hst := HST.out
        have hsf := HSF.out
        have hlt1 : (l.take k).length = k := by rw [List.length_take]; omega
        have HLT := Lib.hid hlt1
        have hmm : m ≤ l.length := by rw [← hld, List.length_drop]; omega
        have HLD := Lib.hid hld
        have HOE := Lib.hid (own_empty w)
        have HAL := Lib.hid ((HA.out.take k).on (below_alloc w (.cells #[] 3)))
        have HLEN := Lib.hid (show ([] : List Int).length + (l.take k).length ≤ 1000000 by rw [hlt1]; simp; omega)
        clear hdrop hlt1 hld
        go_wp2_with (at_builtin; refine append_its rfl (.tmp 34) (.tmp 37) rfl w.heap.size _ [] rfl HOE.out (some ⟨b, off, none⟩) c (l.take k) k HLT.out.symm rfl HAL.out HLEN.out (by simp) ?_; intro v1 w1 hown1 hg1; refine Hid.out ?_)
        rw [List.nil_append] at hown1
        have hs1 : w.heap.size + 1 ≤ w1.heap.size := by have := hg1.size; simp at this; exact this
        have HB1 : Hid (Below w.heap.size w w1) := (below_alloc w (.cells #[] 3)).grown hg1 (by simp) fun j hj => by cases hj; exact Nat.le_refl _
        have HO1 := Lib.hid hown1
        have hown1' := hown1.alloc (.cells #[.int .i64 n] 3)
        unfold OwnI at hown1'
        rw [HLT.out] at hown1'
        have HO1' := Lib.hid hown1'
        have HK1 := Lib.hid (show k + 1 ≤ maxLen by unfold maxLen; omega)
        have HK2 := Lib.hid (show (k + 1) * 8 ≤ 140737488355328 by omega)
        have HK3 := Lib.hid (show w.heap.size ≤ (w1.alloc (.cells #[.int .i64 n] 3)).heap.size by simp; omega)
        have HNW := Lib.hid (show ∀ j u, ([.int .i64 n] : List Value)[j]? = some u → (w1.alloc (.cells #[.int .i64 n] 3)).cell? ((⟨w1.heap.size, 0, none⟩ : Addr).add j) = some u from World.news_of_block (heap_alloc_new w1 (.cells #[.int .i64 n] 3)))
        have HC1 : Hid (∀ u ∈ ([.int .i64 n] : List Value), u.oneCell' = true) := fun u hu => by rw [List.mem_singleton] at hu; subst hu; rfl
        clear hown1 hg1 hown1'
        refine Lib.hid ?_
        go_wp2_with (at_builtin; refine wpList_append_own _ rfl (.tmp 39) (.tmp 41) 54 rfl w.heap.size 3 i0 (.int .i64 0) 1 8 Try.underlying54 hi hz0 hz1 hz2 rfl (by decide) v1 k _ rfl HO1'.out ⟨w1.heap.size, 0, none⟩ 1 1 [.int .i64 n] rfl rfl HNW.out HC1.out HK1.out HK2.out HK3.out ?_; intro v2 w2 hown2 hg2 _; refine Hid.out ?_)
        have hs2 : w1.heap.size + 1 ≤ w2.heap.size := by have := hg2.size; simp at this; exact this
        have HB2 : Hid (Below w.heap.size w w2) := (HB1.out.alloc (by omega) _).grown hg2 (by simp; omega) HO1.out.ge
        have HO2 : Hid (OwnI w2 w.heap.size v2 (l.take k ++ [n])) := show OwnI _ _ _ _ by
          unfold OwnI
          rw [List.length_append, List.map_append, HLT.out]; exact hown2
        have HDR2 := Lib.hid (HDR.out.on HB2.out)
        have HLEN2 := Lib.hid (show (l.take k ++ [n]).length + (l.drop k).length ≤ 1000000 by rw [HLD.out, List.length_append, HLT.out]; simp; omega)
        have HK4 := Lib.hid (show w.heap.size ≤ w2.heap.size by omega)
        clear hown2 hg2
        refine Lib.hid ?_
        go_wp2_with (at_builtin; refine append_its rfl (.tmp 43) (.tmp 46) rfl w.heap.size v2 (l.take k ++ [n]) rfl HO2.out A' c' (l.drop k) m HLD.out.symm rfl HDR2.out HLEN2.out HK4.out ?_; intro v3 w3 hown3 hg3; refine Hid.out ?_)
        have HR := Lib.hid hown3.inI
        have HB3 : Hid (Below w.heap.size w w3) := HB2.out.grown hg3 HK4.out HO2.out.ge
        clear hown3 hg3
        refine Lib.hid ?_
        go_wp2_with fail
        go_ret
        exact ⟨_, rfl, by rw [HW.out]; exact HR.out, HB3.out⟩
    · obtain rfl : k = l.length := by omega
      have HW := Lib.hid (with_at hk HV.out fun y hy => absurd (lt_get hy) (by omega))
      have HST := Lib.hid (slice_to A l.length c l.length (by omega))
      obtain ⟨A', c', m, hld, hsf, hdrop⟩ := slice_from HA.out hc l.length hk
      have HSF := Lib.hid hsf
      have HDR := Lib.hid hdrop
      have hst := HST.out
      have hsf := HSF.out
      have hlt1 : (l.take l.length).length = l.length := by rw [List.length_take]; omega
      have HLT := Lib.hid hlt1
      have hmm : m ≤ l.length := by rw [← hld, List.length_drop]; omega
      have HLD := Lib.hid hld
      have HOE := Lib.hid (own_empty w)
      have HAL := Lib.hid ((HA.out.take l.length).on (below_alloc w (.cells #[] 3)))
      have HLEN := Lib.hid (show ([] : List Int).length + (l.take l.length).length ≤ 1000000 by rw [hlt1]; simp; omega)
      clear hdrop hlt1 hld
      go_wp2_with (at_builtin; refine append_its rfl (.tmp 34) (.tmp 37) rfl w.heap.size _ [] rfl HOE.out A c (l.take l.length) l.length HLT.out.symm rfl HAL.out HLEN.out (by simp) ?_; intro v1 w1 hown1 hg1; refine Hid.out ?_)
      rw [List.nil_append] at hown1
      have hs1 : w.heap.size + 1 ≤ w1.heap.size := by have := hg1.size; simp at this; exact this
      have HB1 : Hid (Below w.heap.size w w1) := (below_alloc w (.cells #[] 3)).grown hg1 (by simp) fun j hj => by cases hj; exact Nat.le_refl _
      have HO1 := Lib.hid hown1
      have hown1' := hown1.alloc (.cells #[.int .i64 n] 3)
      unfold OwnI at hown1'
      rw [HLT.out] at hown1'
      have HO1' := Lib.hid hown1'
      have HK1 := Lib.hid (show l.length + 1 ≤ maxLen by unfold maxLen; omega)
      have HK2 := Lib.hid (show (l.length + 1) * 8 ≤ 140737488355328 by omega)
      have HK3 := Lib.hid (show w.heap.size ≤ (w1.alloc (.cells #[.int .i64 n] 3)).heap.size by simp; omega)
      have HNW := Lib.hid (show ∀ j u, ([.int .i64 n] : List Value)[j]? = some u → (w1.alloc (.cells #[.int .i64 n] 3)).cell? ((⟨w1.heap.size, 0, none⟩ : Addr).add j) = some u from World.news_of_block (heap_alloc_new w1 (.cells #[.int .i64 n] 3)))
      have HC1 : Hid (∀ u ∈ ([.int .i64 n] : List Value), u.oneCell' = true) := fun u hu => by rw [List.mem_singleton] at hu; subst hu; rfl
      clear hown1 hg1 hown1'
      refine Lib.hid ?_
      go_wp2_with (at_builtin; refine wpList_append_own _ rfl (.tmp 39) (.tmp 41) 54 rfl w.heap.size 3 i0 (.int .i64 0) 1 8 Try.underlying54 hi hz0 hz1 hz2 rfl (by decide) v1 l.length _ rfl HO1'.out ⟨w1.heap.size, 0, none⟩ 1 1 [.int .i64 n] rfl rfl HNW.out HC1.out HK1.out HK2.out HK3.out ?_; intro v2 w2 hown2 hg2 _; refine Hid.out ?_)
      have hs2 : w1.heap.size + 1 ≤ w2.heap.size := by have := hg2.size; simp at this; exact this
      have HB2 : Hid (Below w.heap.size w w2) := (HB1.out.alloc (by omega) _).grown hg2 (by simp; omega) HO1.out.ge
      have HO2 : Hid (OwnI w2 w.heap.size v2 (l.take l.length ++ [n])) := show OwnI _ _ _ _ by
        unfold OwnI
        rw [List.length_append, List.map_append, HLT.out]; exact hown2
      have HDR2 := Lib.hid (HDR.out.on HB2.out)
      have HLEN2 := Lib.hid (show (l.take l.length ++ [n]).length + (l.drop l.length).length ≤ 1000000 by rw [HLD.out, List.length_append, HLT.out]; simp; omega)
      have HK4 := Lib.hid (show w.heap.size ≤ w2.heap.size by omega)
      clear hown2 hg2
      refine Lib.hid ?_
      go_wp2_with (at_builtin; refine append_its rfl (.tmp 43) (.tmp 46) rfl w.heap.size v2 (l.take l.length ++ [n]) rfl HO2.out A' c' (l.drop l.length) m HLD.out.symm rfl HDR2.out HLEN2.out HK4.out ?_; intro v3 w3 hown3 hg3; refine Hid.out ?_)
      have HR := Lib.hid hown3.inI
      have HB3 : Hid (Below w.heap.size w w3) := HB2.out.grown hg3 HK4.out HO2.out.ge
      clear hown3 hg3
      refine Lib.hid ?_
      go_wp2_with fail
      go_ret
      exact ⟨_, rfl, by rw [HW.out]; exact HR.out, HB3.out⟩
#print axioms ref_with
end Go.Proofs.Ytccbnobpighckaa.Span
