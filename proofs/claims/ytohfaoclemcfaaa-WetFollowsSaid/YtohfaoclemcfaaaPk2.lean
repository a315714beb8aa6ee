/- Several texts in one: NatE, NatF, NatG, NatH. -/
import Derived.Test.YtohfaoclemcfaaaPk1
import Derived.Laws.CopyOwn
/- Contracts of nat.copied, nat.times. -/
namespace Go.Proofs.Ytohfaoclemcfaaa
open Go.ChangeShapes Go.WideShapes Go.RowKit
set_option linter.unusedVariables false
set_option maxRecDepth 100000

/-- xs, filled with zeros up to n. -/
def padL (xs : List Int) (n : Nat) : List Int := xs ++ List.replicate (n - xs.length) 0
theorem padL_length {xs : List Int} {n : Nat} (h : xs.length ≤ n) : (padL xs n).length = n := by simp [padL]; omega
theorem padL_val (xs : List Int) (n : Nat) : nval (padL xs n) = nval xs := by rw [padL, nval_append, nval_zeros]; simp
theorem padL_lok {xs : List Int} (h : lok xs = true) (n : Nat) : lok (padL xs n) = true := by rw [padL, lok_append]; exact ⟨h, lok_zeros _⟩
theorem info_size : (Try.prog.info? 3).map (·.size) = some 1 := by kernel_rfl
theorem cells_ints {xs : List Int} : ∀ v ∈ xs.map (Value.int .i64), v.oneCell' = true := by
  intro v hv
  simp only [List.mem_map] at hv
  obtain ⟨x, _, rfl⟩ := hv
  rfl
theorem row_of_heap {w : World} {g : Nat} {t : TypeId} {zs : List Int} (h : w.heap[g]? = some (.cells (zs.map (Value.int .i64)).toArray t (0, 0))) : Row w g zs :=
  ⟨_, t, h, fun i z hz => by rw [List.getElem?_toArray, List.getElem?_map, hz]; rfl⟩
theorem splice_pad (xs : List Int) (n : Nat) (h : xs.length ≤ n) :
    splice ((List.replicate n (0 : Int)).map (Value.int .i64)) 0 (xs.map (Value.int .i64)) = (padL xs n).map (Value.int .i64) := by
  simp [splice, padL, List.drop_replicate]

theorem heap_of_made {w : World} {base e g n : Nat} (h : w.ownsRow base e 1 (.slice (some ⟨g, 0, none⟩) n n) n (madeCells (Value.int .i64 0).cells (n * 1)).toList) :
    w.heap[g]? = some (.cells ((List.replicate n (0 : Int)).map (Value.int .i64)).toArray e (0, 0)) := by
  obtain ⟨h1, ⟨h2, _⟩ | ⟨g', cap, cur, h2, h3, h4, h5, h6, h7, h8⟩⟩ := h
  · cases h2
  · cases h2
    rw [h4, ← made_zeros, ← h8, List.take_of_length_le (by rw [Array.length_toList]; omega), Array.toArray_toList]
theorem holds_cells {w : World} {lo hi : Nat} {A : Option Addr} {xs : List Int} (h : Holds w lo hi A xs) (hp : 0 < (xs.map (Value.int .i64)).length) :
    ∃ ad, A = some ad ∧ ∀ j v, (xs.map (Value.int .i64))[j]? = some v → w.cell? (ad.add j) = some v := by
  rw [List.length_map] at hp
  obtain ⟨b, off, rfl, _, _, _⟩ := h 0 xs[0] (List.getElem?_eq_getElem hp)
  refine ⟨_, rfl, fun j v hv => ?_⟩
  rw [List.getElem?_map] at hv
  cases hj : xs[j]? with
  | none => rw [hj] at hv; cases hv
  | some z =>
    rw [hj] at hv
    obtain rfl : Value.int .i64 z = v := by simpa using hv
    obtain ⟨b', off', e, _, _, hc⟩ := h j z hj
    cases e
    have ea : (⟨b, off, none⟩ : Addr).add j = ⟨b, off + j, none⟩ := by
      unfold Addr.add
      split
      · rename_i h; subst h; rfl
      · rfl
    rw [ea]; exact hc

theorem copied_prep {w w1 : World} {lo hi n : Nat} {A : Option Addr} {xs : List Int} {cs zs : List Value} (hS : Holds w lo hi A xs) (hh : hi ≤ w.heap.size) (hn : xs.length ≤ n)
    (hcs : cs = xs.map (Value.int .i64)) (hzs : zs = (List.replicate n (0 : Int)).map (Value.int .i64))
    (hown : w1.ownsRow w.heap.size 3 1 (.slice (some ⟨w.heap.size, 0, none⟩) n n) n (madeCells (Value.int .i64 0).cells (n * 1)).toList) (hgrow : w.grownBy w1 none) :
    Hid (w1.heap[w.heap.size]? = some (.cells zs.toArray 3 (0, 0))) ∧ Hid (Below w.heap.size w w1) ∧
    Hid (0 < cs.length → some (⟨w.heap.size, 0, none⟩ : Addr) = some ⟨w.heap.size, 0, none⟩ ∧ ∃ ad, A = some ad ∧ ∀ j v, cs[j]? = some v → w1.cell? (ad.add j) = some v) := by
  have hbel : Below w.heap.size w w1 := (Below.refl _ _).grown hgrow (Nat.le_refl _) (fun k hk => by cases hk)
  subst hcs hzs
  exact ⟨heap_of_made hown, hbel, fun hp => ⟨rfl, holds_cells (hS.below hbel hh) hp⟩⟩
theorem copied_end {w w2 : World} {n : Nat} {xs : List Int} {cs zs : List Value} (hn : xs.length ≤ n)
    (hcs : cs = xs.map (Value.int .i64)) (hzs : zs = (List.replicate n (0 : Int)).map (Value.int .i64))
    (h : w2.heap[w.heap.size]? = some (.cells (splice zs 0 cs).toArray 3 (0, 0))) : Row w2 w.heap.size (padL xs n) := by
  subst hcs hzs
  rw [splice_pad xs n hn] at h
  exact row_of_heap h

set_option maxHeartbeats 800000 in
theorem nat_copied (xs : List Int) (A : Option Addr) (c n : Nat) (lo hi : Nat) (w : World) (hS : Holds w lo hi A xs) (hh : hi ≤ w.heap.size) (hn : xs.length ≤ n) (hb : n ≤ 1000000) :
    Calls Try.prog 89 #[.slice A xs.length c, .int .i64 n] w
      fun e w' => e = .returned (.slice (some ⟨w.heap.size, 0, none⟩) n n) ∧ Row w' w.heap.size (padL xs n) ∧ Below w.heap.size w w' := by
  obtain ⟨i0, hi0, hz0, hz1, hz2⟩ := info_parts info_int
  have HS := Lib.hid hS
  obtain ⟨cs, hcs⟩ : ∃ cs, cs = xs.map (Value.int .i64) := ⟨_, rfl⟩
  obtain ⟨zs, hzs⟩ : ∃ zs, zs = (List.replicate n (0 : Int)).map (Value.int .i64) := ⟨_, rfl⟩
  have hl : cs.length = Nat.min xs.length n := by rw [hcs, List.length_map]; exact (Nat.min_eq_left hn).symm
  have hl2 : 0 + cs.length ≤ zs.length := by rw [hcs, hzs]; simp; exact hn
  have h1c : ∀ v ∈ cs, v.oneCell' = true := by rw [hcs]; exact cells_ints
  have HL := Lib.hid hl
  have HL2 := Lib.hid hl2
  have H1 := Lib.hid h1c
  have HC := Lib.hid hcs
  have HZ := Lib.hid hzs
  clear hS hcs hzs hl hl2 h1c
  go_enter Try.func89, Try.ntmps89
  go_wp2_with (first
    | (at_make; refine wpList_make_full _ rfl _ _ 25 rfl w.heap.size 3 i0 (.int .i64 0) 1 Try.underlying25 hi0 hz0 hz1 .i64 .i64 n n n rfl rfl rfl rfl (by rw [hz2]; omega) (by unfold maxLen; omega) (Nat.le_refl _) ?_; intro w1 hown hgrow; obtain ⟨HH, HB, HP⟩ := copied_prep HS.out hh hn HC.out HZ.out hown hgrow; clear hown hgrow)
    | (with_reducible refine wpList_copy_splice rfl (.tmp 8) (.tmp 9) 25 25 rfl 3 Try.underlying25 info_size _ _ _ _ _ _ rfl rfl w.heap.size 0 zs _ HH.out cs HL.out HP.out HL2.out H1.out w.heap.size w HB.out (Nat.le_refl _) ?_; intro w2 hg2 hb2; have HR := Lib.hid (copied_end hn HC.out HZ.out hg2.out); have HB2 := Lib.hid hb2; clear hg2 hb2)
    | fail)
  go_ret
  exact ⟨rfl, HR.out, HB2.out⟩

set_option maxHeartbeats 800000 in
theorem nat_times (xs : List Int) (A : Option Addr) (c : Nat) (n : Int) (lo hi : Nat) (w : World) (hS : Holds w lo hi A xs) (hh : hi ≤ w.heap.size) (hb : xs.length ≤ 100000)
    (hxk : lok xs = true) (n1 : -1000000000 < n) (n2 : n < 1000000000) :
    Calls Try.prog 91 #[.slice A xs.length c, .int .i64 n] w
      fun e w' => e = .returned (.slice (some ⟨w.heap.size, 0, none⟩) (xs.length + 1) (xs.length + 1)) ∧ Row w' w.heap.size (addT (List.replicate (xs.length + 1) 0) xs n 0) ∧ Below w.heap.size w w' := by
  obtain ⟨i0, hi0, hz0, hz1, hz2⟩ := info_parts info_int
  have HS := Lib.hid hS
  clear hS
  go_enter Try.func91, Try.ntmps91
  go_wp2_with (first
    | (at_make; refine wpList_make_full _ rfl _ _ 25 rfl w.heap.size 3 i0 (.int .i64 0) 1 Try.underlying25 hi0 hz0 hz1 .i64 .i64 _ _ (xs.length + 1) rfl rfl (by omega) (by omega) (by rw [hz2]; omega) (by unfold maxLen; omega) (Nat.le_refl _) ?_; intro w1 hown hgrow)
    | fail)
  have hrow : Row w1 w.heap.size (List.replicate (xs.length + 1) 0) := row_of_heap (heap_of_made hown)
  have hbel : Below w.heap.size w w1 := (Below.refl _ _).grown hgrow (Nat.le_refl _) (fun k hk => by cases hk)
  have HR := Lib.hid hrow
  have HB := Lib.hid hbel
  clear hrow hbel hown hgrow
  have hlen : (List.replicate (xs.length + 1) (0 : Int)).length = xs.length + 1 := by simp
  have hc := nat_addTimes (List.replicate (xs.length + 1) 0) (List.replicate (xs.length + 1) 0) xs n w.heap.size 0 (xs.length + 1) c lo hi A w1 HR.out (by simp) (fun j _ => by simp) (HS.out.below HB.out hh) (Or.inr hh) (by simp) (by simp; omega)
    (by rw [List.dropLast_replicate]; exact lok_zeros _) (fun z hz => by rw [List.getElem?_replicate] at hz; split at hz <;> simp at hz; subst hz; omega) hxk n1 n2
  rw [hlen] at hc
  have HCC := Lib.hid hc
  clear hc hlen
  go_wp2_with (go_at_call 95; refine HCC.out.mono ?_; rintro e w' ⟨rfl, hr2, ho2⟩)
  go_ret
  have e : laid (List.replicate (xs.length + 1) 0) 0 (addT (List.replicate (xs.length + 1) 0) xs n 0) = addT (List.replicate (xs.length + 1) 0) xs n 0 := by
    rw [laid, List.take_zero, List.nil_append, List.drop_eq_nil_of_le (by rw [addT_length]; simp), List.append_nil]
  rw [e] at hr2
  exact ⟨rfl, hr2, HB.out.trans (ho2.toBelow (Nat.le_refl _))⟩
end Go.Proofs.Ytohfaoclemcfaaa
/- Contracts of nat.Valid, of Valid and Same of the reference. -/
namespace Go.Proofs.Ytohfaoclemcfaaa
open Go.ChangeShapes Go.WideShapes Go.RowKit
set_option linter.unusedVariables false
set_option maxRecDepth 100000

theorem validB_long {l : List Int} (h : 48 < l.length) : validB l = false := by simp [validB]; intro h2; omega
theorem validB_bad {l : List Int} {k : Nat} {z : Int} (hz : l[k]? = some z) (h : z < 0 ∨ 1000000000 ≤ z) : validB l = false := by
  cases hv : validB l with
  | false => rfl
  | true => have := lok_at (nrm_lok (validB_iff.mp hv).2) hz; omega
theorem validB_nil : validB [] = true := rfl
theorem last_some {l : List Int} {z : Int} (hz : l[l.length - 1]? = some z) : l.getLast? = some z := by rw [List.getLast?_eq_getElem?]; exact hz
theorem validB_zero {l : List Int} (hz : l[l.length - 1]? = some 0) : validB l = false := by
  cases hv : validB l with
  | false => rfl
  | true => have := (validB_iff.mp hv).2; simp [nrm, last_some hz] at this
theorem validB_end {l : List Int} {z : Int} (h : l.length ≤ 48) (hk : lok l = true) (hz : l[l.length - 1]? = some z) (h0 : z ≠ 0) : validB l = true :=
  validB_iff.mpr ⟨h, by simp [nrm, hk, last_some hz, h0]⟩
theorem lok_take_succ {l : List Int} {k : Nat} {z : Int} (h : lok (l.take k) = true) (hz : l[k]? = some z) (h1 : 0 ≤ z) (h2 : z < 1000000000) : lok (l.take (k + 1)) = true := by
  rw [trim_step hz, lok_append]; exact ⟨h, by simp [lok, h1, h2]⟩

set_option maxHeartbeats 800000 in
theorem nat_Valid (zs : List Int) (A : Option Addr) (c : Nat) (lo hi : Nat) (w : World) (hS : Holds w lo hi A zs) (hm : zs.length ≤ 9223372036854775807) :
    Calls Try.prog 80 #[.slice A zs.length c] w fun e w' => e = .returned (.bool (validB zs)) ∧ w = w' := by
  have HS := Lib.hid hS
  clear hS
  by_cases hl : 48 < zs.length
  · have hl' : (48 : Int) < zs.length := by omega
    have hv := validB_long hl
    go_enter Try.func80, Try.ntmps80
    go_wp2
    go_ret
    rw [hv]; exact ⟨rfl, rfl⟩
  · have hl' : (zs.length : Int) ≤ 48 := by omega
    have hd : decide ((48 : Int) < (zs.length : Int)) = false := decide_eq_false (by omega)
    have hl2 : zs.length ≤ 48 := by omega
    clear hl
    go_enter Try.func80, Try.ntmps80
    go_wp2_with fail
    go_loop [9] (fun i => ∃ k : Nat, k ≤ zs.length ∧ i = .int .i64 k ∧ lok (zs.take k) = true) (fun i => zs.length - (intOf i).toNat)
    case atStart => exact ⟨0, Nat.zero_le _, rfl, rfl⟩
    case round =>
      obtain ⟨k, hk, rfl, hz⟩ := hrel
      have HK := Lib.hid hz
      clear hz
      rcases Nat.lt_or_ge k zs.length with hlt | hge
      · obtain ⟨z, hz⟩ : ∃ z, zs[k]? = some z := ⟨_, List.getElem?_eq_getElem hlt⟩
        obtain ⟨b, off, rfl, _, _, hcell⟩ := HS.out k z hz
        have HZ := Lib.hid hz
        clear hz
        rcases Int.lt_or_le z 0 with h0 | h0
        · have hv := validB_bad HZ.out (Or.inl h0)
          have HV := Lib.hid hv
          clear hv
          go_wp2_with fail
          go_ret
          rw [HV.out]; exact ⟨rfl, rfl⟩
        · rcases Int.lt_or_le z 1000000000 with h1 | h1
          · go_wp2_with fail
            go_round
            case rel => exact ⟨k + 1, by omega, by go_num, lok_take_succ HK.out HZ.out h0 h1⟩
            case measure => simp [intOf]; omega
          · have hv := validB_bad HZ.out (Or.inr h1)
            have HV := Lib.hid hv
            clear hv
            go_wp2_with fail
            go_ret
            rw [HV.out]; exact ⟨rfl, rfl⟩
      · obtain rfl : k = zs.length := by omega
        have hall : lok zs = true := by have := HK.out; rwa [List.take_length] at this
        have HALL := Lib.hid hall
        clear hall
        rcases Nat.eq_zero_or_pos zs.length with h0 | hp
        · have hn : zs = [] := List.eq_nil_of_length_eq_zero h0
          subst hn
          go_wp2_with fail
          go_ret
          rw [validB_nil]; exact ⟨rfl, rfl⟩
        · obtain ⟨z, hz⟩ : ∃ z, zs[zs.length - 1]? = some z := ⟨_, List.getElem?_eq_getElem (by omega)⟩
          obtain ⟨b, off, rfl, _, _, hcell⟩ := HS.out _ z hz
          have hne : ((zs.length : Int) == 0) = false := beq_false_of_ne (by omega)
          have e1 : (zs.length : Int) - 1 = ((zs.length - 1 : Nat) : Int) := by omega
          have HZ := Lib.hid hz
          clear hz
          by_cases h0 : z = 0
          · subst h0
            have hv := validB_zero HZ.out
            have HV := Lib.hid hv
            clear hv
            go_wp2_with fail
            go_ret
            rw [HV.out]; exact ⟨rfl, rfl⟩
          · have hv := validB_end hl2 HALL.out HZ.out h0
            have HV := Lib.hid hv
            clear hv
            have hz0 : (z == 0) = false := by simpa using h0
            have hz1 : (z != 0) = true := by simpa using h0
            go_wp2_with fail
            go_ret
            rw [HV.out]; exact ⟨rfl, rfl⟩

set_option maxHeartbeats 800000 in
theorem ref_Valid (zs : List Int) (A : Option Addr) (c : Nat) (lo hi : Nat) (w : World) (hS : Holds w lo hi A zs) (hm : zs.length ≤ 9223372036854775807) :
    Calls Try.prog 44 #[.slice A zs.length c] w fun e w' => e = .returned (.bool (validB zs)) ∧ w = w' := by
  have HS := Lib.hid hS
  clear hS
  have main : ∀ (hl2 : zs.length ≤ 48), (zs = [] ∨ ∃ z b off, z ≠ 0 ∧ zs[zs.length - 1]? = some z ∧ A = some ⟨b, off, none⟩ ∧ w.cell? ⟨b, off + (zs.length - 1), none⟩ = some (.int .i64 z)) →
      Calls Try.prog 44 #[.slice A zs.length c] w fun e w' => e = .returned (.bool (validB zs)) ∧ w = w' := by
    intro hl2 hcase
    have hd : decide ((48 : Int) < (zs.length : Int)) = false := decide_eq_false (by omega)
    have hend : lok zs = true → validB zs = true := by
      rcases hcase with h | ⟨z, b, off, h0, hz, _, _⟩
      · subst h; intro _; exact validB_nil
      · exact fun h => validB_end hl2 h hz h0
    have HE := Lib.hid hend
    clear hend
    have hstart : (zs = [] ∧ (decide ((0 : Int) < (zs.length : Int)) = false)) ∨ (∃ z b off, (z == (0 : Int)) = false ∧ A = some ⟨b, off, none⟩ ∧ w.cell? ⟨b, off + (zs.length - 1), none⟩ = some (.int .i64 z) ∧ 0 < zs.length ∧ (zs.length : Int) - 1 = ((zs.length - 1 : Nat) : Int)) := by
      rcases hcase with h | ⟨z, b, off, h0, hz, hA, hc⟩
      · subst h; exact Or.inl ⟨rfl, rfl⟩
      · have hp : 0 < zs.length := by
          rcases Nat.eq_zero_or_pos zs.length with h | h
          · have : zs = [] := List.eq_nil_of_length_eq_zero h
            subst this; simp at hz
          · exact h
        exact Or.inr ⟨z, b, off, by simpa using h0, hA, hc, hp, by omega⟩
    clear hcase
    rcases hstart with ⟨hn, _⟩ | ⟨z, b, off, h0, rfl, hcell, hp, e1⟩
    · subst hn
      go_enter Try.func44, Try.ntmps44
      go_wp2_with fail
      refine wp_loop_rounds 1 ?_
      rw [rounds_succ]
      go_wp2_with fail
      go_ret
      exact ⟨rfl, rfl⟩
    · have hp' : (0 : Int) < zs.length := by omega
      go_enter Try.func44, Try.ntmps44
      go_wp2_with fail
      go_loop [3] (fun i => ∃ k : Nat, k ≤ zs.length ∧ i = .int .i64 k ∧ lok (zs.take k) = true) (fun i => zs.length - (intOf i).toNat)
      case atStart => exact ⟨0, Nat.zero_le _, rfl, rfl⟩
      case round =>
        clear hcell e1
        obtain ⟨k, hk, rfl, hz⟩ := hrel
        have HK := Lib.hid hz
        clear hz
        rcases Nat.lt_or_ge k zs.length with hlt | hge
        · obtain ⟨z, hz⟩ : ∃ z, zs[k]? = some z := ⟨_, List.getElem?_eq_getElem hlt⟩
          obtain ⟨b', off', hA, _, _, hcell⟩ := HS.out k z hz
          cases hA
          have HZ := Lib.hid hz
          clear hz
          rcases Int.lt_or_le z 0 with h0 | h0
          · have hv := validB_bad HZ.out (Or.inl h0)
            have HV := Lib.hid hv
            clear hv
            go_wp2_with fail
            go_ret
            rw [HV.out]; exact ⟨rfl, rfl⟩
          · rcases Int.lt_or_le z 1000000000 with h1 | h1
            · go_wp2_with fail
              go_round
              case rel => exact ⟨k + 1, by omega, by go_num, lok_take_succ HK.out HZ.out h0 h1⟩
              case measure => simp [intOf]; omega
            · have hv := validB_bad HZ.out (Or.inr h1)
              have HV := Lib.hid hv
              clear hv
              go_wp2_with fail
              go_ret
              rw [HV.out]; exact ⟨rfl, rfl⟩
        · obtain rfl : k = zs.length := by omega
          have hall : lok zs = true := by have := HK.out; rwa [List.take_length] at this
          have HV := Lib.hid (HE.out hall)
          clear hall
          go_wp2_with fail
          go_ret
          rw [HV.out]; exact ⟨rfl, rfl⟩
  by_cases hl : 48 < zs.length
  · have hl' : (48 : Int) < zs.length := by omega
    have hv := validB_long hl
    clear main
    go_enter Try.func44, Try.ntmps44
    go_wp2
    go_ret
    rw [hv]; exact ⟨rfl, rfl⟩
  · rcases Nat.eq_zero_or_pos zs.length with h0 | hp
    · exact main (by omega) (Or.inl (List.eq_nil_of_length_eq_zero h0))
    · obtain ⟨z, hz⟩ : ∃ z, zs[zs.length - 1]? = some z := ⟨_, List.getElem?_eq_getElem (by omega)⟩
      obtain ⟨b, off, rfl, _, _, hcell⟩ := HS.out _ z hz
      by_cases h0 : z = 0
      · subst h0
        have hv := validB_zero hz
        have HV := Lib.hid hv
        have hp' : (0 : Int) < zs.length := by omega
        have hd : decide ((48 : Int) < (zs.length : Int)) = false := decide_eq_false (by omega)
        have e1 : (zs.length : Int) - 1 = ((zs.length - 1 : Nat) : Int) := by omega
        clear main hv hz hl
        go_enter Try.func44, Try.ntmps44
        go_wp2
        go_ret
        rw [HV.out]; exact ⟨rfl, rfl⟩
      · exact main (by omega) (Or.inr ⟨z, b, off, h0, hz, rfl, hcell⟩)

theorem same_end {xs ys : List Int} (hl : xs.length = ys.length) (h : xs.take xs.length = ys.take xs.length) : xs = ys := by
  rw [List.take_length] at h; rw [h, List.take_of_length_le (by omega)]

set_option maxHeartbeats 800000 in
theorem ref_Same (xs ys : List Int) (A B : Option Addr) (c d : Nat) (lo hi lo' hi' : Nat) (w : World) (hS : Holds w lo hi A xs) (hT : Holds w lo' hi' B ys) (hh : hi ≤ w.heap.size) (hh' : hi' ≤ w.heap.size)
    (hm : xs.length ≤ 9223372036854775807) (hm2 : ys.length ≤ 9223372036854775807) :
    Calls Try.prog 34 #[.slice A xs.length c, .slice B ys.length d] w fun e w' => e = .returned (.bool (decide (xs = ys))) ∧ Below w.heap.size w w' := by
  have HS := Lib.hid hS
  have HT := Lib.hid hT
  clear hS hT
  by_cases hl : xs.length = ys.length
  · go_enter Try.func34, Try.ntmps34
    rw [← hl]
    have HL := Lib.hid hl
    clear hl hm2
    go_wp2_with fail
    go_loopw [5] (fun i wr => ∃ k : Nat, k ≤ xs.length ∧ i = .int .i64 k ∧ xs.take k = ys.take k ∧ Below w.heap.size w wr) (fun i _ => xs.length - (intOf i).toNat)
    case atStart => exact ⟨0, Nat.zero_le _, rfl, rfl, Below.refl _ _⟩
    case round =>
      obtain ⟨k, hk, rfl, hz, hbel⟩ := hrel
      have HK := Lib.hid hz
      have HB := Lib.hid hbel
      clear hz hbel
      rcases Nat.lt_or_ge k xs.length with hlt | hge
      · obtain ⟨z, hz⟩ : ∃ z, xs[k]? = some z := ⟨_, List.getElem?_eq_getElem hlt⟩
        obtain ⟨y, hy⟩ : ∃ y, ys[k]? = some y := ⟨_, List.getElem?_eq_getElem (by have := HL.out; omega)⟩
        obtain ⟨b, off, rfl, _, _, hcell⟩ := (HS.out.below HB.out hh) k z hz
        obtain ⟨b2, off2, rfl, _, _, hcell2⟩ := (HT.out.below HB.out hh') k y hy
        have HZ := Lib.hid hz
        have HY := Lib.hid hy
        clear hz hy
        by_cases h0 : z = y
        · subst h0
          have hne : (z != z) = false := by simp
          go_wp2_with fail
          go_quiet (fail)
          go_wp2_with fail
          go_roundw
          case rel => exact ⟨k + 1, by omega, by go_num, by rw [trim_step HZ.out, trim_step HY.out, HK.out], below_drewN HB.out _⟩
          case measure => simp [intOf]; omega
        · have hne : (z != y) = true := by simpa using h0
          have hv : ¬ xs = ys := by
            rintro rfl; have h1 := HZ.out; rw [HY.out] at h1; cases h1; exact h0 rfl
          have HV := Lib.hid hv
          clear hv h0
          go_wp2_with fail
          go_quiet (fail)
          go_wp2_with fail
          go_ret
          rw [decide_eq_false HV.out]; exact ⟨rfl, below_drewN HB.out _⟩
      · obtain rfl : k = xs.length := by omega
        have HE := Lib.hid (same_end HL.out HK.out)
        go_wp2_with fail
        go_ret
        rw [decide_eq_true HE.out]; exact ⟨rfl, HB.out⟩
  · have hne : ((xs.length : Int) != (ys.length : Int)) = true := by simp; omega
    have hv : ¬ xs = ys := fun h => hl (congrArg _ h)
    have HV := Lib.hid hv
    clear hv hl
    go_enter Try.func34, Try.ntmps34
    go_wp2_with fail
    go_ret
    rw [decide_eq_false HV.out]; exact ⟨rfl, Below.refl _ _⟩
end Go.Proofs.Ytohfaoclemcfaaa
/- Contracts of compare: the program's and the reference's; Cmp of both. -/
namespace Go.Proofs.Ytohfaoclemcfaaa
open Go.ChangeShapes Go.WideShapes Go.RowKit
set_option linter.unusedVariables false
set_option maxRecDepth 100000

def cmpI (x y : Int) : Int := Lib.compareInt x y
theorem cmpI_lt {x y : Int} (h : x < y) : cmpI x y = -1 := by simp [cmpI, Lib.compareInt, h]
theorem cmpI_gt {x y : Int} (h : y < x) : cmpI x y = 1 := by
  unfold cmpI Lib.compareInt; rw [if_neg (by omega), if_pos h]
theorem cmpI_eq (x : Int) : cmpI x x = 0 := by simp [cmpI, Lib.compareInt]
theorem nrm_len {xs ys : List Int} (hx : nrm xs = true) (hy : nrm ys = true) (h : xs.length < ys.length) : nval xs < nval ys := by
  have a := nval_lt (nrm_lok hx)
  have b := nrm_limbs hy
  have c := nval_nonneg (nrm_lok hy)
  have d := nval_nonneg (nrm_lok hx)
  rcases Int.lt_or_le (nval xs) (nval ys) with h1 | h1
  · exact h1
  · exfalso
    have e : (nval ys).toNat < 1000000000 ^ xs.length := by
      have : ((nval ys).toNat : Int) < ((1000000000 ^ xs.length : Nat) : Int) := by rw [Int.natCast_pow]; have : ((1000000000 : Nat) : Int) = 1000000000 := rfl; rw [this]; omega
      omega
    have := limbs_len_le.mpr e
    rw [← b] at this
    omega
theorem nval_lt_at {xs ys : List Int} {k : Nat} {x y : Int} (hx : lok xs = true) (hy : lok ys = true) (h1 : xs[k]? = some x) (h2 : ys[k]? = some y) (he : xs.drop (k + 1) = ys.drop (k + 1)) (h : x < y) : nval xs < nval ys := by
  have hk : k < xs.length := by
    rcases Nat.lt_or_ge k xs.length with h | h
    · exact h
    · rw [List.getElem?_eq_none h] at h1; cases h1
  have hk2 : k < ys.length := by
    rcases Nat.lt_or_ge k ys.length with h | h
    · exact h
    · rw [List.getElem?_eq_none h] at h2; cases h2
  have e1 : nval xs = nval (xs.take k) + 1000000000 ^ k * (x + 1000000000 * nval (xs.drop (k + 1))) := by
    rw [← nval_drop_step h1]
    have := nval_append (xs.take k) (xs.drop k)
    rw [List.take_append_drop, List.length_take, Nat.min_eq_left (by omega)] at this; exact this
  have e2 : nval ys = nval (ys.take k) + 1000000000 ^ k * (y + 1000000000 * nval (ys.drop (k + 1))) := by
    rw [← nval_drop_step h2]
    have := nval_append (ys.take k) (ys.drop k)
    rw [List.take_append_drop, List.length_take, Nat.min_eq_left (by omega)] at this; exact this
  have l1 := nval_lt (lok_take hx k)
  have l2 := nval_nonneg (lok_take hy k)
  rw [List.length_take, Nat.min_eq_left (by omega)] at l1
  rw [e1, e2, he]
  obtain ⟨P, hP⟩ : ∃ P : Int, P = 1000000000 ^ k := ⟨_, rfl⟩
  obtain ⟨R, hR⟩ : ∃ R : Int, R = 1000000000 * nval (ys.drop (k + 1)) := ⟨_, rfl⟩
  have hpos := pow_pos' k
  rw [← hP] at l1 hpos ⊢
  rw [← hR]
  have m : P * (x + R) + P ≤ P * (y + R) := by
    have := Int.mul_le_mul_of_nonneg_left (show x + R + 1 ≤ y + R by omega) (Int.le_of_lt hpos)
    rw [Int.mul_add, Int.mul_one] at this; exact this
  omega
theorem drop_step {l : List Int} {k : Nat} {z : Int} (h : l[k]? = some z) : l.drop k = z :: l.drop (k + 1) := by
  have hk : k < l.length := by
    rcases Nat.lt_or_ge k l.length with h1 | h1
    · exact h1
    · rw [List.getElem?_eq_none h1] at h; cases h
  rw [List.drop_eq_getElem_cons hk]
  rw [List.getElem?_eq_getElem hk] at h
  cases h; rfl

set_option maxHeartbeats 1600000 in
theorem nat_compare (xs ys : List Int) (A B : Option Addr) (c d : Nat) (lo hi lo' hi' : Nat) (w : World) (hS : Holds w lo hi A xs) (hT : Holds w lo' hi' B ys) (hh : hi ≤ w.heap.size) (hh' : hi' ≤ w.heap.size)
    (hx : nrm xs = true) (hy : nrm ys = true) (hm : xs.length ≤ 1000000) (hm2 : ys.length ≤ 1000000) :
    Calls Try.prog 103 #[.slice A xs.length c, .slice B ys.length d] w fun e w' => e = .returned (.int .i64 (cmpI (nval xs) (nval ys))) ∧ Below w.heap.size w w' := by
  have HS := Lib.hid hS
  have HT := Lib.hid hT
  have HX := Lib.hid hx
  have HY := Lib.hid hy
  clear hS hT hx hy
  by_cases hl : xs.length = ys.length
  · go_enter Try.func103, Try.ntmps103
    rw [← hl]
    have HL := Lib.hid hl
    clear hl hm2
    go_wp2_with fail
    go_loopw [19] (fun i wr => ∃ k : Nat, k ≤ xs.length ∧ i = .int .i64 k ∧ xs.drop (xs.length - k) = ys.drop (xs.length - k) ∧ Below w.heap.size w wr) (fun i _ => xs.length - (intOf i).toNat)
    case atStart => exact ⟨0, Nat.zero_le _, rfl, by rw [Nat.sub_zero, List.drop_length, HL.out, List.drop_length], Below.refl _ _⟩
    case round =>
      obtain ⟨k, hk, rfl, hz, hbel⟩ := hrel
      have HK := Lib.hid hz
      have HB := Lib.hid hbel
      clear hz hbel
      rcases Nat.lt_or_ge k xs.length with hlt | hge
      · obtain ⟨j, hj⟩ : ∃ j, j = xs.length - 1 - k := ⟨_, rfl⟩
        obtain ⟨z, hz⟩ : ∃ z, xs[j]? = some z := ⟨_, List.getElem?_eq_getElem (by omega)⟩
        obtain ⟨y, hy⟩ : ∃ y, ys[j]? = some y := ⟨_, List.getElem?_eq_getElem (by have := HL.out; omega)⟩
        obtain ⟨b, off, rfl, _, _, hcell⟩ := (HS.out.below HB.out hh) j z hz
        obtain ⟨b2, off2, rfl, _, _, hcell2⟩ := (HT.out.below HB.out hh') j y hy
        have e1 : (xs.length : Int) - 1 - k = (j : Int) := by omega
        have hjl : j < xs.length := by omega
        have hd : xs.drop (j + 1) = ys.drop (j + 1) := by have := HK.out; have e : xs.length - k = j + 1 := by omega
                                                          rwa [e] at this
        have HZ := Lib.hid hz
        have HYY := Lib.hid hy
        have HJ := Lib.hid hj
        have HD := Lib.hid hd
        clear hz hy hj hd
        by_cases h0 : z = y
        · subst h0
          have hne : (z != z) = false := by simp
          go_wp2_with fail
          go_quiet (fail)
          go_wp2_with fail
          go_roundw
          case rel =>
            refine ⟨k + 1, by omega, by go_num, ?_, below_drewN HB.out _⟩
            have e2 : xs.length - (k + 1) = j := by have := HJ.out; omega
            rw [e2, drop_step HZ.out, drop_step HYY.out, HD.out]
          case measure => simp [intOf]; omega
        · have hne : (z != y) = true := by simpa using h0
          have hv : Lib.compareInt z y = cmpI (nval xs) (nval ys) := by
            rcases Int.lt_or_le z y with h1 | h1
            · rw [cmpI_lt (nval_lt_at (nrm_lok HX.out) (nrm_lok HY.out) HZ.out HYY.out HD.out h1)]; exact cmpI_lt h1
            · have h2 : y < z := by omega
              rw [cmpI_gt (nval_lt_at (nrm_lok HY.out) (nrm_lok HX.out) HYY.out HZ.out HD.out.symm h2)]; exact cmpI_gt h2
          have HV := Lib.hid hv
          clear hv h0
          go_wp2_with fail
          go_quiet (fail)
          go_wp2_with fail
          go_quiet ((go_at_call 104; exact (Try.cmp_Compare_int _ _ _).mono fun _ _ k => ⟨k.1, _, k.2⟩))
          go_wp2_with fail
          go_ret
          exact ⟨ret_int HV.out, below_drewN (below_drewN HB.out _) _⟩
      · obtain rfl : k = xs.length := by omega
        have he : xs = ys := by have := HK.out; simpa using this
        have HE := Lib.hid he
        clear he
        go_wp2_with fail
        go_ret
        refine ⟨ret_int ?_, HB.out⟩
        rw [← HE.out, cmpI_eq]
  · have hne : ((xs.length : Int) != (ys.length : Int)) = true := by simp; omega
    have hv : Lib.compareInt (xs.length : Int) (ys.length : Int) = cmpI (nval xs) (nval ys) := by
      rcases Nat.lt_or_ge xs.length ys.length with h1 | h1
      · rw [cmpI_lt (nrm_len HX.out HY.out h1)]; exact cmpI_lt (by omega)
      · rw [cmpI_gt (nrm_len HY.out HX.out (by omega))]; exact cmpI_gt (by omega)
    have HV := Lib.hid hv
    clear hv hl
    go_enter Try.func103, Try.ntmps103
    go_wp2_with (go_at_call 104; refine (Try.cmp_Compare_int _ _ _).mono ?_; rintro e w' ⟨rfl, rfl⟩)
    go_ret
    exact ⟨ret_int HV.out, Below.refl _ _⟩
end Go.Proofs.Ytohfaoclemcfaaa
/- Contracts of nat.Cmp, nat.Add, nat.Sub. -/
namespace Go.Proofs.Ytohfaoclemcfaaa
open Go.ChangeShapes Go.WideShapes Go.RowKit
set_option linter.unusedVariables false
set_option maxRecDepth 100000

/-- A slice that is there: it holds the integers zs. -/
def In (w : World) (v : Value) (zs : List Int) : Prop := Sl w 0 w.heap.size v zs
theorem Sl.below {w w' : World} {B lo hi : Nat} {v : Value} {zs : List Int} (h : Sl w lo hi v zs) (hb : Below B w w') (hB : hi ≤ B) : Sl w' lo hi v zs := by
  obtain ⟨A, c, rfl, h1, h2, h3⟩ := h
  exact ⟨A, c, rfl, h1, h2, Holds.below h3 hb hB⟩
theorem Sl.more {w : World} {lo hi lo' hi' : Nat} {v : Value} {zs : List Int} (h : Sl w lo hi v zs) (hl : lo' ≤ lo) (hh : hi ≤ hi') : Sl w lo' hi' v zs := by
  obtain ⟨A, c, rfl, h1, h2, h3⟩ := h
  exact ⟨A, c, rfl, h1, h2, Holds.more h3 hl hh⟩
theorem In.below {w w' : World} {B : Nat} {v : Value} {zs : List Int} (h : In w v zs) (hb : Below B w w') (hB : w.heap.size ≤ B) : In w' v zs :=
  (Sl.below h hb hB).more (Nat.le_refl _) hb.size
theorem Sl.toIn {w : World} {lo : Nat} {v : Value} {zs : List Int} (h : Sl w lo w.heap.size v zs) : In w v zs := h.more (Nat.zero_le _) (Nat.le_refl _)
theorem In.nil (w : World) : In w (.slice none 0 0) [] := ⟨none, 0, rfl, Nat.le_refl _, by unfold maxLen; omega, fun k z hz => by simp at hz⟩
theorem Sl.nil (w : World) (lo hi : Nat) : Sl w lo hi (.slice none 0 0) [] := ⟨none, 0, rfl, Nat.le_refl _, by unfold maxLen; omega, fun k z hz => by simp at hz⟩

/-- What a function that returns a number and an error leaves. -/
def Res (w : World) (N : Nat) (err : Int) (e : Ending) (w' : World) : Prop :=
  ∃ v, e = .returned (.tuple #[v, .int .i64 err]) ∧ Sl w' w.heap.size w'.heap.size v (limbs N) ∧ Below w.heap.size w w'
theorem Res.none {w w' : World} {N : Nat} {err err' : Int} {e : Ending} (hN : N = 0) (he : err = err') (h : e = .returned (.tuple #[.slice none 0 0, .int .i64 err'])) (hb : Below w.heap.size w w') : Res w N err e w' := by
  subst hN he h
  exact ⟨_, rfl, by rw [limbs_zero]; exact Sl.nil _ _ _, hb⟩

def both (xs ys : List Int) : Bool := validB xs && validB ys
def cmpV (xs ys : List Int) : Int := if both xs ys then cmpI (nval xs) (nval ys) else 0
def formE (xs ys : List Int) : Int := if both xs ys then 0 else 3
theorem both_cases (xs ys : List Int) : (validB xs = false ∧ both xs ys = false) ∨ (validB xs = true ∧ validB ys = false ∧ both xs ys = false) ∨ (validB xs = true ∧ validB ys = true ∧ both xs ys = true) := by
  cases hx : validB xs <;> cases hy : validB ys <;> simp [both, hx, hy]
theorem valid_len {xs : List Int} (h : validB xs = true) : xs.length ≤ 48 := (validB_iff.mp h).1
theorem valid_nrm {xs : List Int} (h : validB xs = true) : nrm xs = true := (validB_iff.mp h).2
theorem valid_lok {xs : List Int} (h : validB xs = true) : lok xs = true := nrm_lok (valid_nrm h)

set_option maxHeartbeats 800000 in
theorem nat_Cmp (xs ys : List Int) (va vb : Value) (w : World) (ha : In w va xs) (hb : In w vb ys) :
    Calls Try.prog 98 #[va, vb] w fun e w' => e = .returned (.tuple #[.int .i64 (cmpV xs ys), .int .i64 (formE xs ys)]) ∧ Below w.heap.size w w' := by
  obtain ⟨A, c, rfl, hc, hm, hA⟩ := ha
  obtain ⟨B, d, rfl, hd, hn, hB⟩ := hb
  have HA := Lib.hid hA
  have HB := Lib.hid hB
  have hm1 : xs.length ≤ 9223372036854775807 := Nat.le_trans hc hm
  have hm2 : ys.length ≤ 9223372036854775807 := Nat.le_trans hd hn
  clear hA hB hm hn
  rcases both_cases xs ys with ⟨hx, hbo⟩ | ⟨hx, hy, hbo⟩ | ⟨hx, hy, hbo⟩
  · have HBO := Lib.hid hbo
    clear hbo
    go_enter Try.func98, Try.ntmps98
    go_wp2_with fail
    refine (nat_Valid xs A c _ _ w HA.out hm1).mono ?_
    rintro e w' ⟨rfl, rfl⟩
    go_wp2_with fail
    go_ret2
    exact ⟨ret_two (by rw [cmpV, HBO.out]; rfl) (by rw [formE, HBO.out]; rfl), Below.refl _ _⟩
  · have HBO := Lib.hid hbo
    clear hbo
    go_enter Try.func98, Try.ntmps98
    go_wp2_with fail
    refine (nat_Valid xs A c _ _ w HA.out hm1).mono ?_
    rintro e w' ⟨rfl, rfl⟩
    go_wp2_with fail
    refine (nat_Valid ys B d _ _ _ HB.out hm2).mono ?_
    rintro e w' ⟨rfl, rfl⟩
    go_wp2_with fail
    go_ret2
    exact ⟨ret_two (by rw [cmpV, HBO.out]; rfl) (by rw [formE, HBO.out]; rfl), Below.refl _ _⟩
  · have HBO := Lib.hid hbo
    have l1 := valid_len hx
    have l2 := valid_len hy
    clear hbo
    go_enter Try.func98, Try.ntmps98
    go_wp2_with fail
    refine (nat_Valid xs A c _ _ w HA.out hm1).mono ?_
    rintro e w' ⟨rfl, rfl⟩
    go_wp2_with fail
    refine (nat_Valid ys B d _ _ _ HB.out hm2).mono ?_
    rintro e w' ⟨rfl, rfl⟩
    go_wp2_with fail
    refine (nat_compare xs ys A B c d _ _ _ _ _ HA.out HB.out (Nat.le_refl _) (Nat.le_refl _) (valid_nrm hx) (valid_nrm hy) (by omega) (by omega)).mono ?_
    rintro e w' ⟨rfl, hbel⟩
    go_wp2_with fail
    go_ret2
    exact ⟨ret_two (by rw [cmpV, HBO.out]; rfl) (by rw [formE, HBO.out]; rfl), hbel⟩

theorem lok_of_val {D : List Int} {z : Int} (h : lok D = true) (h1 : 0 ≤ nval (D ++ [z])) (h2 : nval (D ++ [z]) < 1000000000 ^ (D.length + 1)) : lok (D ++ [z]) = true := by
  rw [lok_append]
  refine ⟨h, ?_⟩
  rw [nval_snoc] at h1 h2
  have a := nval_nonneg h
  have b := nval_lt h
  have p := pow_pos' D.length
  rw [Int.pow_succ] at h2
  obtain ⟨P, hP⟩ : ∃ P : Int, P = 1000000000 ^ D.length := ⟨_, rfl⟩
  rw [← hP] at h1 h2 b p
  have z1 : 0 ≤ z := by
    rcases Int.lt_or_le z 0 with hz | hz
    · have : P * z ≤ P * (-1) := Int.mul_le_mul_of_nonneg_left (by omega) (Int.le_of_lt p)
      omega
    · exact hz
  have z2 : z < 1000000000 := by
    rcases Int.lt_or_le z 1000000000 with hz | hz
    · exact hz
    · have : P * 1000000000 ≤ P * z := Int.mul_le_mul_of_nonneg_left hz (Int.le_of_lt p)
      omega
  simp [lok, z1, z2]
theorem lok_of_dropLast {T : List Int} (hne : T ≠ []) (h : lok T.dropLast = true) (h1 : 0 ≤ nval T) (h2 : nval T < 1000000000 ^ T.length) : lok T = true := by
  have e := List.dropLast_concat_getLast hne
  rw [← e] at h1 h2 ⊢
  refine lok_of_val h h1 ?_
  rw [List.length_append] at h2; exact h2
theorem pow_le_pow' {a b : Nat} (h : a ≤ b) : (1000000000 : Int) ^ a ≤ 1000000000 ^ b := by
  have e : b = a + (b - a) := by omega
  rw [e, Int.pow_add]
  have p := pow_pos' a
  have q := pow_pos' (b - a)
  have : (1000000000 : Int) ^ a * 1 ≤ 1000000000 ^ a * 1000000000 ^ (b - a) := Int.mul_le_mul_of_nonneg_left (by omega) (Int.le_of_lt p)
  omega

/-- Add. -/
def addV (xs ys : List Int) : Nat := if both xs ys then fitN (nval xs + nval ys).toNat else 0
def addE (xs ys : List Int) : Int := if both xs ys then fitE (nval xs + nval ys).toNat else 3
theorem laid_all {Z D : List Int} (h : D.length = Z.length) : laid Z 0 D = D := by
  rw [laid, List.take_zero, List.nil_append, List.drop_eq_nil_of_le (by omega), List.append_nil]
theorem addT_pad {xs ys : List Int} {n : Nat} {m : Int} (hx : lok xs = true) (hy : lok ys = true) (h1 : xs.length < n) (h2 : ys.length < n) (h0 : 0 ≤ nval xs + m * nval ys) (hlt : nval xs + m * nval ys < 1000000000 ^ n) :
    lok (addT (padL xs n) ys m 0) = true ∧ nval (addT (padL xs n) ys m 0) = nval xs + m * nval ys := by
  have hl : (padL xs n).length = n := padL_length (by omega)
  have hv : nval (addT (padL xs n) ys m 0) = nval xs + m * nval ys := by rw [addT_val _ _ _ _ (by omega), padL_val]; omega
  refine ⟨lok_of_dropLast ?_ (addT_lok _ _ _ _) (by rw [hv]; exact h0) (by rw [hv, addT_length, hl]; exact hlt), hv⟩
  intro h
  have := addT_length (padL xs n) ys m 0
  rw [h, hl] at this; simp at this; omega

set_option maxHeartbeats 1600000 in
theorem nat_Add (xs ys : List Int) (va vb : Value) (w : World) (ha : In w va xs) (hb : In w vb ys) :
    Calls Try.prog 97 #[va, vb] w (Res w (addV xs ys) (addE xs ys)) := by
  obtain ⟨A, c, rfl, hc, hm, hA⟩ := ha
  obtain ⟨B, d, rfl, hd, hn, hB⟩ := hb
  have HA := Lib.hid hA
  have HB := Lib.hid hB
  have hm1 : xs.length ≤ 9223372036854775807 := Nat.le_trans hc hm
  have hm2 : ys.length ≤ 9223372036854775807 := Nat.le_trans hd hn
  clear hA hB hm hn
  rcases both_cases xs ys with ⟨hx, hbo⟩ | ⟨hx, hy, hbo⟩ | ⟨hx, hy, hbo⟩
  · have HBO := Lib.hid hbo
    clear hbo
    go_enter Try.func97, Try.ntmps97
    go_wp2_with fail
    refine (nat_Valid xs A c _ _ w HA.out hm1).mono ?_
    rintro e w' ⟨rfl, rfl⟩
    go_wp2_with fail
    go_ret2
    exact Res.none (by rw [addV, HBO.out]; rfl) (by rw [addE, HBO.out]; rfl) rfl (Below.refl _ _)
  · have HBO := Lib.hid hbo
    clear hbo
    go_enter Try.func97, Try.ntmps97
    go_wp2_with fail
    refine (nat_Valid xs A c _ _ w HA.out hm1).mono ?_
    rintro e w' ⟨rfl, rfl⟩
    go_wp2_with fail
    refine (nat_Valid ys B d _ _ _ HB.out hm2).mono ?_
    rintro e w' ⟨rfl, rfl⟩
    go_wp2_with fail
    go_ret2
    exact Res.none (by rw [addV, HBO.out]; rfl) (by rw [addE, HBO.out]; rfl) rfl (Below.refl _ _)
  · have HBO := Lib.hid hbo
    have l1 := valid_len hx
    have l2 := valid_len hy
    obtain ⟨m, hmm⟩ : ∃ m, m = max xs.length ys.length := ⟨_, rfl⟩
    have hx1 : xs.length ≤ m := by omega
    have hy1 : ys.length ≤ m := by omega
    have hm48 : m ≤ 48 := by omega
    have hsum := addT_pad (n := m + 1) (m := 1) (valid_lok hx) (valid_lok hy) (by omega) (by omega) (by have := nval_nonneg (valid_lok hx); have := nval_nonneg (valid_lok hy); omega)
      (by have a := nval_lt (valid_lok hx); have b := nval_lt (valid_lok hy); have p := pow_le_pow' hx1; have q := pow_le_pow' hy1; have := pow_pos' m; rw [Int.pow_succ]; omega)
    have hz : lok xs = true := valid_lok hx
    have hz2 : lok ys = true := valid_lok hy
    have hlast : ∀ z, (padL xs (m + 1))[(padL xs (m + 1)).length - 1]? = some z → -4000000000000000000 < z ∧ z < 4000000000000000000 := by
      intro z h; have := lok_at (padL_lok hz _) h; omega
    have hdl : lok (padL xs (m + 1)).dropLast = true := by rw [List.dropLast_eq_take]; exact lok_take (padL_lok hz _) _
    have hpl : (padL xs (m + 1)).length = m + 1 := padL_length (by omega)
    have HMM := Lib.hid hmm
    have hmx : max (xs.length : Int) (ys.length : Int) = (m : Int) := by omega
    have HS := Lib.hid hsum
    have HL := Lib.hid hlast
    have HD := Lib.hid hdl
    have HP := Lib.hid hpl
    have HZ := Lib.hid hz
    have HZ2 := Lib.hid hz2
    clear hbo hsum hlast hdl hpl hmm hz hz2
    go_enter Try.func97, Try.ntmps97
    go_wp2_with fail
    refine (nat_Valid xs A c _ _ w HA.out hm1).mono ?_
    rintro e w' ⟨rfl, rfl⟩
    go_wp2_with fail
    refine (nat_Valid ys B d _ _ _ HB.out hm2).mono ?_
    rintro e w' ⟨rfl, rfl⟩
    go_wp2_with fail
    refine (nat_copied xs A c (m + 1) _ _ _ HA.out (Nat.le_refl _) (by omega) (by omega)).mono ?_
    rintro e w1 ⟨rfl, hrow, hbel⟩
    have hadd := nat_addTimes (padL xs (m + 1)) (padL xs (m + 1)) ys 1 w.heap.size 0 (m + 1) d _ _ B w1 hrow (by omega) (fun j _ => by rw [Nat.zero_add]) (Holds.below HB.out hbel (Nat.le_refl _)) (Or.inr (Nat.le_refl _)) (by rw [HP.out]; omega) (by rw [HP.out]; omega) HD.out HL.out HZ2.out (by omega) (by omega)
    rw [HP.out, laid_all (by rw [addT_length])] at hadd
    have HADD := Lib.hid hadd
    have HB1 := Lib.hid hbel
    clear hadd hrow hbel
    go_wp2_with fail
    refine HADD.out.mono ?_
    rintro e w2 ⟨rfl, hrow, honly⟩
    have hb2 : Below w.heap.size w w2 := HB1.out.trans (honly.toBelow (Nat.le_refl _))
    have hlen : (addT (padL xs (m + 1)) ys 1 0).length = m + 1 := by rw [addT_length, HP.out]
    have hlim := nat_limited (addT (padL xs (m + 1)) ys 1 0) (some ⟨w.heap.size, 0, none⟩) (m + 1) w.heap.size w2.heap.size w2 (hrow.holds (fun k z hz => by rw [Nat.zero_add]; exact hz) (Nat.le_refl _) hrow.lt) (by omega) (by unfold maxLen; omega) HS.out.1
    rw [hlen, HS.out.2, Int.one_mul] at hlim
    have HLIM := Lib.hid hlim
    have HB2 := Lib.hid hb2
    clear hlim hb2 hrow honly hlen
    go_wp2_with fail
    refine HLIM.out.mono ?_
    rintro e w3 ⟨v, rfl, hsl, rfl⟩
    go_wp2_with fail
    go_ret2
    refine ⟨v, ?_, ?_, HB2.out⟩
    · rw [addE, HBO.out]; rfl
    · rw [addV, HBO.out]; exact hsl
/-- Sub. -/
def subV (xs ys : List Int) : Nat := if both xs ys then (if nval xs < nval ys then 0 else fitN (nval xs - nval ys).toNat) else 0
def subE (xs ys : List Int) : Int := if both xs ys then (if nval xs < nval ys then 1 else fitE (nval xs - nval ys).toNat) else 3
theorem len_of_le {xs ys : List Int} (hx : nrm xs = true) (hy : nrm ys = true) (h : nval ys ≤ nval xs) : ys.length ≤ xs.length := by
  rcases Nat.lt_or_ge xs.length ys.length with h1 | h1
  · have := nrm_len hx hy h1; omega
  · exact h1

set_option maxHeartbeats 1600000 in
theorem nat_Sub (xs ys : List Int) (va vb : Value) (w : World) (ha : In w va xs) (hb : In w vb ys) :
    Calls Try.prog 99 #[va, vb] w (Res w (subV xs ys) (subE xs ys)) := by
  obtain ⟨A, c, rfl, hc, hm, hA⟩ := ha
  obtain ⟨B, d, rfl, hd, hn, hB⟩ := hb
  have HA := Lib.hid hA
  have HB := Lib.hid hB
  have hm1 : xs.length ≤ 9223372036854775807 := Nat.le_trans hc hm
  have hm2 : ys.length ≤ 9223372036854775807 := Nat.le_trans hd hn
  clear hA hB hm hn
  rcases both_cases xs ys with ⟨hx, hbo⟩ | ⟨hx, hy, hbo⟩ | ⟨hx, hy, hbo⟩
  · have HBO := Lib.hid hbo
    clear hbo
    go_enter Try.func99, Try.ntmps99
    go_wp2_with fail
    refine (nat_Valid xs A c _ _ w HA.out hm1).mono ?_
    rintro e w' ⟨rfl, rfl⟩
    go_wp2_with fail
    go_ret2
    exact Res.none (by rw [subV, HBO.out]; rfl) (by rw [subE, HBO.out]; rfl) rfl (Below.refl _ _)
  · have HBO := Lib.hid hbo
    clear hbo
    go_enter Try.func99, Try.ntmps99
    go_wp2_with fail
    refine (nat_Valid xs A c _ _ w HA.out hm1).mono ?_
    rintro e w' ⟨rfl, rfl⟩
    go_wp2_with fail
    refine (nat_Valid ys B d _ _ _ HB.out hm2).mono ?_
    rintro e w' ⟨rfl, rfl⟩
    go_wp2_with fail
    go_ret2
    exact Res.none (by rw [subV, HBO.out]; rfl) (by rw [subE, HBO.out]; rfl) rfl (Below.refl _ _)
  · have HBO := Lib.hid hbo
    have l1 := valid_len hx
    have l2 := valid_len hy
    have C := nat_compare xs ys A B c d _ _ _ _ w HA.out HB.out (Nat.le_refl _) (Nat.le_refl _) (valid_nrm hx) (valid_nrm hy) (by omega) (by omega)
    have HCC := Lib.hid C
    clear C
    rcases Int.lt_or_le (nval xs) (nval ys) with hlt | hge
    · have hcm : cmpI (nval xs) (nval ys) = -1 := cmpI_lt hlt
      have HLT := Lib.hid hlt
      clear hbo hlt
      go_enter Try.func99, Try.ntmps99
      go_wp2_with fail
      refine (nat_Valid xs A c _ _ w HA.out hm1).mono ?_
      rintro e w' ⟨rfl, rfl⟩
      go_wp2_with fail
      refine (nat_Valid ys B d _ _ _ HB.out hm2).mono ?_
      rintro e w' ⟨rfl, rfl⟩
      go_wp2_with fail
      refine HCC.out.mono ?_
      rintro e w' ⟨rfl, hbel⟩
      go_wp2_with fail
      go_ret2
      exact Res.none (by rw [subV, HBO.out, if_pos HLT.out]; rfl) (by rw [subE, HBO.out, if_pos HLT.out]; rfl) rfl hbel
    · have hcm : decide (cmpI (nval xs) (nval ys) < 0) = false := by
        refine decide_eq_false ?_
        rcases Int.lt_or_eq_of_le hge with h | h
        · rw [cmpI_gt h]; decide
        · rw [← h, cmpI_eq]; decide
      have hyx := len_of_le (valid_nrm hx) (valid_nrm hy) hge
      have hsum := addT_pad (n := xs.length + 1) (m := -1) (valid_lok hx) (valid_lok hy) (by omega) (by omega) (by omega)
        (by have a := nval_lt (valid_lok hx); have b := nval_nonneg (valid_lok hy); have := pow_pos' xs.length; rw [Int.pow_succ]; omega)
      have hz : lok xs = true := valid_lok hx
      have hz2 : lok ys = true := valid_lok hy
      have hlast : ∀ z, (padL xs (xs.length + 1))[(padL xs (xs.length + 1)).length - 1]? = some z → -4000000000000000000 < z ∧ z < 4000000000000000000 := by
        intro z h; have := lok_at (padL_lok hz _) h; omega
      have hdl : lok (padL xs (xs.length + 1)).dropLast = true := by rw [List.dropLast_eq_take]; exact lok_take (padL_lok hz _) _
      have hpl : (padL xs (xs.length + 1)).length = xs.length + 1 := padL_length (by omega)
      have HLT := Lib.hid (show ¬ nval xs < nval ys by omega)
      have HS := Lib.hid hsum
      have HL := Lib.hid hlast
      have HD := Lib.hid hdl
      have HP := Lib.hid hpl
      have HZ := Lib.hid hz
      have HZ2 := Lib.hid hz2
      clear hbo hsum hlast hdl hpl hz hz2 hge
      go_enter Try.func99, Try.ntmps99
      go_wp2_with fail
      refine (nat_Valid xs A c _ _ w HA.out hm1).mono ?_
      rintro e w' ⟨rfl, rfl⟩
      go_wp2_with fail
      refine (nat_Valid ys B d _ _ _ HB.out hm2).mono ?_
      rintro e w' ⟨rfl, rfl⟩
      go_wp2_with fail
      refine HCC.out.mono ?_
      rintro e w0 ⟨rfl, hbel0⟩
      have hsz := hbel0.size
      have HB0 := Lib.hid hbel0
      clear hbel0
      go_wp2_with fail
      refine (nat_copied xs A c (xs.length + 1) _ _ _ (Holds.below HA.out HB0.out (Nat.le_refl _)) hsz (by omega) (by omega)).mono ?_
      rintro e w1 ⟨rfl, hrow, hbel⟩
      have hadd := nat_addTimes (padL xs (xs.length + 1)) (padL xs (xs.length + 1)) ys (-1) w0.heap.size 0 (xs.length + 1) d _ _ B w1 hrow (by omega) (fun j _ => by rw [Nat.zero_add]) (Holds.below (Holds.below HB.out HB0.out (Nat.le_refl _)) hbel hsz) (Or.inr hsz) (by rw [HP.out]; omega) (by rw [HP.out]; omega) HD.out HL.out HZ2.out (by omega) (by omega)
      rw [HP.out, laid_all (by rw [addT_length])] at hadd
      have HADD := Lib.hid hadd
      have HB1 := Lib.hid hbel
      clear hadd hrow hbel
      go_wp2_with fail
      refine HADD.out.mono ?_
      rintro e w2 ⟨rfl, hrow, honly⟩
      have hb2 : Below w.heap.size w w2 := (HB0.out.trans (HB1.out.mono hsz)).trans (honly.toBelow hsz)
      have hlen : (addT (padL xs (xs.length + 1)) ys (-1) 0).length = xs.length + 1 := by rw [addT_length, HP.out]
      have hlim := nat_limited (addT (padL xs (xs.length + 1)) ys (-1) 0) (some ⟨w0.heap.size, 0, none⟩) (xs.length + 1) w.heap.size w2.heap.size w2 (hrow.holds (fun k z hz => by rw [Nat.zero_add]; exact hz) hsz hrow.lt) (by omega) (by unfold maxLen; omega) HS.out.1
      have ev : nval xs + -1 * nval ys = nval xs - nval ys := by omega
      rw [hlen, HS.out.2, ev] at hlim
      have HLIM := Lib.hid hlim
      have HB2 := Lib.hid hb2
      clear hlim hb2 hrow honly hlen ev
      go_wp2_with fail
      refine HLIM.out.mono ?_
      rintro e w3 ⟨v, rfl, hsl, rfl⟩
      go_wp2_with fail
      go_ret2
      refine ⟨v, ?_, ?_, HB2.out⟩
      · rw [subE, HBO.out, if_neg (Int.not_lt.mpr HLT.out)]; rfl
      · rw [subV, HBO.out, if_neg (Int.not_lt.mpr HLT.out)]; exact hsl
end Go.Proofs.Ytohfaoclemcfaaa
