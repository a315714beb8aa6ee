/- Slices of integers; contracts of PutList of the program and of the reference. -/
import Derived.Test.YthcbkjdjkmnbiaaWireC
namespace Go.Proofs.Ythcbkjdjkmnbiaa.Wire
open Go.ChangeShapes Go.WideShapes Go.RowKit
set_option linter.unusedVariables false
set_option maxRecDepth 100000

/-- At the address lie the integers zs. -/
def Its (w : World) (A : Option Addr) (zs : List Int) : Prop :=
  ∀ (k : Nat) (z : Int), zs[k]? = some z → ∃ b off, A = some ⟨b, off, none⟩ ∧ b < w.heap.size ∧ w.cell? ⟨b, off + k, none⟩ = some (.int .i64 z)
theorem Its.nil (w : World) (A : Option Addr) : Its w A [] := fun k z h => by simp at h
theorem Its.on {w w' : World} {A : Option Addr} {zs : List Int} (h : Its w A zs) (hb : Below w.heap.size w w') : Its w' A zs := by
  intro k z hk
  obtain ⟨b, off, e, hlt, h0⟩ := h k z hk
  exact ⟨b, off, e, Nat.lt_of_lt_of_le hlt hb.size, (hb.cell (p := ⟨b, off + k, none⟩) hlt).trans h0⟩
def InI (w : World) (v : Value) (zs : List Int) : Prop := ∃ A c, v = .slice A zs.length c ∧ zs.length ≤ c ∧ c ≤ maxLen ∧ Its w A zs
theorem InI.on {w w' : World} {v : Value} {zs : List Int} (h : InI w v zs) (hb : Below w.heap.size w w') : InI w' v zs := by
  obtain ⟨A, c, e, h1, h2, h3⟩ := h; exact ⟨A, c, e, h1, h2, h3.on hb⟩
theorem InI.nil (w : World) : InI w (.slice none 0 0) [] := ⟨none, 0, rfl, Nat.le_refl _, by unfold maxLen; omega, Its.nil _ _⟩
def allI (zs : List Int) : Prop := ∀ n ∈ zs, isI n
theorem allI.at {zs : List Int} (h : allI zs) {k : Nat} {z : Int} (hz : zs[k]? = some z) : isI z := h z (List.mem_of_getElem? hz)
theorem allI.take {zs : List Int} (h : allI zs) (k : Nat) : allI (zs.take k) := fun n hn => h n (List.mem_of_mem_take hn)
/-- What PutList has written after k elements. -/
def part (l : List UInt8) (zs : List Int) (k : Nat) : List UInt8 := l ++ (encI (zs.length : Int) ++ encs (zs.take k))
theorem part_zero (l : List UInt8) (zs : List Int) : part l zs 0 = l ++ encI (zs.length : Int) := by simp [part, encs]
theorem part_next (l : List UInt8) {zs : List Int} {k : Nat} {z : Int} (h : zs[k]? = some z) : part l zs (k + 1) = part l zs k ++ encI z := by
  unfold part
  rw [take_snoc_of h, encs_append, encs_one, List.append_assoc, List.append_assoc]
theorem part_end (l : List UInt8) (zs : List Int) : part l zs zs.length = l ++ encL zs := by
  unfold part encL; rw [List.take_length]
theorem part_len {l : List UInt8} {zs : List Int} (h : zs.length ≤ 4000) (hl : l.length ≤ 50000) (hi : allI zs) (k : Nat) : (part l zs k).length ≤ 90010 := by
  have h1 := encI_ten (len_isI (n := zs.length) (by omega))
  have h2 := encs_ten (hi.take k)
  have h3 : (zs.take k).length ≤ zs.length := by rw [List.length_take]; omega
  unfold part; simp only [List.length_append]; omega

def Pl (B : Nat) (w : World) (l : List UInt8) (zs : List Int) (v i : Value) (wr : World) : Prop :=
  ∃ k : Nat, k ≤ zs.length ∧ i = .int .i64 (k : Int) ∧ OwnY B wr v (part l zs k) ∧ Below B w wr
set_option maxHeartbeats 800000 in
theorem wire_PutList (v : Value) (l : List UInt8) (A' : Option Addr) (c' : Nat) (zs : List Int) (w : World) (hv : InY w v l) (hl : l.length ≤ 50000) (hz : Its w A' zs) (hi : allI zs) (hlz : zs.length ≤ 4000) :
    Calls Try.prog 16 #[v, .slice A' zs.length c'] w (Puts w (l ++ encL zs)) := by
  obtain ⟨A, c, rfl, hc, _, hb⟩ := hv
  have HB := Lib.hid hb
  have HZ := Lib.hid hz
  have HA := Lib.hid hi
  have HI : Hid (isI (zs.length : Int)) := len_isI (by omega)
  obtain ⟨N, hN⟩ : ∃ N, N = zs.length := ⟨_, rfl⟩
  have HN := Lib.hid hN
  have HP := fun k => Lib.hid (part_len hlz hl hi k)
  rw [← hN] at hlz HI ⊢
  clear hb hz hi hN
  go_enter Try.func16, Try.ntmps16
  go_wp2_with fail
  refine (wire_room A l.length c hc w (by omega)).mono ?_
  rintro e w1 ⟨rfl, rfl⟩
  go_wp2_with fail
  refine (wire_appendInt w.heap.size _ l N w HI.out (Or.inl ⟨A, rfl, HB.out⟩) (Nat.le_refl _) (by omega)).mono ?_
  rintro e w1 ⟨v', rfl, ho, hbel⟩
  have HO := Lib.hid ho
  have HBL := Lib.hid hbel
  clear ho hbel
  go_wp2_with fail
  go_loopw [0, 14] (Pl w.heap.size w l zs) (fun _ i _ => N - (intOf i).toNat)
  case atStart => exact ⟨0, Nat.zero_le _, rfl, by rw [part_zero, ← HN.out]; exact HO.out, HBL.out⟩
  case round =>
    obtain ⟨k, hk, rfl, ho2, hb2⟩ := hrel
    have HO2 := Lib.hid ho2
    have HB2 := Lib.hid hb2
    have HBR : Hid (w.heap.size ≤ wr.heap.size) := hb2.size
    rw [← HN.out] at hk
    clear ho2 hb2
    rcases Nat.lt_or_ge k N with hlt | hge
    · obtain ⟨z, hz⟩ := get_lt (L := zs) (k := k) (by rw [← HN.out]; exact hlt)
      obtain ⟨b, off, rfl, hb, hcell⟩ := (HZ.out.on HB2.out) k z hz
      have HZI := Lib.hid (HA.out.at hz)
      have HNX := Lib.hid (part_next l hz)
      clear hz
      go_wp2_with fail
      refine (wire_appendInt w.heap.size _ _ z _ HZI.out (Or.inr HO2.out) HBR.out (by have := (HP k).out; omega)).mono ?_
      rintro e w2 ⟨v2, rfl, ho, hbel⟩
      have HO3 := Lib.hid ho
      have HB3 := Lib.hid hbel
      clear ho hbel hcell
      go_wp2_with fail
      go_roundw
      case rel => exact ⟨k + 1, by rw [← HN.out]; omega, by go_num, by rw [HNX.out]; exact HO3.out, HB2.out.trans HB3.out⟩
      case measure => simp [intOf]; omega
    · obtain rfl : k = N := by omega
      go_wp2_with fail
      go_ret
      exact ⟨_, rfl, by rw [← part_end, ← HN.out]; exact HO2.out, HB2.out⟩
set_option maxHeartbeats 800000 in
theorem ref_PutList (v : Value) (l : List UInt8) (A' : Option Addr) (c' : Nat) (zs : List Int) (w : World) (hv : InY w v l) (hl : l.length ≤ 50000) (hz : Its w A' zs) (hi : allI zs) (hlz : zs.length ≤ 4000) :
    Calls Try.prog 17 #[v, .slice A' zs.length c'] w (Puts w (l ++ encL zs)) := by
  have HV := Lib.hid hv
  have HZ := Lib.hid hz
  have HA := Lib.hid hi
  have HI : Hid (isI (zs.length : Int)) := len_isI (by omega)
  obtain ⟨N, hN⟩ : ∃ N, N = zs.length := ⟨_, rfl⟩
  have HN := Lib.hid hN
  have HP := fun k => Lib.hid (part_len hlz hl hi k)
  rw [← hN] at hlz HI ⊢
  clear hv hz hi hN
  go_enter Try.func17, Try.ntmps17
  go_wp2_with fail
  refine (ref_PutInt v l N w HI.out HV.out (by omega)).mono ?_
  rintro e w1 ⟨v', rfl, ho, hbel⟩
  have HO := Lib.hid ho
  have HBL := Lib.hid hbel
  clear ho hbel
  go_wp2_with fail
  go_loopw [5, 6] (Pl w.heap.size w l zs) (fun _ i _ => N - (intOf i).toNat)
  case atStart => exact ⟨0, Nat.zero_le _, rfl, by rw [part_zero, ← HN.out]; exact HO.out, HBL.out⟩
  case round =>
    obtain ⟨k, hk, rfl, ho2, hb2⟩ := hrel
    have HO2 := Lib.hid ho2
    have HB2 := Lib.hid hb2
    have HBR : Hid (w.heap.size ≤ wr.heap.size) := hb2.size
    rw [← HN.out] at hk
    clear ho2 hb2
    rcases Nat.lt_or_ge k N with hlt | hge
    · obtain ⟨z, hz⟩ := get_lt (L := zs) (k := k) (by rw [← HN.out]; exact hlt)
      obtain ⟨b, off, rfl, hb, hcell⟩ := (HZ.out.on HB2.out) k z hz
      have HZI := Lib.hid (HA.out.at hz)
      have HNX := Lib.hid (part_next l hz)
      clear hz
      go_wp2_with fail
      refine (ref_PutInt _ _ z _ HZI.out HO2.out.inY (by have := (HP k).out; omega)).mono ?_
      rintro e w2 ⟨v2, rfl, ho, hbel⟩
      have HO3 := Lib.hid (ho.base HBR.out)
      have HB3 := Lib.hid (hbel.mono HBR.out)
      clear ho hbel hcell
      go_wp2_with fail
      go_roundw
      case rel => exact ⟨k + 1, by rw [← HN.out]; omega, by go_num, by rw [HNX.out]; exact HO3.out, HB2.out.trans HB3.out⟩
      case measure => simp [intOf]; omega
    · obtain rfl : k = N := by omega
      go_wp2_with fail
      go_ret
      exact ⟨_, rfl, by rw [← part_end, ← HN.out]; exact HO2.out, HB2.out⟩
#print axioms wire_PutList
#print axioms ref_PutList
end Go.Proofs.Ythcbkjdjkmnbiaa.Wire
