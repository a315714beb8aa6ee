/- Contracts of All of the program and of the reference. -/
import Derived.Test.YtahgkohnamnljaaDoorCrcH
import Derived.Test.YtahgkohnamnljaaDoorCrcD
namespace Go.Proofs.YtahgkohnamnljaaDoor.Crc
open Go.ChangeShapes Go.WideShapes Go.RowKit
open Wire (Byt InY OwnY below_alloc lt_get bstep get_lt ret_int ret_bool wrap_id byte_of slice_from)
set_option linter.unusedVariables false
set_option maxRecDepth 100000

def ARes (t : AR) (w : World) (e : Ending) (w' : World) : Prop := ∃ v, e = .returned (.tuple #[v, .int .i64 (t.k : Int)]) ∧ OwnG w.heap.size w' v t.l ∧ Below w.heap.size w w'
/-- The rounds of All. -/
def Al (l : List UInt8) (w : World) (v i : Value) (wr : World) : Prop :=
  ∃ (k n : Nat) (M : List (List UInt8)), i = .int .i64 (k : Int) ∧ k ≤ l.length ∧ l.length - k < n ∧ M.length ≤ k ∧ allR l = allF l n k M ∧ OwnG w.heap.size wr v M ∧ Below w.heap.size w wr
theorem bytes_type : Tryd.prog.underlying 37 = some (.slice 22) := Tryd.underlying37
/-- What Open returns, apart from what is owned already. -/
theorem new_apart {B B' : Nat} {w0 w : World} {v : Value} {M : List (List UInt8)} {u : Value} {l : List UInt8} (h : OwnG B w0 v M) (hu : NewY w0.heap.size w u l) :
    ∃ A c, u = .slice A l.length c ∧ l.length ≤ c ∧ c ≤ maxLen ∧ Byt w A l ∧ (∀ a, A = some a → v.ownBlock ≠ some a.block) ∧ ∀ a, A = some a → a.block < w.heap.size := by
  obtain ⟨A, c, e, h1, h2, h3, h4⟩ := hu
  refine ⟨A, c, e, h1, h2, h3, fun a ea e2 => ?_, fun a ea => (h4 a ea).2⟩
  have := h.lt _ e2
  have := (h4 a ea).1
  omega
set_option maxHeartbeats 1600000 in
theorem crc_All (v : Value) (l : List UInt8) (w : World) (hv : InY w v l) (hl : l.length ≤ 1000000) (ht : Tab w) :
    Calls Tryd.prog 22 #[v] w (ARes (allR l) w) := by
  obtain ⟨A, c, rfl, hc, hcm, hb⟩ := hv
  have HB := Lib.hid hb
  have HM := Lib.hid hcm
  have HT := Lib.hid ht
  obtain ⟨N, hN⟩ : ∃ N, N = l.length := ⟨_, rfl⟩
  have HN := Lib.hid hN
  rw [← hN] at hl hc ⊢
  clear hb hcm hN ht
  go_enter Tryd.func22, Tryd.ntmps22
  go_wp2_with fail
  go_loopw [4, 5] (Al l w) (fun _ i _ => N - (intOf i).toNat)
  case atStart => exact ⟨0, l.length + 1, [], rfl, Nat.zero_le _, by omega, Nat.le_refl _, rfl, OwnG.nil _ _, Below.refl _ _⟩
  case round =>
    obtain ⟨k, n, M, rfl, hk, hn, hMk, hR, ho, hbel⟩ := hrel
    have HO := Lib.hid ho
    have HW := Lib.hid hbel
    have HR := Lib.hid hR
    have HBR : Hid (w.heap.size ≤ wr.heap.size) := hbel.size
    rw [← HN.out] at hk hn
    have HN1 := Lib.hid hn
    have HMK := Lib.hid hMk
    obtain ⟨A', c', m, hm, h1, h2, hsl, hby⟩ := slice_from (c := c) (HB.out.on HW.out) (by rw [← HN.out]; exact hc) k (by rw [← HN.out]; exact hk)
    rw [← HN.out] at hsl
    have HI : Hid (InY wr (.slice A' m c') (l.drop k)) := ⟨A', c', by rw [hm], by rw [hm]; exact h1, Nat.le_trans h2 HM.out, hby⟩
    have HL : Hid ((l.drop k).length ≤ 1000000) := show _ ≤ _ by rw [List.length_drop, ← HN.out]; omega
    have HOK := fun h => Lib.hid (open_ok (b := l.drop k) h)
    have HPO := fun h => Lib.hid (open_pos (b := l.drop k) h)
    have HGO := Lib.hid (allF_go l (n := n) k M (by omega))
    have HNO := Lib.hid (allF_no l (n := n) k M (by omega))
    have HC := Lib.hid (crc_Open _ (l.drop k) wr HI.out HL.out (HT.out.on HW.out))
    obtain ⟨t, ht⟩ : ∃ t, openR (l.drop k) = t := ⟨_, rfl⟩
    rw [ht] at HC HOK HPO HGO HNO
    obtain ⟨x, u, e⟩ := t
    simp only at HOK HPO HGO HNO
    clear ho hbel hm h1 h2 hby ht hR hn hMk
    go_wp2_with fail
    refine HC.out.mono ?_
    rintro e1 w1 ⟨v1, rfl, hny, hb1⟩
    have HY := Lib.hid hny
    have HB1 := Lib.hid (HW.out.trans (hb1.mono HBR.out))
    have HO1 := Lib.hid (HO.out.on hb1)
    by_cases he : e = 0
    · subst he
      obtain ⟨A1, c1, rfl, hc1, hc1m, hby1, hap, hlt⟩ := new_apart (B' := 0) HO.out hny
      have HB2 := Lib.hid hby1
      have HAP := Lib.hid hap
      have HLT := Lib.hid hlt
      have HK1 := Lib.hid (((HOK rfl).out).1)
      have HPO1 := HPO rfl
      obtain ⟨L, hL⟩ : ∃ L, L = x.length := ⟨_, rfl⟩
      have HLL := Lib.hid hL
      rw [← hL] at hc1 ⊢
      have hu : k + u ≤ N := by
        have := HK1.out
        rw [List.length_drop, ← HN.out] at this; omega
      obtain ⟨E, hE⟩ : ∃ E : Int, E = ((k + u : Nat) : Int) := ⟨_, rfl⟩
      have hE1 : (k : Int) + (u : Int) = E := by omega
      have hE2 : IntKind.i64.wrap E = E := wrap_id (by omega) (by omega)
      have HE := Lib.hid hE
      have HU := Lib.hid hu
      clear hny hb1 hap hlt hby1 hL hE hu HPO HOK
      go_wp2_with (at_builtin; refine append_bytes 37 bytes_type rfl _ _ rfl w.heap.size u4 M rfl (HO1.out.alloc _) w1.heap.size 1 A1 x L c1 HLL.out rfl (sl_one _ _ _ _ _ rfl) (by rw [← HLL.out]; exact hc1) hc1m (HB2.out.on (below_alloc _ _)) HAP.out (fun a ha => Nat.lt_of_lt_of_le (HLT.out a ha) (below_alloc _ _).size) (by have := HMK.out; have := HPO1.out; have := HU.out; omega) (Nat.le_trans HB1.out.size (below_alloc _ _).size) ?_; intro v2 w2 hown2 hb2; refine Hid.out ?_)
      refine Lib.hid ?_
      have HO2 := Lib.hid hown2
      have HB3 := Lib.hid (HB1.out.trans (((below_alloc w1 _).mono HB1.out.size).trans hb2))
      clear hown2 hb2
      go_wp2_with fail
      go_roundw
      case rel => exact ⟨k + u, n - 1, M ++ [x], by rw [HE.out], by rw [← HN.out]; exact HU.out, by rw [← HN.out]; have := HPO1.out; have := HN1.out; have := HU.out; omega, by rw [List.length_append, List.length_singleton]; have := HMK.out; have := HPO1.out; omega, by rw [HR.out, HGO.out trivial], HO2.out, HB3.out⟩
      case measure => simp [intOf]; have := HPO1.out; have := HU.out; have := HE.out; omega
    · have he0 : (e == 0) = false := by simpa using he
      have HF : Hid (allR l = ⟨M, k⟩) := show _ = _ by rw [HR.out, HNO.out he]
      clear he hny hb1 HOK HPO
      go_wp2_with fail
      go_ret2
      exact ⟨_, by rw [HF.out] <;> rfl, by rw [HF.out]; exact HO1.out, HB1.out⟩
set_option maxHeartbeats 1600000 in
theorem ref_All (v : Value) (l : List UInt8) (w : World) (hv : InY w v l) (hl : l.length ≤ 1000000) :
    Calls Tryd.prog 23 #[v] w (ARes (allR l) w) := by
  obtain ⟨A, c, rfl, hc, hcm, hb⟩ := hv
  have HB := Lib.hid hb
  have HM := Lib.hid hcm
  obtain ⟨N, hN⟩ : ∃ N, N = l.length := ⟨_, rfl⟩
  have HN := Lib.hid hN
  rw [← hN] at hl hc ⊢
  clear hb hcm hN
  go_enter Tryd.func23, Tryd.ntmps23
  go_wp2_with fail
  go_loopw [4, 5] (Al l w) (fun _ i _ => N - (intOf i).toNat)
  case atStart => exact ⟨0, l.length + 1, [], rfl, Nat.zero_le _, by omega, Nat.le_refl _, rfl, OwnG.nil _ _, Below.refl _ _⟩
  case round =>
    obtain ⟨k, n, M, rfl, hk, hn, hMk, hR, ho, hbel⟩ := hrel
    have HO := Lib.hid ho
    have HW := Lib.hid hbel
    have HR := Lib.hid hR
    have HBR : Hid (w.heap.size ≤ wr.heap.size) := hbel.size
    rw [← HN.out] at hk hn
    have HN1 := Lib.hid hn
    have HMK := Lib.hid hMk
    obtain ⟨A', c', m, hm, h1, h2, hsl, hby⟩ := slice_from (c := c) (HB.out.on HW.out) (by rw [← HN.out]; exact hc) k (by rw [← HN.out]; exact hk)
    rw [← HN.out] at hsl
    have HI : Hid (InY wr (.slice A' m c') (l.drop k)) := ⟨A', c', by rw [hm], by rw [hm]; exact h1, Nat.le_trans h2 HM.out, hby⟩
    have HL : Hid ((l.drop k).length ≤ 1000000) := show _ ≤ _ by rw [List.length_drop, ← HN.out]; omega
    have HOK := fun h => Lib.hid (open_ok (b := l.drop k) h)
    have HPO := fun h => Lib.hid (open_pos (b := l.drop k) h)
    have HGO := Lib.hid (allF_go l (n := n) k M (by omega))
    have HNO := Lib.hid (allF_no l (n := n) k M (by omega))
    have HC := Lib.hid (ref_Open _ (l.drop k) wr HI.out HL.out)
    obtain ⟨t, ht⟩ : ∃ t, openR (l.drop k) = t := ⟨_, rfl⟩
    rw [ht] at HC HOK HPO HGO HNO
    obtain ⟨x, u, e⟩ := t
    simp only at HOK HPO HGO HNO
    clear ho hbel hm h1 h2 hby ht hR hn hMk
    go_wp2_with fail
    refine HC.out.mono ?_
    rintro e1 w1 ⟨v1, rfl, hny, hb1⟩
    have HY := Lib.hid hny
    have HB1 := Lib.hid (HW.out.trans (hb1.mono HBR.out))
    have HO1 := Lib.hid (HO.out.on hb1)
    by_cases he : e = 0
    · subst he
      obtain ⟨A1, c1, rfl, hc1, hc1m, hby1, hap, hlt⟩ := new_apart (B' := 0) HO.out hny
      have HB2 := Lib.hid hby1
      have HAP := Lib.hid hap
      have HLT := Lib.hid hlt
      have HK1 := Lib.hid (((HOK rfl).out).1)
      have HPO1 := HPO rfl
      obtain ⟨L, hL⟩ : ∃ L, L = x.length := ⟨_, rfl⟩
      have HLL := Lib.hid hL
      rw [← hL] at hc1 ⊢
      have hu : k + u ≤ N := by
        have := HK1.out
        rw [List.length_drop, ← HN.out] at this; omega
      obtain ⟨E, hE⟩ : ∃ E : Int, E = ((k + u : Nat) : Int) := ⟨_, rfl⟩
      have hE1 : (k : Int) + (u : Int) = E := by omega
      have hE2 : IntKind.i64.wrap E = E := wrap_id (by omega) (by omega)
      have HE := Lib.hid hE
      have HU := Lib.hid hu
      clear hny hb1 hap hlt hby1 hL hE hu HPO HOK
      go_wp2_with (at_builtin; refine append_bytes 37 bytes_type rfl _ _ rfl w.heap.size u4 M rfl (HO1.out.alloc _) w1.heap.size 1 A1 x L c1 HLL.out rfl (sl_one _ _ _ _ _ rfl) (by rw [← HLL.out]; exact hc1) hc1m (HB2.out.on (below_alloc _ _)) HAP.out (fun a ha => Nat.lt_of_lt_of_le (HLT.out a ha) (below_alloc _ _).size) (by have := HMK.out; have := HPO1.out; have := HU.out; omega) (Nat.le_trans HB1.out.size (below_alloc _ _).size) ?_; intro v2 w2 hown2 hb2; refine Hid.out ?_)
      refine Lib.hid ?_
      have HO2 := Lib.hid hown2
      have HB3 := Lib.hid (HB1.out.trans (((below_alloc w1 _).mono HB1.out.size).trans hb2))
      clear hown2 hb2
      go_wp2_with fail
      go_roundw
      case rel => exact ⟨k + u, n - 1, M ++ [x], by rw [HE.out], by rw [← HN.out]; exact HU.out, by rw [← HN.out]; have := HPO1.out; have := HN1.out; have := HU.out; omega, by rw [List.length_append, List.length_singleton]; have := HMK.out; have := HPO1.out; omega, by rw [HR.out, HGO.out trivial], HO2.out, HB3.out⟩
      case measure => simp [intOf]; have := HPO1.out; have := HU.out; have := HE.out; omega
    · have he0 : (e == 0) = false := by simpa using he
      have HF : Hid (allR l = ⟨M, k⟩) := show _ = _ by rw [HR.out, HNO.out he]
      clear he hny hb1 HOK HPO
      go_wp2_with fail
      go_ret2
      exact ⟨_, by rw [HF.out] <;> rfl, by rw [HF.out]; exact HO1.out, HB1.out⟩
#print axioms crc_All
#print axioms ref_All
end Go.Proofs.YtahgkohnamnljaaDoor.Crc
