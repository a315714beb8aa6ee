/- Contract of nat.Gcd out of that of gcd; Same at opaque slices; 'awake'. -/
import Derived.Test.YtmbpcjnlniidkaaDoorNatN
namespace Go.Proofs.YtmbpcjnlniidkaaDoor
open Go.ChangeShapes Go.WideShapes Go.RowKit
set_option linter.unusedVariables false

def gcdN (xs ys : List Int) : Nat := if both xs ys then Nat.gcd (nval xs).toNat (nval ys).toNat else 0

set_option maxHeartbeats 1600000 in
theorem Gcd_of (xs ys : List Int) (va vb : Value) (w : World) (ha : In w va xs) (hb : In w vb ys)
    (hgcd : validB xs = true → validB ys = true → Calls Tryd.prog 55 #[va, vb] w (GcdRes w (Nat.gcd (nval xs).toNat (nval ys).toNat))) :
    Calls Tryd.prog 35 #[va, vb] w (Res w (gcdN xs ys) (formE xs ys)) := by
  obtain ⟨A, c, rfl, hc, hm, hA⟩ := ha
  obtain ⟨B, d, rfl, hd, hn, hB⟩ := hb
  have HA := Lib.hid hA
  have HB := Lib.hid hB
  have HG := Lib.hid hgcd
  have hm1 : xs.length ≤ 9223372036854775807 := Nat.le_trans hc hm
  have hm2 : ys.length ≤ 9223372036854775807 := Nat.le_trans hd hn
  clear hA hB hm hn hgcd
  rcases both_cases xs ys with ⟨hx, hbo⟩ | ⟨hx, hy, hbo⟩ | ⟨hx, hy, hbo⟩
  · have HBO := Lib.hid hbo
    clear hbo
    go_enter Tryd.func35, Tryd.ntmps35
    go_wp2_with fail
    refine (nat_Valid xs A c _ _ w HA.out hm1).mono ?_
    rintro e w' ⟨rfl, rfl⟩
    go_wp2_with fail
    go_ret2
    exact Res.none (by rw [gcdN, HBO.out]; rfl) (by rw [formE, HBO.out]; rfl) rfl (Below.refl _ _)
  · have HBO := Lib.hid hbo
    clear hbo
    go_enter Tryd.func35, Tryd.ntmps35
    go_wp2_with fail
    refine (nat_Valid xs A c _ _ w HA.out hm1).mono ?_
    rintro e w' ⟨rfl, rfl⟩
    go_wp2_with fail
    refine (nat_Valid ys B d _ _ _ HB.out hm2).mono ?_
    rintro e w' ⟨rfl, rfl⟩
    go_wp2_with fail
    go_ret2
    exact Res.none (by rw [gcdN, HBO.out]; rfl) (by rw [formE, HBO.out]; rfl) rfl (Below.refl _ _)
  · have HBO := Lib.hid hbo
    have HCALL := Lib.hid (HG.out hx hy)
    clear hbo
    go_enter Tryd.func35, Tryd.ntmps35
    go_wp2_with fail
    refine (nat_Valid xs A c _ _ w HA.out hm1).mono ?_
    rintro e w' ⟨rfl, rfl⟩
    go_wp2_with fail
    refine (nat_Valid ys B d _ _ _ HB.out hm2).mono ?_
    rintro e w' ⟨rfl, rfl⟩
    go_wp2_with fail
    refine HCALL.out.mono ?_
    rintro e w' ⟨v, rfl, hs, hb⟩
    have HS := Lib.hid hs
    have HBL := Lib.hid hb
    clear hs hb
    go_wp2_with fail
    go_ret2
    exact ⟨v, by rw [formE, HBO.out]; rfl, by rw [gcdN, HBO.out]; exact HS.out, HBL.out⟩

theorem same_in (xs ys : List Int) (va vb : Value) (w : World) (ha : In w va xs) (hb : In w vb ys) :
    Calls Tryd.prog 24 #[va, vb] w fun e w' => e = .returned (.bool (decide (xs = ys))) ∧ Below w.heap.size w w' := by
  obtain ⟨A, c, rfl, hc, hm, hA⟩ := ha
  obtain ⟨B, d, rfl, hd, hn, hB⟩ := hb
  exact ref_Same xs ys A B c d _ _ _ _ w hA hB (Nat.le_refl _) (Nat.le_refl _) (Nat.le_trans hc hm) (Nat.le_trans hd hn)
theorem in_built (w : World) (t : TypeId) (zs : List Int) (hz : zs.length ≤ 1000) : In (w.alloc (.cells (zs.map (Value.int .i64)).toArray t)) (.slice (some ⟨w.heap.size, 0, none⟩) zs.length zs.length) zs := by
  refine ⟨_, _, rfl, Nat.le_refl _, by unfold maxLen; omega, ?_⟩
  have hr : Row (w.alloc (.cells (zs.map (Value.int .i64)).toArray t)) w.heap.size zs := row_of_heap (heap_alloc_new w _)
  exact hr.holds (fun k z hk => by rw [Nat.zero_add]; exact hk) (Nat.zero_le _) hr.lt
theorem below_alloc (w : World) (o : Obj) : Below w.heap.size w (w.alloc o) := (Below.refl _ _).alloc (Nat.le_refl _) _
theorem divide_short (xs ys : List Int) (va vb : Value) (w : World) (ha : In w va xs) (hb : In w vb ys) (hx : nrm xs = true) (hy : nrm ys = true) (hl2 : xs.length ≤ 2) (hp : 0 < ys.length) :
    Calls Tryd.prog 53 #[va, vb] w (DivRes w xs ys) := by
  rcases Nat.lt_or_ge xs.length ys.length with h | h
  · exact divide_less xs ys va vb w ha hb hx hy (by omega) h
  · exact divide_two xs ys va vb w ha hb hx hy hl2 hp h
theorem aw1 : limbs (1000000007 : Int).toNat = [7, 1] := by
  show limbs 1000000007 = _
  rw [limbs_pos (by decide), limbs_pos (by decide), limbs]; rfl
theorem aw2 : mulV [7, 1] [3] = 3000000021 := by decide +kernel
theorem aw3 : mulE [7, 1] [3] = 0 := by decide +kernel
theorem aw2' : limbs 3000000021 = [21, 3] := by
  rw [limbs_pos (by decide), limbs_pos (by decide), limbs]; rfl
theorem aw4 : quoN [21, 3] [4] = 750000005 := by decide +kernel
theorem aw5 : remN [21, 3] [4] = 1 := by decide +kernel
theorem aw6 : divE [21, 3] [4] = 0 := by decide +kernel
theorem aw4' : limbs 750000005 = [750000005] := by rw [limbs_pos (by decide), limbs]; rfl
theorem aw5' : limbs 1 = [1] := by rw [limbs_pos (by decide), limbs]; rfl
theorem aw7 : gcdN [12] [18] = 6 := by decide +kernel
theorem aw8 : formE [12] [18] = 0 := by decide +kernel
theorem aw7' : limbs 6 = [6] := by rw [limbs_pos (by decide), limbs]; rfl
theorem aw9 : textV [21, 3] = ⟨#[51, 48, 48, 48, 48, 48, 48, 48, 50, 49]⟩ := by
  have e : (nval [21, 3]).toNat = 3000000021 := by decide +kernel
  have v : validB [21, 3] = true := by decide +kernel
  rw [textV, v, e]
  show decS 3000000021 = _
  have h := dec_next (x := 21) (q := 3) (by decide) (by decide)
  have h3 : Lib.decDigits 3 = [51] := by rw [Lib.decDigits_one (by decide)]; rfl
  rw [h3] at h
  have e2 : (21 + 1000000000 * 3) = 3000000021 := by decide
  rw [e2] at h
  unfold decS
  rw [h]; rfl
theorem aw10 : oneE [21, 3] = 0 := by decide +kernel
theorem aw11 : parN [48, 48, 55] = 0 := by decide +kernel
theorem aw12 : parE [48, 48, 55] = 3 := by decide +kernel
#print axioms Gcd_of
#print axioms aw9
#print axioms aw12
end Go.Proofs.YtmbpcjnlniidkaaDoor
