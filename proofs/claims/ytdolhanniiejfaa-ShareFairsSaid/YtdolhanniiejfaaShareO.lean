/- The walks of ShareFairs and ShareOrder. -/
import Derived.Test.YtdolhanniiejfaaShareN
namespace Go.Proofs.Ytdolhanniiejfaa.Share
open Go.ChangeShapes Go.WideShapes Go.RowKit Go.Lib Go.Proofs.Ytdolhanniiejfaa.Mem
set_option linter.unusedVariables false
set_option maxRecDepth 100000

theorem fairB_split {t : Int} {ws : List Int} (h : errS t ws = 0) : fairB (splL t ws) ws = true := by
  have e := splL_sum h
  have ok : FairOk (splL t ws) ws := ⟨splL_len h, splL_pos, by rw [e]; exact (Ok.of h).t1⟩
  rw [fairB_in ok, e, h]
  simp
theorem splL_le {t : Int} {ws : List Int} (h : errS t ws = 0) {i : Nat} {z : Int} (hz : (splL t ws)[i]? = some z) : 0 ≤ z ∧ z ≤ 1125899906842624 := by
  refine ⟨splL_pos z (List.mem_of_getElem? hz), ?_⟩
  have ok := Ok.of h
  have e : splL t ws = lst (fun i => (part t.toNat (wf ws) ws.length i : Int)) ws.length := by unfold splL; rw [if_pos h]; rfl
  rw [e] at hz
  have hi : i < ws.length := by have := lt_of_get hz; rwa [lst_len] at this
  rw [lst_at _ hi] at hz
  cases hz
  have h1 := ok.part_le hi
  have h2 := ok.t1
  have hm : mx = 1125899906842624 := rfl
  omega

set_option maxHeartbeats 3200000 in
theorem walk_ShareFairs (w : World) (A : Option Addr) (n c : Nat) (ps : List Int) (h : InInts .i64 w A n c ps) (B : Option Addr) (m d : Nat) (ws : List Int) (k : InInts .i64 w B m d ws) (t : Int) :
    Calls Try.prog 5 #[.slice A n c, .slice B m d, .int .i64 t] w fun e w' => e = .returned (.bool true) ∧ Below w.heap.size w w' := by
  obtain ⟨hcl, hn, hl⟩ := in_cl h
  obtain ⟨kcl, km, kl⟩ := in_cl k
  by_cases hbig : 60 < n ∨ 60 < m
  · clear h k hcl kcl hn km
    by_cases h1 : 60 < n
    · have i1 : (60 : Int) < (n : Int) := by omega
      go_enter Try.func5, Try.ntmps5
      go_wp2_with fail
      refine (awake_true _).mono ?_
      rintro e w1 ⟨rfl, hb⟩
      have HB := Lib.hid hb
      clear hb
      go_wp2_with fail
      go_ret
      exact ⟨rfl, HB.out⟩
    · have i1 : ¬ (60 : Int) < (n : Int) := by omega
      have i2 : (60 : Int) < (m : Int) := by omega
      have i3 : 60 < m := by omega
      go_enter Try.func5, Try.ntmps5
      go_wp2_with fail
      refine (awake_true _).mono ?_
      rintro e w1 ⟨rfl, hb⟩
      have HB := Lib.hid hb
      clear hb
      go_wp2_with fail
      go_ret
      exact ⟨rfl, HB.out⟩
  · have HA := Lib.hid hcl
    have HBB := Lib.hid kcl
    have HN := Lib.hid hn
    have HM := Lib.hid km
    have i1 : ¬ (60 : Int) < (n : Int) := by omega
    have i2 : ¬ (60 : Int) < (m : Int) := by omega
    have i3 : ¬ 60 < n := by omega
    have i4 : ¬ 60 < m := by omega
    obtain ⟨f, hf⟩ : ∃ f, f = fairB ps ws := ⟨_, rfl⟩
    have HF1 := Lib.hid (share_fair ps ws n m hn km A B c d w hcl kcl hl kl)
    have HF2 := Lib.hid (fun W (hW : Below w.heap.size w W) => ref_fair ps ws n m hn km A B c d W (hcl.on hW) (kcl.on hW) hl kl)
    have HG1 := Lib.hid (fun W (hW : Below w.heap.size w W) (C : Option Addr) (L : List Int) (q cc : Nat) (hL : L.length = q) (hC : Cl eI W C L) (hq : q ≤ 9223372036854775807) => share_fair L ws q m hL km C B cc d W hC (kcl.on hW) hq kl)
    have HG2 := Lib.hid (fun W (hW : Below w.heap.size w W) (C : Option Addr) (L : List Int) (q cc : Nat) (hL : L.length = q) (hC : Cl eI W C L) (hq : q ≤ 9223372036854775807) => ref_fair L ws q m hL km C B cc d W hC (kcl.on hW) hq kl)
    have HSP := Lib.hid (fun W (hW : Below w.heap.size w W) => split_n t ws m km B d W (kcl.on hW) kl)
    rw [← hf] at HF1 HF2
    have hff : (f != f) = false := by simp
    have hff2 : (f == f) = true := by simp
    clear h k hcl kcl hn km hbig hf
    go_enter Try.func5, Try.ntmps5
    go_wp2_with fail
    refine HF1.out.mono ?_
    rintro e w1 ⟨rfl, hb1⟩
    have HB1 := Lib.hid hb1
    clear hb1
    go_wp2_with fail
    refine (HF2.out w1 HB1.out).mono ?_
    rintro e w2 ⟨rfl, hb2⟩
    have HB2 : Hid (Below w.heap.size w w2) := bstep HB1.out hb2
    clear hb2
    have HSP2 := Lib.hid (HSP.out w2 HB2.out)
    by_cases hE : errS t ws = 0
    · rw [hE] at HSP2
      have HE := Lib.hid hE
      have HFS := Lib.hid (fairB_split hE)
      have hz0 : ((0 : Nat) : Int) = 0 := rfl
      obtain ⟨L, hL⟩ : ∃ L, L = splL t ws := ⟨_, rfl⟩
      have HLL := Lib.hid (show L.length = m ∧ 0 < m by rw [hL, splL_len hE, ← HM.out]; exact ⟨rfl, (Ok.of hE).n0⟩)
      have HZ := Lib.hid (show ∀ z, L[0]? = some z → 0 ≤ z ∧ z ≤ 1125899906842624 from fun z hz => splL_le hE (hL ▸ hz))
      rw [← hL] at HSP2 HFS
      clear hE hL
      go_wp2_with fail
      refine HSP2.out.mono ?_
      intro e w3 hr
      obtain ⟨A3, n3, c3, rfl, hn3, hl3, ho3, hc3, hb3⟩ := hr.open_
      obtain rfl : m = n3 := HLL.out.1.symm.trans hn3
      obtain ⟨g, cap, e3, hg0, hg1, hg2⟩ := ho3.blk (by rw [HLL.out.1]; exact HLL.out.2)
      obtain rfl : A3 = some ⟨g, 0, none⟩ := (Value.slice.inj e3).1
      have HO3 := Lib.hid ho3
      have HB3 : Hid (Below w.heap.size w w3) := bstep HB2.out hb3
      have HC3 := Lib.hid hc3
      have hG3 := HG1.out w3 HB3.out (some ⟨g, 0, none⟩) L m c3 HLL.out.1 hc3 kl
      rw [HFS.out] at hG3
      have HG3 := Lib.hid hG3
      have HGG := Lib.hid (show w.heap.size ≤ g from Nat.le_trans HB2.out.size hg0)
      clear hr hn3 hl3 ho3 hc3 hb3 e3 hg0 hg1 hg2 hG3
      rw [hz0]
      clear hz0
      go_wp2_with fail
      refine HG3.out.mono ?_
      rintro e w4 ⟨rfl, hb4⟩
      have HO4 := Lib.hid (HO3.out.on hb4)
      have HB4 : Hid (Below w.heap.size w w4) := bstep HB3.out hb4
      clear hb4
      obtain ⟨z, hz⟩ := get_lt (L := L) (k := 0) (by rw [HLL.out.1]; exact HLL.out.2)
      have cz := HO4.out.cell hz
      have fz := HO4.out.warm HLL.out.1.symm 0
      obtain ⟨z0, z1⟩ := HZ.out z hz
      obtain ⟨z', hz'⟩ : ∃ x, x = z + 1 := ⟨_, rfl⟩
      have hw : IntKind.i64.wrap (z + 1) = z' := by rw [wrap_id (by omega)]; omega
      have i5 : (0 : Int) < (m : Int) := by have := HLL.out; omega
      have i6 : 0 < m := HLL.out.2
      have HS : Hid (Own eI 3 w2.heap.size (w4.setCell ⟨g, 0, none⟩ (.int .i64 z')) (.slice (some ⟨g, 0, none⟩) m c3) (L.set 0 z')) := HO4.out.set HLL.out.1.symm 0 z'
      have HBS : Hid (Below w.heap.size w (w4.setCell ⟨g, 0, none⟩ (.int .i64 z'))) := below_set HB4.out (p := ⟨g, 0, none⟩) HGG.out _
      have HLS : Hid ((L.set 0 z').length = m) := List.length_set.trans HLL.out.1
      clear hz z0 z1 hz'
      go_upto_region 12 with fail
      obtain ⟨w5, hw5⟩ : ∃ W, w4.setCell ⟨g, 0, none⟩ (.int .i64 z') = W := ⟨_, rfl⟩
      obtain ⟨L5, hL5⟩ : ∃ L5, L5 = L.set 0 z' := ⟨_, rfl⟩
      rw [hw5] at HS HBS ⊢
      rw [← hL5] at HS HLS
      have HG5 := Lib.hid (HG1.out w5 HBS.out (some ⟨g, 0, none⟩) L5 m c3 HLS.out HS.out.cl kl)
      have HG6 := Lib.hid (fun W (hW : Below w5.heap.size w5 W) => HG2.out W (bstep HBS.out hW) (some ⟨g, 0, none⟩) L5 m c3 HLS.out (HS.out.on hW).cl kl)
      obtain ⟨f5, hf5⟩ : ∃ f, f = fairB L5 ws := ⟨_, rfl⟩
      rw [← hf5] at HG5 HG6
      have hff5 : (f5 == f5) = true := by simp
      clear hw5 hL5 hf5 cz fz hw
      go_wp2_with fail
      refine HG5.out.mono ?_
      rintro e w6 ⟨rfl, hb6⟩
      have HB6 := Lib.hid hb6
      clear hb6
      go_wp2_with fail
      refine (HG6.out w6 HB6.out).mono ?_
      rintro e w7 ⟨rfl, hb7⟩
      have HB7 : Hid (Below w.heap.size w w7) := bstep HBS.out (bstep HB6.out hb7)
      clear hb7
      go_wp2_with fail
      refine (awake_true _).mono ?_
      rintro e w8 ⟨rfl, hb8⟩
      have HB8 := Lib.hid hb8
      clear hb8
      go_wp2_with fail
      go_ret
      exact ⟨rfl, bstep HB7.out HB8.out⟩
    · obtain ⟨E, hEE⟩ : ∃ E, E = errS t ws := ⟨_, rfl⟩
      have hE1 : ((E : Int) != 0) = true := by simp; omega
      have hE3 : ¬ (E : Int) = 0 := by omega
      rw [← hEE] at HSP2
      clear hE hEE
      go_wp2_with fail
      refine HSP2.out.mono ?_
      intro e w3 hr
      obtain ⟨A3, n3, c3, rfl, hn3, hl3, -, -, hb3⟩ := hr.open_
      have HB3 : Hid (Below w.heap.size w w3) := bstep HB2.out hb3
      clear hr hn3 hl3 hb3
      go_wp2_with fail
      refine (awake_true _).mono ?_
      rintro e w8 ⟨rfl, hb8⟩
      have HB8 := Lib.hid hb8
      clear hb8
      go_wp2_with fail
      go_ret
      exact ⟨rfl, bstep HB3.out HB8.out⟩
#print axioms walk_ShareFairs
end Go.Proofs.Ytdolhanniiejfaa.Share
