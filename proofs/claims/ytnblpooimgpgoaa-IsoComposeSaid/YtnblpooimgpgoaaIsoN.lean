/- visit: a function is called with the runs of a part. -/
import Derived.Test.YtnblpooimgpgoaaIsoM
namespace Go.Proofs.Ytnblpooimgpgoaa.Iso
open Go.ChangeShapes Go.WideShapes Go.RowKit Go.Lib Go.Proofs.Ytnblpooimgpgoaa.Rw
set_option linter.unusedVariables false
set_option maxRecDepth 100000

/-- A function that is called with runs: what holds of the memory after the runs D; its blocks. -/
structure Vis (fn : Nat) (ba ca : Array Value) (N : Nat) (J : List Rn → (Nat → Prop) → World → Prop) : Prop where
  eg : ∀ args w, (callFunc fn args).run Try.prog w = .ok (.enter fn args) w
  lt : ∀ D S W, J D S W → ∀ y, S y → y < W.heap.size
  keep : ∀ D S W W', J D S W → W.heap.size ≤ W'.heap.size → (∀ y, S y → W'.heap[y]? = W.heap[y]?) → J D S W'
  step : ∀ D S W r, J D S W → D.length < N → (∀ s ∈ D, gd s = true) → gd r = true → Calls Try.prog fn (ba ++ #[.agg #[.int .i64 r.1, .int .i64 r.2.1, .bool r.2.2]] ++ ca) W fun e W' =>
    e = .returned (.tuple #[]) ∧ ∃ S', J (D ++ [r]) S' W' ∧ (∀ y, S' y → S y ∨ W.heap.size ≤ y) ∧ Off S W W'
/-- Blocks of one's own only. -/
def VisP (J : List Rn → (Nat → Prop) → World → Prop) (D : List Rn) (S : Nat → Prop) (w : World) (e : Ending) (w' : World) : Prop :=
  e = .returned (.tuple #[]) ∧ ∃ S', J D S' w' ∧ (∀ y, S' y → S y ∨ w.heap.size ≤ y) ∧ Off S w w'
theorem gd_take {L : List Rn} (h : ∀ r ∈ L, gd r = true) (k : Nat) : ∀ r ∈ L.take k, gd r = true := fun r hr => h r (List.mem_of_mem_take hr)

theorem rd_old {w : World} {A : Option Addr} {L : List Rn} (h : Rns w A L) (k : Nat) (r : Rn) (hr : L[k]? = some r) (b off : Nat) (e : A = some ⟨b, off, none⟩) : b < w.heap.size := by
  obtain ⟨b', off', e', hlt, -⟩ := h k r hr
  rw [e] at e'; cases e'; exact hlt
set_option maxHeartbeats 1600000 in
theorem iso_visit {fn : Nat} {ba ca : Array Value} {J : List Rn → (Nat → Prop) → World → Prop} {S : Nat → Prop} {w : World} (L : List Rn) (hv : Vis fn ba ca L.length J) (h0 : J [] S w) (A : Option Addr) (c : Nat) (ha : Rns w A L) (hA : ∀ (k : Nat) (r : Rn), L[k]? = some r → ∀ (b off : Nat), A = some ⟨b, off, none⟩ → ¬ S b)
    (hg : ∀ r ∈ L, gd r = true) (hm : L.length ≤ 600) (f t : Int) (hf : -big ≤ f ∧ f ≤ big) (ht : -big ≤ t ∧ t ≤ big) :
    Calls Try.prog 47 #[.slice A L.length c, .agg #[.int .i64 f, .int .i64 t], .func (.func fn) ba ca] w (VisP J (pcs L f t) S w) := by
  have HA := Lib.hid ha
  have HNA := Lib.hid hA
  have HV := Lib.hid hv
  have HG := Lib.hid hg
  have HLim := Lib.hid (lenM_lim (fun r hr => gd_lim (hg r hr)) hm)
  have eg := hv.eg
  have HJ0 : Hid (J [] S (w.alloc (.cells #[.int .i64 f, .int .i64 t] 28))) := hv.keep [] S w _ h0 (below_alloc _ _).size fun y hy => (below_alloc w _).block y (hv.lt _ _ _ h0 y hy)
  have HLT : Hid (∀ y, S y → y < w.heap.size) := hv.lt _ _ _ h0
  have HF := Lib.hid hf
  have HT := Lib.hid ht
  clear ha hA hv hg h0 hf ht
  go_enter Try.func47, Try.ntmps47
  go_wp2_with fail
  go_loopw [12, 6] (fun i s wr => ∃ (k : Nat) (S' : Nat → Prop), k ≤ L.length ∧ i = .int .i64 k ∧ s = .int .i64 (lenM (L.take k)) ∧ J (pcs (L.take k) f t) S' wr ∧ (∀ y, S' y → S y ∨ w.heap.size < y) ∧ Off S w wr ∧ Cel wr w.heap.size [.int .i64 f, .int .i64 t]) (fun i s _ => L.length - (intOf i).toNat)
  case atStart => exact ⟨0, S, Nat.zero_le _, rfl, rfl, HJ0.out, fun y hy => Or.inl hy, (Off.refl S w).alloc _, Cel.new _ _ _⟩
  case round =>
    obtain ⟨k, S', hk, rfl, rfl, hj, hs, hoff, hcel⟩ := hrel
    have HJ := Lib.hid hj
    have HS := Lib.hid hs
    have HO := Lib.hid hoff
    have HC := Lib.hid hcel
    clear hj hs hoff hcel
    rcases Nat.lt_or_ge k L.length with hlt | hge
    · obtain ⟨r, hr⟩ := get_lt hlt
      have HR := Lib.hid (HG.out r (List.mem_of_getElem? hr))
      obtain ⟨b, off, hA0, hb, d0, d1, d2⟩ := rd_at (HA.out.off HO.out (HNA.out k r hr)) hr
      subst hA0
      have HTK := Lib.hid (lenM_take hr)
      have HPS := Lib.hid (show pcs (L.take (k + 1)) f t = pcs (L.take k) f t ++ pc r (f - lenM (L.take k)) (t - lenM (L.take k)) by rw [take_snoc_of hr, pcs_snoc])
      have hq0 := HLim.out k
      have hq1 := HLim.out (k + 1)
      rw [lenM_take hr] at hq1
      have hgr := gd_lim HR.out
      obtain ⟨q, hq⟩ : ∃ q, lenM (L.take k) = q := ⟨_, rfl⟩
      rw [hq] at hq0 hq1
      have HQ := Lib.hid hq
      have hfb := HF.out
      have htb := HT.out
      obtain ⟨F, hF⟩ : ∃ F, f - q = F := ⟨_, rfl⟩
      obtain ⟨T, hT⟩ : ∃ T, t - q = T := ⟨_, rfl⟩
      have wF : IntKind.i64.wrap F = F := wrap_id (by unfold big at *; omega)
      have wT : IntKind.i64.wrap T = T := wrap_id (by unfold big at *; omega)
      have wS : IntKind.i64.wrap (q + r.2.1) = q + r.2.1 := wrap_id (by omega)
      have HCl := Lib.hid fun W => iso_clamped F T r.2.1 W
      obtain ⟨x, hx⟩ : ∃ x, clp F r.2.1 = x := ⟨_, rfl⟩
      obtain ⟨y, hy⟩ : ∃ y, clp T r.2.1 = y := ⟨_, rfl⟩
      rw [hx, hy] at HCl
      have hxb : 0 ≤ x ∧ x ≤ r.2.1 := by rw [← hx]; exact clp_le _ _ (by omega)
      have hyb : 0 ≤ y ∧ y ≤ r.2.1 := by rw [← hy]; exact clp_le _ _ (by omega)
      obtain ⟨g1, g2, g3, g4, -, -⟩ := gd_iff.mp HR.out
      have HCu := Lib.hid fun W => iso_cut r.1 r.2.1 r.2.2 x y W (by unfold big; unfold ml at *; omega) (by unfold big; unfold ml at *; omega) (by unfold big; unfold ml at *; omega)
      have HPC : Hid (pc r F T = if x < y then [(imI r.1 r.2.2 x, y - x, r.2.2)] else []) := Lib.hid (by unfold pc; rw [hx, hy])
      have HPS' : Hid (pcs (L.take (k + 1)) f t = pcs (L.take k) f t ++ pc r F T) := Lib.hid (by rw [HPS.out, hq, hF, hT])
      have HGS : Hid (∀ s ∈ pcs (L.take k) f t, gd s = true) := pcs_gd (gd_take HG.out k) f t
      have HLS : Hid ((pcs (L.take k) f t).length < L.length) := by have := pcs_len (L.take k) f t; rw [List.length_take] at this; unfold Hid; omega
      have HLTk : Hid (∀ y, S' y → y < wr.heap.size) := HV.out.lt _ _ _ HJ.out
      have HNS : Hid (¬ S' w.heap.size) := fun hs => by
        rcases HS.out _ hs with h | h
        · exact absurd (HLT.out _ h) (Nat.lt_irrefl _)
        · exact absurd h (Nat.lt_irrefl _)
      rw [hq]
      clear hr hq HPS hq0 hq1 hgr hfb htb hxb hyb hx hy g1 g2 g3 g4
      obtain ⟨c0, c1⟩ := HC.out.two
      have hwl := HC.out.lt
      go_upto_region 5 with fail
      generalize hw1 : wr.alloc (.cells #[.int .i64 r.1, .int .i64 r.2.1, .bool r.2.2] 48) = w1
      have HB1 : Hid (Below wr.heap.size wr w1) := hw1 ▸ below_alloc _ _
      have HR1 : Hid (Cel w1 wr.heap.size [.int .i64 r.1, .int .i64 r.2.1, .bool r.2.2]) := hw1 ▸ Cel.new _ _ _
      have HC1 := Lib.hid (HC.out.on HB1.out)
      clear hw1 c0 c1 d0 d1 d2 hwl
      obtain ⟨c0, c1⟩ := HC1.out.two
      obtain ⟨r0, r1, r2⟩ := HR1.out.three
      go_wp2_with fail
      refine (HCl.out _).mono ?_
      rintro e w2 ⟨rfl, hb2⟩
      have HB2 := Lib.hid hb2
      have HR2 := Lib.hid (HR1.out.on hb2)
      clear hb2 r0 r1 r2 c0 c1
      go_upto_region 6 with fail
      generalize hw3 : w2.alloc (.cells #[.int .i64 x, .int .i64 y] 28) = w3
      have HB3 : Hid (Below wr.heap.size wr w3) := hw3 ▸ bstep (bstep HB1.out HB2.out) (below_alloc _ _)
      have HX3 : Hid (Cel w3 w2.heap.size [.int .i64 x, .int .i64 y]) := hw3 ▸ Cel.new _ _ _
      have HR3 : Hid (Cel w3 wr.heap.size [.int .i64 r.1, .int .i64 r.2.1, .bool r.2.2]) := hw3 ▸ HR2.out.alloc _
      have HC3 : Hid (Cel w3 w.heap.size [.int .i64 f, .int .i64 t]) := HC.out.on HB3.out
      have HJ3 : Hid (J (pcs (L.take k) f t) S' w3) := HV.out.keep _ _ _ _ HJ.out HB3.out.size fun y hy => HB3.out.block y (HLTk.out y hy)
      have HO3 : Hid (Off S w w3) := HO.out.then_below HB3.out
      clear hw3
      obtain ⟨x0, x1⟩ := HX3.out.two
      obtain ⟨r0, r1, r2⟩ := HR3.out.three
      by_cases hxy : x < y
      · have hpc : pc r F T = [(imI r.1 r.2.2 x, y - x, r.2.2)] := HPC.out.trans (if_pos hxy)
        have HPE : Hid (pcs (L.take (k + 1)) f t = pcs (L.take k) f t ++ [(imI r.1 r.2.2 x, y - x, r.2.2)]) := HPS'.out.trans (by rw [hpc])
        have HGP : Hid (gd (imI r.1 r.2.2 x, y - x, r.2.2) = true) := pc_gd (f := F) (t := T) HR.out _ (by rw [hpc]; simp)
        clear hpc
        go_wp2_with fail
        refine (HCu.out _).mono ?_
        rintro e w4 ⟨rfl, hb4⟩
        have HB4 := Lib.hid hb4
        have HB5 : Hid (Below wr.heap.size wr w4) := bstep HB3.out hb4
        have HR4 := Lib.hid (HR3.out.on hb4)
        have HC4 := Lib.hid (HC3.out.on hb4)
        have HJ4 : Hid (J (pcs (L.take k) f t) S' w4) := HV.out.keep _ _ _ _ HJ.out HB5.out.size fun y hy => HB5.out.block y (HLTk.out y hy)
        have HO4 : Hid (Off S w w4) := HO.out.then_below HB5.out
        have HST := Lib.hid (HV.out.step _ S' w4 (imI r.1 r.2.2 x, y - x, r.2.2) HJ4.out HLS.out HGS.out HGP.out)
        clear hb4 x0 x1 r0 r1 r2
        go_wp2_with (go_at_fn fn; refine HST.out.mono ?_; rintro e w5 ⟨rfl, S5, hj5, hs5, ho5⟩; have HJ5 := Lib.hid hj5; have HS5 := Lib.hid hs5; have HO5 := Lib.hid ho5; clear hj5 hs5 ho5; refine Hid.out ?_)
        have HR5 : Hid (Cel w5 wr.heap.size [.int .i64 r.1, .int .i64 r.2.1, .bool r.2.2]) := HR4.out.off HO5.out fun hs => absurd (HLTk.out _ hs) (Nat.lt_irrefl _)
        have HC5 : Hid (Cel w5 w.heap.size [.int .i64 f, .int .i64 t]) := HC4.out.off HO5.out HNS.out
        obtain ⟨r0, r1, r2⟩ := HR5.out.three
        refine Lib.hid ?_
        go_wp2_with fail
        go_roundw
        case rel =>
          refine ⟨k + 1, S5, by omega, by go_num, by rw [HTK.out, HQ.out], by rw [HPE.out]; exact HJ5.out, fun z hz => ?_, HO4.out.trans HO5.out fun z hz => ?_, HC5.out⟩
          · rcases HS5.out z hz with h | h
            · exact HS.out z h
            · exact Or.inr (Nat.lt_of_lt_of_le HC4.out.lt h)
          · exact (HS.out z hz).imp_right Nat.le_of_lt
        case measure => simp [intOf]; omega
      · have HPE : Hid (pcs (L.take (k + 1)) f t = pcs (L.take k) f t) := HPS'.out.trans (by rw [HPC.out, if_neg hxy, List.append_nil])
        have hxy' : decide (x < y) = false := decide_eq_false hxy
        clear hxy
        go_wp2_with fail
        go_roundw
        case rel => exact ⟨k + 1, S', by omega, by go_num, by rw [HTK.out, HQ.out], by rw [HPE.out]; exact HJ3.out, HS.out, HO3.out, HC3.out⟩
        case measure => simp [intOf]; omega
    · obtain rfl : k = L.length := by omega
      have hj := HJ.out
      rw [List.take_length] at hj
      have HJe := Lib.hid hj
      clear hj
      go_wp2_with fail
      refine bodyPost_ret (ret_unit rfl _ _) rfl ⟨rfl, S', HJe.out, fun z hz => (HS.out z hz).imp_right Nat.le_of_lt, HO.out⟩
#print axioms iso_visit
end Go.Proofs.Ytnblpooimgpgoaa.Iso
