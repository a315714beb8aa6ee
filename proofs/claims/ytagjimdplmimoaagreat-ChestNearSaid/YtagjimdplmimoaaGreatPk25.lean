/- Several texts in one: ChestZ. -/
import Derived.Test.YtagjimdplmimoaaGreatPk24
/- Near the exact tank: ChestNear (gen18/z.py). -/
namespace Go.Proofs.YtagjimdplmimoaaGreat.Chest
open Go.ChangeShapes Go.WideShapes Go.RowKit Go.Lib
open Go.Proofs.YtagjimdplmimoaaGreat.Mem (Cl eI Own)
open Go.Proofs.YtagjimdplmimoaaGreat.Share (own_cl)
open Go.Proofs.YtagjimdplmimoaaGreat.Tank (MM qs ts ts_len ts_at qs_ts triR vT_tri vZ)
open Go.Proofs.YtagjimdplmimoaaGreat.Rw (glt get_lt below_alloc bstep below_drewN below_drew drew_below)
set_option linter.unusedVariables false
set_option maxRecDepth 100000

theorem near_in {w : World} {A : Option Addr} {n c : Nat} {zs : List Int} (h : InInts .i64 w A n c zs) : Cl eI w A zs ∧ zs.length = n ∧ n ≤ 9223372036854775807 := by
  obtain ⟨h1, h2, h3, _, h4⟩ := h
  refine ⟨h4, h1.symm, ?_⟩
  unfold maxLen at h3; omega
theorem ts_vZ' {Q : List Rat} (h : ∀ q ∈ Q, fitR q = true) : ∀ t ∈ ts Q, vZ t := fun t ht => by
  obtain ⟨q, hq, rfl⟩ := List.mem_map.mp ht
  exact Or.inl (vT_tri (h q hq))
theorem fil_all {Q : List Rat} {m : List Int} {d B : Nat} {C : List Int} (h : Nr d C Q B) : ∀ t ∈ Tank.filL MM (ts Q) m, vZ t := fun t ht => by
  by_cases hf : Tank.filE MM (ts Q) m = 0
  · obtain ⟨hp, hb, -⟩ := tfil_of h hf
    refine fil_vZ (fun q hq => ?_) t ht
    rw [qs_ts h.fit] at hq
    exact ((fil_fits h hp hb).1 q hq).1
  · unfold Tank.filL at ht
    rw [if_neg hf] at ht; simp at ht
theorem drw_all {Q : List Rat} {t : Int} {d B : Nat} {C : List Int} (h : Nr d C Q B) : ∀ u ∈ Tank.drP MM (ts Q) t, vZ u := fun u hu => by
  unfold Tank.drP at hu
  split at hu
  · rename_i hf
    have hd := Tank.drE_of hf
    by_cases he : drE MM C t = 0
    · obtain ⟨B', hn⟩ := h.draw he hf
      exact ts_vZ' hn.fit u hu
    · exact absurd hf (h.draw_eq.2 he)
  · simp at hu
theorem own_put {w : World} {t : TypeId} {B g : Nat} {A : Option Addr} {n c : Nat} {L : List Int} (h : Own eI t B w (.slice A n c) L) (hg : g < B) (x y : Value) : Own eI t B ((w.setCell ⟨g, 0, none⟩ x).setCell ⟨g, 1, none⟩ y) (.slice A n c) L :=
  own_far2 h (fun e => by have := (h.lt _ e).1; omega) x y
theorem _root_.Go.Proofs.YtagjimdplmimoaaGreat.Rw.Cel.far2' {w : World} {g k : Nat} {us : List Value} (h : Rw.Cel w g us) (hne : k ≠ g) (x y : Value) : Rw.Cel ((w.setCell ⟨k, 0, none⟩ x).setCell ⟨k, 1, none⟩ y) g us :=
  (h.far (p := ⟨k, 0, none⟩) hne x).far (p := ⟨k, 1, none⟩) hne y
set_option maxHeartbeats 6400000 in
theorem walk_ChestNear (w : World) (A : Option Addr) (n c : Nat) (L : List Int) (h : InInts .i64 w A n c L) (B : Option Addr) (d : Nat) (M : List Mv) (hM : Mvs w B M) (hm : M.length ≤ 9223372036854775807) :
    Calls Tryz.prog 3 #[.slice A n c, .slice B M.length d] w fun e w' => e = .returned (.bool true) ∧ Below w.heap.size w w' := by
  obtain ⟨hcl, hn, hnm⟩ := near_in h
  have HA := Lib.hid hcl
  have HN := Lib.hid hn
  have HM := Lib.hid hM
  have KQ := Lib.hid fun W => law_awake W
  obtain ⟨m, hml⟩ : ∃ m, M.length = m := ⟨_, rfl⟩
  have HML := Lib.hid hml
  rw [hml] at hm ⊢
  have KN := Lib.hid fun W => ch_New (n : Int) MM W
  have KT := Lib.hid fun W => Tank.p_New (n : Int) MM W
  rw [show Tank.nwE (n : Int) MM = nwE (n : Int) MM from rfl] at KT
  obtain ⟨E, hE⟩ : ∃ x, nwE (n : Int) MM = x := ⟨_, rfl⟩
  obtain ⟨NC, hNC⟩ : ∃ x, nwC (n : Int) MM = x := ⟨_, rfl⟩
  obtain ⟨NL, hNL⟩ : ∃ x, nwL (n : Int) MM = x := ⟨_, rfl⟩
  obtain ⟨TC, hTC⟩ : ∃ x, Tank.nwC (n : Int) MM = x := ⟨_, rfl⟩
  obtain ⟨TL, hTL⟩ : ∃ x, Tank.nwL (n : Int) MM = x := ⟨_, rfl⟩
  rw [hE, hNC, hNL] at KN
  rw [hE, hTC, hTL] at KT
  have HE := Lib.hid (And.intro hE (And.intro hNC (And.intro hNL (And.intro hTC hTL))))
  have HB := Lib.hid (Below.refl w.heap.size w)
  clear hcl hn hM hml h hE hNC hNL hTC hTL
  go_enter Tryz.func3, Tryz.ntmps3
  by_cases hl : 20 < n
  · have d0 : decide ((20 : Int) < (n : Int)) = true := decide_eq_true (by omega)
    go_wp2_with fail
    refine (KQ.out _).mono ?_
    rintro e wq ⟨rfl, hb⟩
    have HF := Lib.hid (bstep HB.out hb)
    clear hb
    go_wp2_with fail
    go_ret
    exact ⟨rfl, HF.out⟩
  have d0 : decide ((20 : Int) < (n : Int)) = false := decide_eq_false (by omega)
  by_cases hl2 : 8 < m
  · have d1 : decide ((8 : Int) < (m : Int)) = true := decide_eq_true (by omega)
    go_wp2_with fail
    refine (KQ.out _).mono ?_
    rintro e wq ⟨rfl, hb⟩
    have HF := Lib.hid (bstep HB.out hb)
    clear hb
    go_wp2_with fail
    go_ret
    exact ⟨rfl, HF.out⟩
  have d1 : decide ((8 : Int) < (m : Int)) = false := decide_eq_false (by omega)
  go_wp2_with fail
  refine (KN.out w).mono ?_
  rintro e w1 ⟨A1, n1, c1, rfl, hl3, ho, hb⟩
  have X1 := Lib.hid ho
  have N1 := Lib.hid hl3
  replace HB := Lib.hid (bstep HB.out hb)
  clear hb ho hl3 d0 d1
  go_upto_region 4 with fail
  obtain ⟨w2, hw⟩ : ∃ W, w1.alloc (.cells #[.int .i64 NC, .slice A1 n1 c1] 26) = W := ⟨_, rfl⟩
  obtain ⟨gC5, hg⟩ : ∃ g, w1.heap.size = g := ⟨_, rfl⟩
  have hb : Below w1.heap.size w1 w2 := hw ▸ below_alloc _ _
  have C5 : Hid (Rw.Cel w2 gC5 [.int .i64 NC, .slice A1 n1 c1]) := hw ▸ hg ▸ Rw.Cel.new w1 [_, _] _
  have GC5 : Hid (w.heap.size ≤ gC5 ∧ gC5 < w2.heap.size) := Lib.hid ⟨by rw [← hg]; exact HB.out.size, C5.out.lt⟩
  replace HB := Lib.hid (bstep HB.out hb)
  replace X1 := Lib.hid (X1.out.on hb)
  first | rw [hw, hg] | rw [hw]
  clear hw hg hb
  go_wp2_with fail
  refine (KT.out w2).mono ?_
  rintro e w3 ⟨v, rfl, ⟨A2, c2, rfl, hl4, hr⟩, hb⟩
  obtain ⟨n2, hn2⟩ : ∃ x, TL.length = x := ⟨_, rfl⟩
  rw [hn2]
  have R2 : Hid (Rats w3 A2 TL) := Lib.hid hr
  have N2 := Lib.hid hn2
  replace HB := Lib.hid (bstep HB.out hb)
  replace X1 := Lib.hid (X1.out.on hb)
  replace C5 := Lib.hid (C5.out.on hb)
  clear hb hr hl4 hn2
  go_upto_region 5 with fail
  obtain ⟨w4, hw⟩ : ∃ W, w3.alloc (.cells #[.int .i64 TC, .slice A2 n2 c2] 32) = W := ⟨_, rfl⟩
  obtain ⟨gC7, hg⟩ : ∃ g, w3.heap.size = g := ⟨_, rfl⟩
  have H57 : Hid (gC5 < gC7) := Lib.hid (by rw [← hg]; exact C5.out.lt)
  have hb : Below w3.heap.size w3 w4 := hw ▸ below_alloc _ _
  have C7 : Hid (Rw.Cel w4 gC7 [.int .i64 TC, .slice A2 n2 c2]) := hw ▸ hg ▸ Rw.Cel.new w3 [_, _] _
  have GC7 : Hid (w.heap.size ≤ gC7 ∧ gC7 < w4.heap.size) := Lib.hid ⟨by rw [← hg]; exact HB.out.size, C7.out.lt⟩
  replace HB := Lib.hid (bstep HB.out hb)
  replace X1 := Lib.hid (X1.out.on hb)
  replace C5 := Lib.hid (C5.out.on hb)
  replace R2 := Lib.hid (Rats.on R2.out hb)
  first | rw [hw, hg] | rw [hw]
  clear hw hg hb
  by_cases hz : E = 0
  rotate_left
  · obtain ⟨z1, z2⟩ := ne_zero hz
    clear hz
    go_wp2_with fail
    refine (KQ.out _).mono ?_
    rintro e wq ⟨rfl, hb⟩
    have HF := Lib.hid (bstep HB.out hb)
    clear hb
    go_wp2_with fail
    go_ret
    exact ⟨rfl, HF.out⟩
  subst hz
  have hk : 1 ≤ (n : Int) ∧ (n : Int) ≤ 8 := by
    have h1 := HE.out.1
    unfold nwE at h1
    split at h1
    · assumption
    · cases h1
  have h18 := Lib.hid (show 1 ≤ n ∧ n ≤ 8 by omega)
  have e1 := nw_ok HE.out.1
  rw [Int.toNat_natCast] at e1
  have e2 : Tank.nwC (n : Int) MM = MM := if_pos HE.out.1
  have e3 : Tank.nwL (n : Int) MM = ts (List.replicate n 0) := by
    have : Tank.nwL (n : Int) MM = List.replicate (n : Int).toNat (triR 0) := if_pos HE.out.1
    rw [this, Int.toNat_natCast]
    unfold Tank.ts
    rw [List.map_replicate]
  obtain rfl : NC = MM := HE.out.2.1.symm.trans e1.1
  have f1 := HE.out.2.2.1.symm.trans e1.2
  obtain rfl : TC = MM := HE.out.2.2.2.1.symm.trans e2
  have f2 := HE.out.2.2.2.2.symm.trans e3
  subst f1 f2
  have hlr : (List.replicate n (0 : Int)).length = n := List.length_replicate
  obtain rfl : n = n1 := hlr.symm.trans N1.out
  have hlt : (ts (List.replicate n (0 : Rat))).length = n := by rw [ts_len, List.length_replicate]
  obtain rfl : n = n2 := hlt.symm.trans N2.out
  have NS := Lib.hid (Nr.start h18.out.1 h18.out.2)
  have KF := Lib.hid fun (W : World) (a1 : Cl eI W A1 (List.replicate n 0)) (a2 : Cl eI W A L) => ch_Fill MM (List.replicate n 0) L A1 A n c1 n c hlr HN.out W a1 a2 (by omega) (by omega)
  have KG := Lib.hid fun (W : World) (a1 : Rats W A2 (ts (List.replicate n 0))) (a2 : Cl eI W A L) => Tank.p_Fill MM (ts (List.replicate n 0)) A2 n c2 hlt.symm L A n c HN.out.symm W a1 a2 (by omega) (by omega)
  have HFE := Lib.hid (first_eq (m := L) h18.out.1 h18.out.2)
  obtain ⟨FE, hFE⟩ : ∃ x, filE MM (List.replicate n 0) L = x := ⟨_, rfl⟩
  obtain ⟨FC, hFC⟩ : ∃ x, filC MM (List.replicate n 0) L = x := ⟨_, rfl⟩
  obtain ⟨FL, hFL⟩ : ∃ x, filL MM (List.replicate n 0) L = x := ⟨_, rfl⟩
  obtain ⟨GE, hGE⟩ : ∃ x, Tank.filE MM (ts (List.replicate n 0)) L = x := ⟨_, rfl⟩
  obtain ⟨GC, hGC⟩ : ∃ x, Tank.filC MM (ts (List.replicate n 0)) L = x := ⟨_, rfl⟩
  obtain ⟨GL, hGL⟩ : ∃ x, Tank.filL MM (ts (List.replicate n 0)) L = x := ⟨_, rfl⟩
  rw [hFE, hFC, hFL] at KF
  rw [hGE, hGC, hGL] at KG
  have HGV : Hid (∀ t ∈ GL, vZ t) := Lib.hid (hGL ▸ fil_all NS.out)
  have HV := Lib.hid (And.intro hFE (And.intro hFC (And.intro hFL (And.intro hGE (And.intro hGC hGL)))))
  rw [hFE, hGE] at HFE
  clear hFE hFC hFL hGE hGC hGL e1 e2 e3 hlr hlt hk KN KT
  obtain ⟨x0, x1⟩ := C5.out.two
  obtain ⟨u0, u1⟩ := C5.out.warm2
  go_wp2_with fail
  refine (KF.out w4 (own_cl X1.out) (HA.out.on HB.out)).mono ?_
  rintro e w5 ⟨A3, n3, c3, rfl, hl5, ho, hb⟩
  have X3 : Hid (Own eI 3 (gC7 + 1) w5 (.slice A3 n3 c3) FL) := Lib.hid (ho.less (by have := GC7.out.2; omega))
  have N3 := Lib.hid hl5
  replace HB := Lib.hid (bstep HB.out hb)
  replace C5 := Lib.hid (C5.out.on hb)
  replace C7 := Lib.hid (C7.out.on hb)
  replace R2 := Lib.hid (Rats.on R2.out hb)
  clear hb ho hl5 x0 x1 u0 u1 X1
  obtain ⟨x0, x1⟩ := C5.out.two
  obtain ⟨u0, u1⟩ := C5.out.warm2
  go_upto_region 10 with fail
  have hne : gC5 < gC7 := H57.out
  clear x0 x1 u0 u1
  obtain ⟨w6, hw⟩ : ∃ W, (w5.setCell ⟨gC5, 0, none⟩ (.int .i64 FC)).setCell ⟨gC5, 1, none⟩ (.slice A3 n3 c3) = W := ⟨_, rfl⟩
  replace R2 : Hid (Rats w6 A2 (ts (List.replicate n 0))) := Lib.hid (hw ▸ Rats.box R2.out (ts_vZ' NS.out.fit) (Or.inr rfl) C5.out _ _)
  replace X3 : Hid (Own eI 3 (gC7 + 1) w6 (.slice A3 n3 c3) FL) := Lib.hid (hw ▸ own_put X3.out (by omega) _ _)
  replace C7 : Hid (Rw.Cel w6 gC7 [.int .i64 MM, .slice A2 n c2]) := Lib.hid (hw ▸ C7.out.far2' (by omega) _ _)
  replace C5 : Hid (Rw.Cel w6 gC5 [.int .i64 FC, .slice A3 n3 c3]) := Lib.hid (hw ▸ C5.out.put2 _ _)
  replace HB : Hid (Below w.heap.size w w6) := Lib.hid (hw ▸ Rw.below_put2 HB.out GC5.out.1 _ _)
  rw [hw]
  clear hw
  obtain ⟨x0, x1⟩ := C7.out.two
  go_wp2_with fail
  refine (KG.out w6 R2.out (HA.out.on HB.out)).mono ?_
  rintro e w7 ⟨v, rfl, ⟨A4, c4, rfl, hl6, hr⟩, hb⟩
  obtain ⟨n4, hn4⟩ : ∃ x, GL.length = x := ⟨_, rfl⟩
  rw [hn4]
  have R4 : Hid (Rats w7 A4 GL) := Lib.hid hr
  have N4 := Lib.hid hn4
  replace HB := Lib.hid (bstep HB.out hb)
  replace C5 := Lib.hid (C5.out.on hb)
  replace C7 := Lib.hid (C7.out.on hb)
  replace X3 := Lib.hid (X3.out.on hb)
  clear hb hr hl6 hn4 x0 x1 R2
  obtain ⟨x0, x1⟩ := C7.out.two
  obtain ⟨u0, u1⟩ := C7.out.warm2
  go_upto_region 11 with fail
  clear x0 x1 u0 u1
  obtain ⟨w8, hw⟩ : ∃ W, (w7.setCell ⟨gC7, 0, none⟩ (.int .i64 GC)).setCell ⟨gC7, 1, none⟩ (.slice A4 n4 c4) = W := ⟨_, rfl⟩
  replace R4 : Hid (Rats w8 A4 GL) := Lib.hid (hw ▸ Rats.box R4.out HGV.out (Or.inr rfl) C7.out _ _)
  replace X3 : Hid (Own eI 3 (gC7 + 1) w8 (.slice A3 n3 c3) FL) := Lib.hid (hw ▸ own_put X3.out (by omega) _ _)
  replace C5 : Hid (Rw.Cel w8 gC5 [.int .i64 FC, .slice A3 n3 c3]) := Lib.hid (hw ▸ C5.out.far2' (by omega) _ _)
  replace C7 : Hid (Rw.Cel w8 gC7 [.int .i64 GC, .slice A4 n4 c4]) := Lib.hid (hw ▸ C7.out.put2 _ _)
  replace HB : Hid (Below w.heap.size w w8) := Lib.hid (hw ▸ Rw.below_put2 HB.out GC7.out.1 _ _)
  rw [hw]
  clear hw
  by_cases hz : FE = 0
  rotate_left
  · obtain ⟨z1, z2⟩ := ne_zero hz
    obtain ⟨z3, z4⟩ := ne_zero (fun e => hz (HFE.out.mpr e))
    clear hz
    go_wp2_with fail
    refine (KQ.out _).mono ?_
    rintro e wq ⟨rfl, hb⟩
    have HF := Lib.hid (bstep HB.out hb)
    clear hb
    go_wp2_with fail
    go_ret
    exact ⟨rfl, HF.out⟩
  have hz2 := HFE.out.mp hz
  subst hz
  subst hz2
  have NF := Lib.hid (NS.out.fill HV.out.1 HV.out.2.2.2.1)
  have e1 : filC MM (List.replicate n 0) L = MM := if_pos HV.out.1
  have e2 : filL MM (List.replicate n 0) L = plusL (List.replicate n 0) L := if_pos HV.out.1
  have e3 : Tank.filC MM (ts (List.replicate n 0)) L = MM := if_pos HV.out.2.2.2.1
  have e4 : Tank.filL MM (ts (List.replicate n 0)) L = ts (Tank.filV (List.replicate n 0) L) := by
    have : Tank.filL MM (ts (List.replicate n 0)) L = ts (Tank.filV (qs (ts (List.replicate n 0))) L) := if_pos HV.out.2.2.2.1
    rw [this, qs_ts NS.out.fit]
  obtain rfl : FC = MM := HV.out.2.1.symm.trans e1
  have f1 := HV.out.2.2.1.symm.trans e2
  obtain rfl : GC = MM := HV.out.2.2.2.2.1.symm.trans e3
  have f2 := HV.out.2.2.2.2.2.symm.trans e4
  subst f1 f2
  have hc3 : (plusL (List.replicate n 0) L).length = n := by
    have h1 := NF.out.len
    have h2 := plus_len (L := List.replicate n 0) (m := L) (by rw [HN.out, List.length_replicate])
    rw [h2, List.length_replicate]
  obtain rfl : n = n3 := hc3.symm.trans N3.out
  obtain rfl : n = n4 := by have := N4.out; rw [ts_len, NF.out.len, hc3] at this; exact this
  have HC3 := Lib.hid hc3
  clear e1 e2 e3 e4 hc3 KF KG HV HGV HFE N1 N2 N3 N4 NS HE
  have H8 := Lib.hid (show m ≤ 8 by omega)
  have HNE := Lib.hid hne
  go_wp2_with fail
  clear hne
  go_loopw [6, 8, 9, 10, 11, 12, 13] (fun _ _ dr i _ _ _ wr => ∃ (k dd : Nat) (C : List Int) (Q : List Rat) (Bd : Nat) (Ac : Option Addr) (cc : Nat) (At : Option Addr) (ct : Nat), k ≤ m ∧ dd ≤ k ∧ i = .int .i64 k ∧ dr = .int .i64 dd ∧ Nr dd C Q Bd ∧ C.length = n ∧ Rw.Cel wr gC5 [.int .i64 MM, .slice Ac n cc] ∧ Rw.Cel wr gC7 [.int .i64 MM, .slice At n ct] ∧ Cl eI wr Ac C ∧ Rats wr At (ts Q) ∧ Below w.heap.size w wr) (fun _ _ _ i _ _ _ _ => m - (RowKit.intOf i).toNat)
  case atStart => exact ⟨0, 0, _, _, _, A3, c3, A4, c4, Nat.zero_le _, Nat.le_refl _, rfl, rfl, NF.out, HC3.out, C5.out, C7.out, own_cl X3.out, R4.out, HB.out⟩
  case round =>
    clear C5 C7 X3 R4 HB NF HC3
    obtain ⟨k, dd, C, Q, Bd, Ac, cc, At, ct, hk, hdd, rfl, rfl, hnr, hcl, hc5, hc7, hac, hrt, hbel⟩ := hrel
    have HNR := Lib.hid hnr
    have HCL := Lib.hid hcl
    have C5 := Lib.hid hc5
    have C7 := Lib.hid hc7
    have HC := Lib.hid hac
    have HR : Hid (Rats wr At (ts Q)) := Lib.hid hrt
    have HB := Lib.hid hbel
    have HTL := Lib.hid (show (ts Q).length = n by rw [ts_len, hnr.len]; exact hcl)
    clear hnr hcl hc5 hc7 hac hrt hbel
    rcases Nat.lt_or_ge k m with hlt | hge
    rotate_left
    · obtain rfl : m = k := by omega
      go_wp2_with fail
      refine (KQ.out _).mono ?_
      rintro e wq ⟨rfl, hb⟩
      have HF := Lib.hid (bstep HB.out hb)
      clear hb
      go_wp2_with fail
      go_ret
      exact ⟨rfl, HF.out⟩
    obtain ⟨s, hs⟩ := get_lt (L := M) (k := k) (by have := HML.out; omega)
    obtain ⟨b, off, F1, f1, rfl, hbl, ⟨e0, e1⟩, hF, hFl⟩ := (HM.out.on HB.out) k s hs
    obtain ⟨F, t⟩ := s
    simp only at e0 e1 hF hFl
    obtain ⟨fl, hfl⟩ : ∃ x, F.length = x := ⟨_, rfl⟩
    rw [hfl] at e0 hFl
    have HF := Lib.hid hF
    have HFL := Lib.hid hfl
    have HFM := Lib.hid hFl
    have HS := Lib.hid hs
    have HE01 := Lib.hid fun (W : World) (h : Below wr.heap.size wr W) => And.intro ((h.cell (p := ⟨b, off + k * 2, none⟩) hbl).trans e0) ((h.cell (p := ⟨b, off + k * 2 + 1, none⟩) hbl).trans e1)
    have i1 : (k : Int) < (m : Int) := by omega
    have i2 : (0 : Int) ≤ (k : Int) := by omega
    clear hs hF hFl hfl hbl
    by_cases hl3 : 20 < fl
    · have d0 : decide ((20 : Int) < (fl : Int)) = true := decide_eq_true (by omega)
      go_wp2_with fail
      refine (KQ.out _).mono ?_
      rintro e wq ⟨rfl, hb⟩
      have HF := Lib.hid (bstep HB.out hb)
      clear hb
      go_wp2_with fail
      go_ret
      exact ⟨rfl, HF.out⟩
    have d0 : decide ((20 : Int) < (fl : Int)) = false := decide_eq_false (by omega)
    clear hl3
    go_upto_region 23 with fail
    obtain ⟨wa, hw⟩ : ∃ W, (wr.alloc (.cells #[.int .i64 0, .slice none 0 0] 26)).alloc (.cells #[.int .i64 0, .slice none 0 0] 32) = W := ⟨_, rfl⟩
    have D1 : Hid (Rw.Cel wa wr.heap.size [.int .i64 0, .slice none 0 0]) := hw ▸ (Rw.Cel.new wr [_, _] _).alloc _
    have D2 : Hid (Rw.Cel wa (wr.heap.size + 1) [.int .i64 0, .slice none 0 0]) := hw ▸ Rw.Cel.new_at _ [_, _] _ (by simp)
    have HI : Hid (Below wr.heap.size wr wa) := hw ▸ bstep (below_alloc _ _) (below_alloc _ _)
    have S1 : Hid (wr.heap.size + 2 = wa.heap.size) := Lib.hid (by rw [← hw]; simp)
    rw [hw]
    clear hw e0 e1
    rcases Nat.eq_zero_or_pos fl with hf0 | hf0
    rotate_left
    · have d1 : decide ((0 : Int) < (fl : Int)) = true := decide_eq_true (by omega)
      have d2 : ((fl : Int) == 0) = false := beq_false_of_ne (by omega)
      have KF := Lib.hid fun (W : World) (h : Below wr.heap.size wr W) => ch_Fill MM C F Ac F1 n cc fl f1 HCL.out HFL.out W (HC.out.on h) (HF.out.on h) (by omega) HFM.out
      have KG := Lib.hid fun (W : World) (h : Below wr.heap.size wr W) => Tank.p_Fill MM (ts Q) At n ct HTL.out.symm F F1 fl f1 HFL.out.symm W (Rats.on HR.out h) (HF.out.on h) (by omega) HFM.out
      have HEQ := Lib.hid (HNR.out.fill_eq (m := F))
      have HGV := Lib.hid (fil_all (m := F) HNR.out)
      obtain ⟨FE, hFE⟩ : ∃ x, filE MM C F = x := ⟨_, rfl⟩
      obtain ⟨FC, hFC⟩ : ∃ x, filC MM C F = x := ⟨_, rfl⟩
      obtain ⟨FL, hFL⟩ : ∃ x, filL MM C F = x := ⟨_, rfl⟩
      obtain ⟨GE, hGE⟩ : ∃ x, Tank.filE MM (ts Q) F = x := ⟨_, rfl⟩
      obtain ⟨GC, hGC⟩ : ∃ x, Tank.filC MM (ts Q) F = x := ⟨_, rfl⟩
      obtain ⟨GL, hGL⟩ : ∃ x, Tank.filL MM (ts Q) F = x := ⟨_, rfl⟩
      rw [hFE, hFC, hFL] at KF
      rw [hGE, hGC, hGL] at KG
      rw [hFE, hGE] at HEQ
      rw [hGL] at HGV
      have HV := Lib.hid (And.intro hFE (And.intro hFC (And.intro hFL (And.intro hGE (And.intro hGC hGL)))))
      obtain ⟨n6, hn6⟩ : ∃ x, GL.length = x := ⟨_, rfl⟩
      have HN6 := Lib.hid hn6
      clear hFE hFC hFL hGE hGC hGL hn6
      obtain ⟨x0, x1⟩ := (C5.out.on HI.out).two
      obtain ⟨e0, e1⟩ := HE01.out _ HI.out
      go_wp2_with fail
      have HX := Lib.hid fun (W : World) (h : Below wr.heap.size wr W) => And.intro (C5.out.on h).two (HE01.out W h).1
      have HY := Lib.hid fun (W : World) (h : Below wr.heap.size wr W) => And.intro (C7.out.on h).two (HE01.out W h).1
      clear x0 x1 e0 e1
      go_region_held3 (fun W => (W.cell? ⟨gC5, 0, none⟩ = some (.int .i64 MM) ∧ W.cell? ⟨gC5, 1, none⟩ = some (.slice Ac n cc)) ∧ W.cell? ⟨b, off + k * 2, none⟩ = some (.slice F1 fl f1))
        (first | exact HX.out _ HI.out | exact HX.out _ (bstep HI.out (drew_below _)) | exact HX.out _ HI2.out | exact HX.out _ (Rw.below_put2 HI2.out (Nat.le_refl _) _ _))
        ((go_at_call 7; (with_reducible refine (KF.out _ (bstep HI.out (drew_below _))).mono ?_); rintro e wz ⟨A5, n5, c5, rfl, hl1, ho1, hb1⟩; (have HI2 : Hid (Below wr.heap.size wr wz) := Lib.hid (bstep (bstep HI.out (drew_below _)) hb1)); (have O1 : Hid (Own eI 3 (wr.heap.size + 2) wz (.slice A5 n5 c5) FL) := Lib.hid (ho1.less (by have := S1.out; simp; omega))); (have N5 := Lib.hid hl1); (have E1 := Lib.hid (D1.out.on (bstep (drew_below _) hb1))); (have E2 := Lib.hid (D2.out.on (bstep (drew_below _) hb1))); clear hb1 ho1 hl1; (obtain ⟨u0, u1⟩ := E1.out.two); (obtain ⟨v0, v1⟩ := E1.out.warm2)))
      obtain ⟨wb, hw⟩ : ∃ W, (wz.setCell ⟨wr.heap.size, 0, none⟩ (.int .i64 FC)).setCell ⟨wr.heap.size, 1, none⟩ (.slice A5 n5 c5) = W := ⟨_, rfl⟩
      replace O1 : Hid (Own eI 3 (wr.heap.size + 2) wb (.slice A5 n5 c5) FL) := Lib.hid (hw ▸ own_put O1.out (by omega) _ _)
      replace E2 : Hid (Rw.Cel wb (wr.heap.size + 1) [.int .i64 0, .slice none 0 0]) := Lib.hid (hw ▸ E2.out.far2' (by omega) _ _)
      replace E1 : Hid (Rw.Cel wb wr.heap.size [.int .i64 FC, .slice A5 n5 c5]) := Lib.hid (hw ▸ E1.out.put2 _ _)
      have HI3 : Hid (Below wr.heap.size wr wb) := Lib.hid (hw ▸ Rw.below_put2 HI2.out (Nat.le_refl _) _ _)
      rw [hw]
      clear hw HI2 u0 u1 v0 v1
      obtain ⟨x0, x1⟩ := (C7.out.on HI3.out).two
      obtain ⟨e0, e1⟩ := HE01.out _ HI3.out
      go_wp2_with fail
      clear x0 x1 e0 e1
      go_region_held3 (fun W => (W.cell? ⟨gC7, 0, none⟩ = some (.int .i64 MM) ∧ W.cell? ⟨gC7, 1, none⟩ = some (.slice At n ct)) ∧ W.cell? ⟨b, off + k * 2, none⟩ = some (.slice F1 fl f1))
        (first | exact HY.out _ HI3.out | exact HY.out _ (bstep HI3.out (drew_below _)) | exact HY.out _ HI4.out | exact HY.out _ (Rw.below_put2 HI4.out (Nat.le_succ _) _ _))
        ((go_at_call 8; (with_reducible refine (KG.out _ (bstep HI3.out (drew_below _))).mono ?_); rintro e wy ⟨v, rfl, ⟨A6, c6, rfl, hl6, hr6⟩, hb6⟩; (rw [HN6.out]); (have HI4 : Hid (Below wr.heap.size wr wy) := Lib.hid (bstep (bstep HI3.out (drew_below _)) hb6)); (have R6 : Hid (Rats wy A6 GL) := Lib.hid hr6); (have O2 := Lib.hid (O1.out.on (bstep (drew_below _) hb6))); (have E3 := Lib.hid (E1.out.on (bstep (drew_below _) hb6))); (have E4 := Lib.hid (E2.out.on (bstep (drew_below _) hb6))); clear hb6 hr6 hl6; (obtain ⟨u0, u1⟩ := E4.out.two); (obtain ⟨v0, v1⟩ := E4.out.warm2)))
      obtain ⟨wc, hw⟩ : ∃ W, (wy.setCell ⟨wr.heap.size + 1, 0, none⟩ (.int .i64 GC)).setCell ⟨wr.heap.size + 1, 1, none⟩ (.slice A6 n6 c6) = W := ⟨_, rfl⟩
      replace R6 : Hid (Rats wc A6 GL) := Lib.hid (hw ▸ Rats.box R6.out HGV.out (Or.inl rfl) E4.out _ _)
      replace O2 : Hid (Own eI 3 (wr.heap.size + 2) wc (.slice A5 n5 c5) FL) := Lib.hid (hw ▸ own_put O2.out (by omega) _ _)
      replace E3 : Hid (Rw.Cel wc wr.heap.size [.int .i64 FC, .slice A5 n5 c5]) := Lib.hid (hw ▸ E3.out.far2' (by omega) _ _)
      replace E4 : Hid (Rw.Cel wc (wr.heap.size + 1) [.int .i64 GC, .slice A6 n6 c6]) := Lib.hid (hw ▸ E4.out.put2 _ _)
      have HI5 : Hid (Below wr.heap.size wr wc) := Lib.hid (hw ▸ Rw.below_put2 HI4.out (Nat.le_succ _) _ _)
      rw [hw]
      clear hw HI4 HI3 E1 E2 O1 u0 u1 v0 v1 HX HY KF KG
      by_cases hz : FE = 0
      rotate_left
      · obtain ⟨z1, z2⟩ := ne_zero hz
        obtain ⟨z3, z4⟩ := ne_zero (HEQ.out.2 hz)
        clear hz
        go_wp2_with fail
        go_roundw
        case rel => exact ⟨k + 1, dd, C, Q, Bd, Ac, cc, At, ct, by omega, by omega, by go_num, rfl, HNR.out, HCL.out, C5.out.on HI5.out, C7.out.on HI5.out, HC.out.on HI5.out, Rats.on HR.out HI5.out, bstep HB.out HI5.out⟩
        case measure => simp [RowKit.intOf]; omega
      rcases HEQ.out.1 hz with hz2 | hz2
      rotate_left
      · subst hz
        subst hz2
        replace HB := Lib.hid (bstep HB.out HI5.out)
        go_wp2_with fail
        refine (KQ.out _).mono ?_
        rintro e wq ⟨rfl, hb⟩
        have HF := Lib.hid (bstep HB.out hb)
        clear hb
        go_wp2_with fail
        go_ret
        exact ⟨rfl, HF.out⟩
      subst hz
      subst hz2
      have NX := Lib.hid (HNR.out.fill HV.out.1 HV.out.2.2.2.1)
      obtain ⟨D, hD⟩ : ∃ D, dd = D := ⟨_, rfl⟩
      obtain ⟨C', hC'⟩ : ∃ x, plusL C F = x := ⟨_, rfl⟩
      obtain ⟨Q', hQ'⟩ : ∃ x, Tank.filV Q F = x := ⟨_, rfl⟩
      obtain ⟨B', hB'⟩ : ∃ x, Bd = x := ⟨_, rfl⟩
      rw [hD, hC', hQ', hB'] at NX
      have e1 : filC MM C F = MM := if_pos HV.out.1
      have e2 : filL MM C F = C' := (if_pos HV.out.1 : filL MM C F = plusL C F).trans hC'
      have e3 : Tank.filC MM (ts Q) F = MM := if_pos HV.out.2.2.2.1
      have e4 : Tank.filL MM (ts Q) F = ts Q' := by
        have : Tank.filL MM (ts Q) F = ts (Tank.filV (qs (ts Q)) F) := if_pos HV.out.2.2.2.1
        rw [this, qs_ts HNR.out.fit, hQ']
      have hlen : C'.length = n := by
        have hfe := filE_of HV.out.1
        have hli := Tank.lisE_of hfe.2.1
        rw [← hC', plus_len (by omega)]; exact HCL.out
      have HD8 := Lib.hid (show D ≤ 8 ∧ D ≤ k + 1 by have := H8.out; omega)
      subst hD
      obtain rfl : FC = MM := HV.out.2.1.symm.trans e1
      have g1 := HV.out.2.2.1.symm.trans e2
      obtain rfl : GC = MM := HV.out.2.2.2.2.1.symm.trans e3
      have g2 := HV.out.2.2.2.2.2.symm.trans e4
      obtain rfl : C' = FL := g1.symm
      subst g2
      obtain rfl : n = n5 := by rw [← N5.out]; exact hlen.symm
      obtain rfl : n = n6 := by rw [← HN6.out, ts_len, NX.out.len]; exact hlen.symm
      have HLN := Lib.hid hlen
      have HVX := Lib.hid (ts_vZ' NX.out.fit)
      clear e1 e2 e3 e4 hlen HV HEQ HGV hC' hQ'
      have L5 := C5.out.lt
      have L7 := C7.out.lt
      have L57 := HNE.out
      have q1 : ¬ wr.heap.size = gC5 := by omega
      have q2 : ¬ gC5 = wr.heap.size := by omega
      have q3 : ¬ wr.heap.size + 1 = gC5 := by omega
      have q4 : ¬ gC5 = wr.heap.size + 1 := by omega
      have q5 : ¬ wr.heap.size = gC7 := by omega
      have q6 : ¬ gC7 = wr.heap.size := by omega
      have q7 : ¬ wr.heap.size + 1 = gC7 := by omega
      have q8 : ¬ gC7 = wr.heap.size + 1 := by omega
      have q9 : ¬ gC5 = gC7 := by omega
      have q10 : ¬ gC7 = gC5 := by omega
      have K5 := Lib.hid (C5.out.on HI5.out)
      have K7 := Lib.hid (C7.out.on HI5.out)
      obtain ⟨s0, s1⟩ := E3.out.two
      obtain ⟨s2, s3⟩ := E4.out.two
      obtain ⟨u0, u1⟩ := K5.out.two
      obtain ⟨v0, v1⟩ := K5.out.warm2
      obtain ⟨u2, u3⟩ := K7.out.two
      obtain ⟨v2, v3⟩ := K7.out.warm2
      clear L5 L7 L57
      go_wp2_with fail
      go_region
      have L5 := C5.out.lt
      have L7 := C7.out.lt
      clear s0 s1 s2 s3 u0 u1 v0 v1 u2 u3 v2 v3 q1 q2 q3 q4 q5 q6 q7 q8
      obtain ⟨wd, hw⟩ : ∃ W, ((((wc.setCell ⟨gC5, 0, none⟩ (.int .i64 MM)).setCell ⟨gC5, 1, none⟩ (.slice A5 n c5)).setCell ⟨gC7, 0, none⟩ (.int .i64 MM)).setCell ⟨gC7, 1, none⟩ (.slice A6 n c6)).drew = W := ⟨_, rfl⟩
      have J5 : Hid (Rw.Cel wd gC5 [.int .i64 MM, .slice A5 n c5]) := Lib.hid (hw ▸ Rw.Cel.drew ((K5.out.put2 _ _).far2' (k := gC7) q10 _ _))
      have J7 : Hid (Rw.Cel wd gC7 [.int .i64 MM, .slice A6 n c6]) := Lib.hid (hw ▸ Rw.Cel.drew ((K7.out.far2' (k := gC5) q9 _ _).put2 _ _))
      have JC : Hid (Cl eI wd A5 C') := Lib.hid (hw ▸ own_cl (Own.drew (own_put (own_put O2.out (by omega) _ _) (by omega) _ _)))
      have JR : Hid (Rats wd A6 (ts Q')) := Lib.hid (hw ▸ Rats.on (Rats.box (Rats.box R6.out HVX.out (Or.inr rfl) K5.out _ _) HVX.out (Or.inr rfl) (K7.out.far2' (k := gC5) q9 _ _) _ _) (drew_below _))
      have HB2 : Hid (Below w.heap.size w wd) := Lib.hid (hw ▸ below_drew (Rw.below_put2 (Rw.below_put2 (bstep HB.out HI5.out) GC5.out.1 _ _) GC7.out.1 _ _))
      rw [hw]
      clear hw L5 L7 q9 q10 K5 K7 O2 R6 HVX E3 E4
      obtain ⟨b', off', F2, f2, e', _, ⟨e0, e1⟩, _, _⟩ := (HM.out.on HB2.out) k _ HS.out
      cases e'
      simp only at e0
      rw [HFL.out] at e0
      obtain ⟨x0, x1⟩ := J5.out.two
      obtain ⟨y0, y1⟩ := J7.out.two
      have b1 : ((n : Int) != (n : Int)) = false := by simp
      go_wp2_with fail
      clear x0 x1 y0 y1 e0 e1 b1
      obtain ⟨wq, rfl⟩ : ∃ W, W = wr := ⟨wr, rfl⟩
      go_loopw [13] (fun j wr => ∃ jj : Nat, jj ≤ n ∧ j = .int .i64 jj ∧ Below wd.heap.size wd wr) (fun j _ => n - (RowKit.intOf j).toNat)
      case atStart => exact ⟨0, Nat.zero_le _, rfl, Below.refl _ _⟩
      case round =>
        obtain ⟨jj, hjj, rfl, hbel⟩ := hrel
        have HW := Lib.hid hbel
        clear hbel
        rcases Nat.lt_or_ge jj n with hj | hj
        · obtain ⟨cv, hcv⟩ := get_lt (L := C') (k := jj) (by have := HLN.out; omega)
          obtain ⟨qv, hqv⟩ := get_lt (L := Q') (k := jj) (by have := HLN.out; have := NX.out.len; omega)
          have hfar := NX.out.far HD8.out.1 hcv hqv
          obtain ⟨b3, o3, rfl, hb3, h3⟩ := Tank.cl_at (JC.out.on HW.out) hcv
          obtain ⟨b4, o4, M1, m1, M2, m2, rfl, hb4, y0, y1, y2, hin⟩ := Tank.Rats.at_ (Rats.on JR.out HW.out) (ts_at hqv)
          obtain ⟨sg, hsg⟩ : ∃ x, (triR qv).1 = x := ⟨_, rfl⟩
          obtain ⟨p1, hp1⟩ : ∃ x, (triR qv).2.1.length = x := ⟨_, rfl⟩
          obtain ⟨p2, hp2⟩ : ∃ x, (triR qv).2.2.length = x := ⟨_, rfl⟩
          have hin2 : IsR wr (.agg #[.bool sg, .slice M1 p1 m1, .slice M2 p2 m2]) qv := by rw [← hsg, ← hp1, ← hp2]; exact hin
          rw [hsg] at y0
          rw [hp1] at y1
          rw [hp2] at y2
          have KFar := Lib.hid fun (W : World) (h : Below wr.heap.size wr W) => law_far hfar sg M1 p1 m1 M2 p2 m2 W (hin2.on h)
          have HX := Lib.hid fun (W : World) (h : Below wr.heap.size wr W) => And.intro (And.intro ((J5.out.on HW.out).on h).two.2 ((h.cell (p := ⟨b3, o3 + jj, none⟩) hb3).trans h3)) (And.intro ((J7.out.on HW.out).on h).two.2 (And.intro ((h.cell (p := ⟨b4, o4 + jj * 3, none⟩) hb4).trans y0) (And.intro ((h.cell (p := ⟨b4, o4 + jj * 3 + 1, none⟩) hb4).trans y1) ((h.cell (p := ⟨b4, o4 + jj * 3 + 2, none⟩) hb4).trans y2))))
          have i3 : (jj : Int) < (n : Int) := by omega
          have i4 : (0 : Int) ≤ (jj : Int) := by omega
          clear hcv hqv hfar hb3 h3 hb4 y0 y1 y2 hin hin2 hsg hp1 hp2
          go_wp2_with fail
          go_region_held3 (fun W => (W.cell? ⟨gC5, 1, none⟩ = some (.slice (some ⟨b3, o3, none⟩) n c5) ∧ W.cell? ⟨b3, o3 + jj, none⟩ = some (.int .i64 cv)) ∧ (W.cell? ⟨gC7, 1, none⟩ = some (.slice (some ⟨b4, o4, none⟩) n c6) ∧ (W.cell? ⟨b4, o4 + jj * 3, none⟩ = some (.bool sg) ∧ (W.cell? ⟨b4, o4 + jj * 3 + 1, none⟩ = some (.slice M1 p1 m1) ∧ W.cell? ⟨b4, o4 + jj * 3 + 2, none⟩ = some (.slice M2 p2 m2)))))
            (first | exact HX.out _ (Below.refl _ _) | exact HX.out _ (drew_below _) | exact HX.out _ HBL.out)
            ((go_at_call 11; (with_reducible refine (KFar.out _ (drew_below _)).mono ?_); rintro e wf ⟨rfl, hbf⟩; (have HBL : Hid (Below wr.heap.size wr wf) := Lib.hid (bstep (drew_below _) hbf)); clear hbf))
          all_goals
            go_wp2_with fail
            go_roundw
            case rel => exact ⟨jj + 1, by omega, by go_num, bstep HW.out HBL.out⟩
            case measure => simp [RowKit.intOf]; omega
        · obtain rfl : n = jj := by omega
          have hbel := HW.out
          go_wp2_with fail
          go_roundw
          case rel => exact ⟨k + 1, dd, C', Q', B', A5, c5, A6, c6, by omega, HD8.out.2, by go_num, rfl, NX.out, HLN.out, J5.out.on hbel, J7.out.on hbel, JC.out.on hbel, Rats.on JR.out hbel, bstep HB2.out hbel⟩
          case measure => simp [RowKit.intOf]; omega
    · subst hf0
      have KF := Lib.hid fun (W : World) (h : Below wr.heap.size wr W) => ch_Draw MM t C Ac n cc HCL.out W (HC.out.on h) (by omega)
      have KG := Lib.hid fun (W : World) (h : Below wr.heap.size wr W) => Tank.p_Draw MM (ts Q) At n ct HTL.out.symm t W (Rats.on HR.out h) (by omega)
      have HEQ := Lib.hid (HNR.out.draw_eq (t := t))
      have HGV := Lib.hid (drw_all (t := t) HNR.out)
      obtain ⟨FE, hFE⟩ : ∃ x, drE MM C t = x := ⟨_, rfl⟩
      obtain ⟨FC, hFC⟩ : ∃ x, drC MM C t = x := ⟨_, rfl⟩
      obtain ⟨FL, hFL⟩ : ∃ x, drL MM C t = x := ⟨_, rfl⟩
      obtain ⟨GE, hGE⟩ : ∃ x, Tank.drE MM (ts Q) t = x := ⟨_, rfl⟩
      obtain ⟨GC, hGC⟩ : ∃ x, Tank.drC MM (ts Q) t = x := ⟨_, rfl⟩
      obtain ⟨GL, hGL⟩ : ∃ x, Tank.drP MM (ts Q) t = x := ⟨_, rfl⟩
      rw [hFE, hFC, hFL] at KF
      rw [hGE, hGC, hGL] at KG
      rw [hFE, hGE] at HEQ
      rw [hGL] at HGV
      have HV := Lib.hid (And.intro hFE (And.intro hFC (And.intro hFL (And.intro hGE (And.intro hGC hGL)))))
      obtain ⟨n6, hn6⟩ : ∃ x, GL.length = x := ⟨_, rfl⟩
      have HN6 := Lib.hid hn6
      clear hFE hFC hFL hGE hGC hGL hn6
      obtain ⟨x0, x1⟩ := (C5.out.on HI.out).two
      obtain ⟨e0, e1⟩ := HE01.out _ HI.out
      go_wp2_with fail
      have HX := Lib.hid fun (W : World) (h : Below wr.heap.size wr W) => And.intro (C5.out.on h).two (HE01.out W h).2
      have HY := Lib.hid fun (W : World) (h : Below wr.heap.size wr W) => And.intro (C7.out.on h).two (HE01.out W h).2
      clear x0 x1 e0 e1
      go_region_held3 (fun W => (W.cell? ⟨gC5, 0, none⟩ = some (.int .i64 MM) ∧ W.cell? ⟨gC5, 1, none⟩ = some (.slice Ac n cc)) ∧ W.cell? ⟨b, off + k * 2 + 1, none⟩ = some (.int .i64 t))
        (first | exact HX.out _ HI.out | exact HX.out _ (bstep HI.out (drew_below _)) | exact HX.out _ HI2.out | exact HX.out _ (Rw.below_put2 HI2.out (Nat.le_refl _) _ _))
        ((go_at_call 9; (with_reducible refine (KF.out _ (bstep HI.out (drew_below _))).mono ?_); rintro e wz ⟨A5, n5, c5, M5, m5, o5, rfl, hl1, _, ho1, _, hb1⟩; (have HI2 : Hid (Below wr.heap.size wr wz) := Lib.hid (bstep (bstep HI.out (drew_below _)) hb1)); (have O1 : Hid (Own eI 3 (wr.heap.size + 2) wz (.slice A5 n5 c5) FL) := Lib.hid (ho1.less (by have := S1.out; simp; omega))); (have N5 := Lib.hid hl1); (have E1 := Lib.hid (D1.out.on (bstep (drew_below _) hb1))); (have E2 := Lib.hid (D2.out.on (bstep (drew_below _) hb1))); clear hb1 ho1 hl1; (obtain ⟨u0, u1⟩ := E1.out.two); (obtain ⟨v0, v1⟩ := E1.out.warm2)))
      obtain ⟨wb, hw⟩ : ∃ W, (wz.setCell ⟨wr.heap.size, 0, none⟩ (.int .i64 FC)).setCell ⟨wr.heap.size, 1, none⟩ (.slice A5 n5 c5) = W := ⟨_, rfl⟩
      replace O1 : Hid (Own eI 3 (wr.heap.size + 2) wb (.slice A5 n5 c5) FL) := Lib.hid (hw ▸ own_put O1.out (by omega) _ _)
      replace E2 : Hid (Rw.Cel wb (wr.heap.size + 1) [.int .i64 0, .slice none 0 0]) := Lib.hid (hw ▸ E2.out.far2' (by omega) _ _)
      replace E1 : Hid (Rw.Cel wb wr.heap.size [.int .i64 FC, .slice A5 n5 c5]) := Lib.hid (hw ▸ E1.out.put2 _ _)
      have HI3 : Hid (Below wr.heap.size wr wb) := Lib.hid (hw ▸ Rw.below_put2 HI2.out (Nat.le_refl _) _ _)
      rw [hw]
      clear hw HI2 u0 u1 v0 v1
      obtain ⟨x0, x1⟩ := (C7.out.on HI3.out).two
      obtain ⟨e0, e1⟩ := HE01.out _ HI3.out
      go_wp2_with fail
      clear x0 x1 e0 e1
      go_region_held3 (fun W => (W.cell? ⟨gC7, 0, none⟩ = some (.int .i64 MM) ∧ W.cell? ⟨gC7, 1, none⟩ = some (.slice At n ct)) ∧ W.cell? ⟨b, off + k * 2 + 1, none⟩ = some (.int .i64 t))
        (first | exact HY.out _ HI3.out | exact HY.out _ (bstep HI3.out (drew_below _)) | exact HY.out _ HI4.out | exact HY.out _ (Rw.below_put2 HI4.out (Nat.le_succ _) _ _))
        ((go_at_call 10; (with_reducible refine (KG.out _ (bstep HI3.out (drew_below _))).mono ?_); rintro e wy ⟨v, A7, n7, c7, rfl, ⟨A6, c6, rfl, hl6, hr6⟩, _, _, _, hb6⟩; (rw [HN6.out]); (have HI4 : Hid (Below wr.heap.size wr wy) := Lib.hid (bstep (bstep HI3.out (drew_below _)) hb6)); (have R6 : Hid (Rats wy A6 GL) := Lib.hid hr6); (have O2 := Lib.hid (O1.out.on (bstep (drew_below _) hb6))); (have E3 := Lib.hid (E1.out.on (bstep (drew_below _) hb6))); (have E4 := Lib.hid (E2.out.on (bstep (drew_below _) hb6))); clear hb6 hr6 hl6; (obtain ⟨u0, u1⟩ := E4.out.two); (obtain ⟨v0, v1⟩ := E4.out.warm2)))
      obtain ⟨wc, hw⟩ : ∃ W, (wy.setCell ⟨wr.heap.size + 1, 0, none⟩ (.int .i64 GC)).setCell ⟨wr.heap.size + 1, 1, none⟩ (.slice A6 n6 c6) = W := ⟨_, rfl⟩
      replace R6 : Hid (Rats wc A6 GL) := Lib.hid (hw ▸ Rats.box R6.out HGV.out (Or.inl rfl) E4.out _ _)
      replace O2 : Hid (Own eI 3 (wr.heap.size + 2) wc (.slice A5 n5 c5) FL) := Lib.hid (hw ▸ own_put O2.out (by omega) _ _)
      replace E3 : Hid (Rw.Cel wc wr.heap.size [.int .i64 FC, .slice A5 n5 c5]) := Lib.hid (hw ▸ E3.out.far2' (by omega) _ _)
      replace E4 : Hid (Rw.Cel wc (wr.heap.size + 1) [.int .i64 GC, .slice A6 n6 c6]) := Lib.hid (hw ▸ E4.out.put2 _ _)
      have HI5 : Hid (Below wr.heap.size wr wc) := Lib.hid (hw ▸ Rw.below_put2 HI4.out (Nat.le_succ _) _ _)
      rw [hw]
      clear hw HI4 HI3 E1 E2 O1 u0 u1 v0 v1 HX HY KF KG
      by_cases hz : FE = 0
      rotate_left
      · obtain ⟨z1, z2⟩ := ne_zero hz
        obtain ⟨z3, z4⟩ := ne_zero (HEQ.out.2 hz)
        clear hz
        go_wp2_with fail
        go_roundw
        case rel => exact ⟨k + 1, dd, C, Q, Bd, Ac, cc, At, ct, by omega, by omega, by go_num, rfl, HNR.out, HCL.out, C5.out.on HI5.out, C7.out.on HI5.out, HC.out.on HI5.out, Rats.on HR.out HI5.out, bstep HB.out HI5.out⟩
        case measure => simp [RowKit.intOf]; omega
      rcases HEQ.out.1 hz with hz2 | hz2
      rotate_left
      · subst hz
        subst hz2
        replace HB := Lib.hid (bstep HB.out HI5.out)
        go_wp2_with fail
        refine (KQ.out _).mono ?_
        rintro e wq ⟨rfl, hb⟩
        have HF := Lib.hid (bstep HB.out hb)
        clear hb
        go_wp2_with fail
        go_ret
        exact ⟨rfl, HF.out⟩
      subst hz
      subst hz2
      obtain ⟨B', hnx⟩ := HNR.out.draw HV.out.1 HV.out.2.2.2.1
      obtain ⟨D, hD⟩ : ∃ D, dd + 1 = D := ⟨_, rfl⟩
      obtain ⟨C', hC'⟩ : ∃ x, lessL C (Share.partsL t C) = x := ⟨_, rfl⟩
      obtain ⟨Q', hQ'⟩ : ∃ x, Tank.drY (ts Q) t = x := ⟨_, rfl⟩
      rw [hD, hC', hQ'] at hnx
      have NX := Lib.hid hnx
      have e1 : drC MM C t = MM := if_pos HV.out.1
      have e2 : drL MM C t = C' := (if_pos HV.out.1 : drL MM C t = lessL C (Share.partsL t C)).trans hC'
      have e3 : Tank.drC MM (ts Q) t = MM := if_pos HV.out.2.2.2.1
      have e4 : Tank.drP MM (ts Q) t = ts Q' := (if_pos HV.out.2.2.2.1 : Tank.drP MM (ts Q) t = ts (Tank.drY (ts Q) t)).trans (by rw [hQ'])
      have hlen : C'.length = n := by
        rw [← hC', less_len (Share.partsL_len t C)]; exact HCL.out
      have HD8 := Lib.hid (show D ≤ 8 ∧ D ≤ k + 1 by have := H8.out; omega)
      have hk9 : IntKind.i64.wrap ((dd : Int) + 1) = (D : Int) := by rw [Rw.wrap_id (by have := H8.out; omega)]; omega
      clear hnx hD
      obtain rfl : FC = MM := HV.out.2.1.symm.trans e1
      have g1 := HV.out.2.2.1.symm.trans e2
      obtain rfl : GC = MM := HV.out.2.2.2.2.1.symm.trans e3
      have g2 := HV.out.2.2.2.2.2.symm.trans e4
      obtain rfl : C' = FL := g1.symm
      subst g2
      obtain rfl : n = n5 := by rw [← N5.out]; exact hlen.symm
      obtain rfl : n = n6 := by rw [← HN6.out, ts_len, NX.out.len]; exact hlen.symm
      have HLN := Lib.hid hlen
      have HVX := Lib.hid (ts_vZ' NX.out.fit)
      clear e1 e2 e3 e4 hlen HV HEQ HGV hC' hQ'
      have L5 := C5.out.lt
      have L7 := C7.out.lt
      have L57 := HNE.out
      have q1 : ¬ wr.heap.size = gC5 := by omega
      have q2 : ¬ gC5 = wr.heap.size := by omega
      have q3 : ¬ wr.heap.size + 1 = gC5 := by omega
      have q4 : ¬ gC5 = wr.heap.size + 1 := by omega
      have q5 : ¬ wr.heap.size = gC7 := by omega
      have q6 : ¬ gC7 = wr.heap.size := by omega
      have q7 : ¬ wr.heap.size + 1 = gC7 := by omega
      have q8 : ¬ gC7 = wr.heap.size + 1 := by omega
      have q9 : ¬ gC5 = gC7 := by omega
      have q10 : ¬ gC7 = gC5 := by omega
      have K5 := Lib.hid (C5.out.on HI5.out)
      have K7 := Lib.hid (C7.out.on HI5.out)
      obtain ⟨s0, s1⟩ := E3.out.two
      obtain ⟨s2, s3⟩ := E4.out.two
      obtain ⟨u0, u1⟩ := K5.out.two
      obtain ⟨v0, v1⟩ := K5.out.warm2
      obtain ⟨u2, u3⟩ := K7.out.two
      obtain ⟨v2, v3⟩ := K7.out.warm2
      clear L5 L7 L57
      go_wp2_with fail
      go_region
      have L5 := C5.out.lt
      have L7 := C7.out.lt
      clear s0 s1 s2 s3 u0 u1 v0 v1 u2 u3 v2 v3 q1 q2 q3 q4 q5 q6 q7 q8
      obtain ⟨wd, hw⟩ : ∃ W, ((((wc.setCell ⟨gC5, 0, none⟩ (.int .i64 MM)).setCell ⟨gC5, 1, none⟩ (.slice A5 n c5)).setCell ⟨gC7, 0, none⟩ (.int .i64 MM)).setCell ⟨gC7, 1, none⟩ (.slice A6 n c6)).drew = W := ⟨_, rfl⟩
      have J5 : Hid (Rw.Cel wd gC5 [.int .i64 MM, .slice A5 n c5]) := Lib.hid (hw ▸ Rw.Cel.drew ((K5.out.put2 _ _).far2' (k := gC7) q10 _ _))
      have J7 : Hid (Rw.Cel wd gC7 [.int .i64 MM, .slice A6 n c6]) := Lib.hid (hw ▸ Rw.Cel.drew ((K7.out.far2' (k := gC5) q9 _ _).put2 _ _))
      have JC : Hid (Cl eI wd A5 C') := Lib.hid (hw ▸ own_cl (Own.drew (own_put (own_put O2.out (by omega) _ _) (by omega) _ _)))
      have JR : Hid (Rats wd A6 (ts Q')) := Lib.hid (hw ▸ Rats.on (Rats.box (Rats.box R6.out HVX.out (Or.inr rfl) K5.out _ _) HVX.out (Or.inr rfl) (K7.out.far2' (k := gC5) q9 _ _) _ _) (drew_below _))
      have HB2 : Hid (Below w.heap.size w wd) := Lib.hid (hw ▸ below_drew (Rw.below_put2 (Rw.below_put2 (bstep HB.out HI5.out) GC5.out.1 _ _) GC7.out.1 _ _))
      rw [hw]
      clear hw L5 L7 q9 q10 K5 K7 O2 R6 HVX E3 E4
      obtain ⟨b', off', F2, f2, e', _, ⟨e0, e1⟩, _, _⟩ := (HM.out.on HB2.out) k _ HS.out
      cases e'
      simp only at e0
      rw [HFL.out] at e0
      obtain ⟨x0, x1⟩ := J5.out.two
      obtain ⟨y0, y1⟩ := J7.out.two
      have b1 : ((n : Int) != (n : Int)) = false := by simp
      go_wp2_with fail
      clear x0 x1 y0 y1 e0 e1 b1
      obtain ⟨wq, rfl⟩ : ∃ W, W = wr := ⟨wr, rfl⟩
      go_loopw [13] (fun j wr => ∃ jj : Nat, jj ≤ n ∧ j = .int .i64 jj ∧ Below wd.heap.size wd wr) (fun j _ => n - (RowKit.intOf j).toNat)
      case atStart => exact ⟨0, Nat.zero_le _, rfl, Below.refl _ _⟩
      case round =>
        obtain ⟨jj, hjj, rfl, hbel⟩ := hrel
        have HW := Lib.hid hbel
        clear hbel
        rcases Nat.lt_or_ge jj n with hj | hj
        · obtain ⟨cv, hcv⟩ := get_lt (L := C') (k := jj) (by have := HLN.out; omega)
          obtain ⟨qv, hqv⟩ := get_lt (L := Q') (k := jj) (by have := HLN.out; have := NX.out.len; omega)
          have hfar := NX.out.far HD8.out.1 hcv hqv
          obtain ⟨b3, o3, rfl, hb3, h3⟩ := Tank.cl_at (JC.out.on HW.out) hcv
          obtain ⟨b4, o4, M1, m1, M2, m2, rfl, hb4, y0, y1, y2, hin⟩ := Tank.Rats.at_ (Rats.on JR.out HW.out) (ts_at hqv)
          obtain ⟨sg, hsg⟩ : ∃ x, (triR qv).1 = x := ⟨_, rfl⟩
          obtain ⟨p1, hp1⟩ : ∃ x, (triR qv).2.1.length = x := ⟨_, rfl⟩
          obtain ⟨p2, hp2⟩ : ∃ x, (triR qv).2.2.length = x := ⟨_, rfl⟩
          have hin2 : IsR wr (.agg #[.bool sg, .slice M1 p1 m1, .slice M2 p2 m2]) qv := by rw [← hsg, ← hp1, ← hp2]; exact hin
          rw [hsg] at y0
          rw [hp1] at y1
          rw [hp2] at y2
          have KFar := Lib.hid fun (W : World) (h : Below wr.heap.size wr W) => law_far hfar sg M1 p1 m1 M2 p2 m2 W (hin2.on h)
          have HX := Lib.hid fun (W : World) (h : Below wr.heap.size wr W) => And.intro (And.intro ((J5.out.on HW.out).on h).two.2 ((h.cell (p := ⟨b3, o3 + jj, none⟩) hb3).trans h3)) (And.intro ((J7.out.on HW.out).on h).two.2 (And.intro ((h.cell (p := ⟨b4, o4 + jj * 3, none⟩) hb4).trans y0) (And.intro ((h.cell (p := ⟨b4, o4 + jj * 3 + 1, none⟩) hb4).trans y1) ((h.cell (p := ⟨b4, o4 + jj * 3 + 2, none⟩) hb4).trans y2))))
          have i3 : (jj : Int) < (n : Int) := by omega
          have i4 : (0 : Int) ≤ (jj : Int) := by omega
          clear hcv hqv hfar hb3 h3 hb4 y0 y1 y2 hin hin2 hsg hp1 hp2
          go_wp2_with fail
          go_region_held3 (fun W => (W.cell? ⟨gC5, 1, none⟩ = some (.slice (some ⟨b3, o3, none⟩) n c5) ∧ W.cell? ⟨b3, o3 + jj, none⟩ = some (.int .i64 cv)) ∧ (W.cell? ⟨gC7, 1, none⟩ = some (.slice (some ⟨b4, o4, none⟩) n c6) ∧ (W.cell? ⟨b4, o4 + jj * 3, none⟩ = some (.bool sg) ∧ (W.cell? ⟨b4, o4 + jj * 3 + 1, none⟩ = some (.slice M1 p1 m1) ∧ W.cell? ⟨b4, o4 + jj * 3 + 2, none⟩ = some (.slice M2 p2 m2)))))
            (first | exact HX.out _ (Below.refl _ _) | exact HX.out _ (drew_below _) | exact HX.out _ HBL.out)
            ((go_at_call 11; (with_reducible refine (KFar.out _ (drew_below _)).mono ?_); rintro e wf ⟨rfl, hbf⟩; (have HBL : Hid (Below wr.heap.size wr wf) := Lib.hid (bstep (drew_below _) hbf)); clear hbf))
          all_goals
            go_wp2_with fail
            go_roundw
            case rel => exact ⟨jj + 1, by omega, by go_num, bstep HW.out HBL.out⟩
            case measure => simp [RowKit.intOf]; omega
        · obtain rfl : n = jj := by omega
          have hbel := HW.out
          go_wp2_with fail
          go_roundw
          case rel => exact ⟨k + 1, D, C', Q', B', A5, c5, A6, c6, by omega, HD8.out.2, by go_num, rfl, NX.out, HLN.out, J5.out.on hbel, J7.out.on hbel, JC.out.on hbel, Rats.on JR.out hbel, bstep HB2.out hbel⟩
          case measure => simp [RowKit.intOf]; omega
#print axioms walk_ChestNear
end Go.Proofs.YtagjimdplmimoaaGreat.Chest
