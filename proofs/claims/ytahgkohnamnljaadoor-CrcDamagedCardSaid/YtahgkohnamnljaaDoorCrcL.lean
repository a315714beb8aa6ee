/- A byte of an own slice that is set; the walk of CrcBursts. -/
import Derived.Test.YtahgkohnamnljaaDoorCrcJ
import Derived.Laws.OwnMore
import Derived.StillTailTactics
namespace Go.Proofs.YtahgkohnamnljaaDoor.Crc
open Go.ChangeShapes Go.WideShapes Go.RowKit
open Wire (Byt InY OwnY below_alloc lt_get bstep get_lt ret_int ret_bool wrap_id byte_of in_lit in_y append_own encI encI_pos encI_ten len_isI)
set_option linter.unusedVariables false
set_option maxRecDepth 100000

/-! ### A byte that is set -/
theorem own_block {B : Nat} {w : World} {v : Value} {l : List UInt8} (h : OwnY B w v l) (h0 : 0 < l.length) : ∃ g cap, v = .slice (some ⟨g, 0, none⟩) l.length cap ∧ B ≤ g ∧ g < w.heap.size ∧ l.length ≤ cap := by
  obtain ⟨_, ⟨_, h1⟩ | ⟨g, cap, cur, h1, h2, h3, h4, _⟩⟩ := h
  · omega
  · exact ⟨g, cap, h1, h2, (Array.getElem?_eq_some_iff.mp h3).1, h4⟩
theorem own_warm {B : Nat} {w : World} {g n cap : Nat} {l : List UInt8} (h : OwnY B w (.slice (some ⟨g, 0, none⟩) n cap) l) (hn : n = l.length) (j : Nat) : w.frozen? ⟨g, j, none⟩ = false := by
  subst hn
  exact World.ownsRow.frozenAt (h : w.ownsRow B 5 1 (.slice (some ⟨g, 0, none⟩) l.length cap) l.length (Wire.cells l)) j
theorem own_set {B : Nat} {w : World} {g n cap : Nat} {l : List UInt8} (h : OwnY B w (.slice (some ⟨g, 0, none⟩) n cap) l) (hn : n = l.length) (j : Nat) (z : UInt8) : OwnY B (w.setCell ⟨g, j, none⟩ (.int .u8 (z.toNat : Int))) (.slice (some ⟨g, 0, none⟩) n cap) (l.set j z) := by
  subst hn
  have h1 := (World.ownsRow.stored (h : w.ownsRow B 5 1 (.slice (some ⟨g, 0, none⟩) l.length cap) l.length (Wire.cells l)) j (.int .u8 (z.toNat : Int))).1
  unfold OwnY
  rw [List.length_set]
  have e : Wire.cells (l.set j z) = (Wire.cells l).set j (.int .u8 (z.toNat : Int)) := by unfold Wire.cells; rw [List.map_set]
  rw [e]; exact h1
theorem own_cell {B : Nat} {w : World} {g n cap : Nat} {l : List UInt8} (h : OwnY B w (.slice (some ⟨g, 0, none⟩) n cap) l) {j : Nat} {b : UInt8} (hb : l[j]? = some b) : w.cell? ⟨g, j, none⟩ = some (.int .u8 (b.toNat : Int)) := by
  obtain ⟨A, c, e, _, _, hy⟩ := h.inY
  cases e
  obtain ⟨g', off, e, _, hc⟩ := hy j b hb
  cases e
  rw [Nat.zero_add] at hc; exact hc
theorem own_drew {B : Nat} {w : World} {v : Value} {l : List UInt8} (h : OwnY B w v l) : OwnY B w.drew v l := h.keep fun _ _ => rfl

/-! ### CrcBursts -/
/-- The rounds: k bytes are mixed. -/
def Bu (p r X : List UInt8) (B : Nat) (w1 : World) (v ch i : Value) (wr : World) : Prop :=
  ∃ (k : Nat) (b : Bool), i = .int .i64 (k : Int) ∧ ch = .bool b ∧ k ≤ 4 ∧ k ≤ r.length ∧ b = !((X.take k).all (· == 0)) ∧ OwnY B wr v (p ++ mix r (X.take k)) ∧ Below B w1 wr
theorem all_snoc (X : List UInt8) {k : Nat} {x : UInt8} (h : X[k]? = some x) : (!((X.take (k + 1)).all (· == 0))) = ((!((X.take k).all (· == 0))) || !(x == 0)) := by
  rw [Wire.take_snoc_of h, List.all_append]
  simp
set_option maxHeartbeats 3200000 in
theorem walk_CrcBursts (w : World) (A : Option Addr) (n c : Nat) (zs : List Int) (h : InInts .u8 w A n c zs) (m : Int) (hm : (Lit.int .u16 m).wf = true)
    (x0 x1 x2 x3 : Int) (h0 : (Lit.int .u8 x0).wf = true) (h1 : (Lit.int .u8 x1).wf = true) (h2 : (Lit.int .u8 x2).wf = true) (h3 : (Lit.int .u8 x3).wf = true) (ht : Tab w) :
    Calls Tryd.prog 9 #[.slice A n c, .int .u16 m, .agg #[.int .u8 x0, .int .u8 x1, .int .u8 x2, .int .u8 x3]] w fun e w' => e = .returned (.bool true) ∧ Below w.heap.size w w' := by
  obtain ⟨l, rfl, hy⟩ := in_y h
  obtain ⟨m, rfl, hm2⟩ := wf_u16 hm
  obtain ⟨y0, rfl⟩ := wf_u8 h0
  obtain ⟨y1, rfl⟩ := wf_u8 h1
  obtain ⟨y2, rfl⟩ := wf_u8 h2
  obtain ⟨y3, rfl⟩ := wf_u8 h3
  have hs := hy.small
  have HY := Lib.hid hy
  have HT := Lib.hid ht
  have HXB : Hid (Byt (w.alloc (.cells #[.int .u8 (y0.toNat : Int), .int .u8 (y1.toNat : Int), .int .u8 (y2.toNat : Int), .int .u8 (y3.toNat : Int)] 41)) (some ⟨w.heap.size, 0, none⟩) [y0, y1, y2, y3]) := Wire.byt_lit w _ [y0, y1, y2, y3]
  have HTA := Lib.hid (ht.on (below_alloc w (.cells #[.int .u8 (y0.toNat : Int), .int .u8 (y1.toNat : Int), .int .u8 (y2.toNat : Int), .int .u8 (y3.toNat : Int)] 41)))
  have HBA := Lib.hid (below_alloc w (.cells #[.int .u8 (y0.toNat : Int), .int .u8 (y1.toNat : Int), .int .u8 (y2.toNat : Int), .int .u8 (y3.toNat : Int)] 41))
  have HLT : Hid (w.heap.size < (w.alloc (.cells #[.int .u8 (y0.toNat : Int), .int .u8 (y1.toNat : Int), .int .u8 (y2.toNat : Int), .int .u8 (y3.toNat : Int)] 41)).heap.size) := show _ < _ by simp
  clear h hy ht hm h0 h1 h2 h3
  rcases Nat.lt_or_ge 4000 l.length with hb | hb
  · have hb1 : (4000 : Int) < (l.length : Int) := by omega
    go_enter Tryd.func9, Tryd.ntmps9
    go_wp2_with fail
    refine (awake_true _ HTA.out).mono ?_
    rintro ez wz ⟨rfl, hbz⟩
    have HBZ := Lib.hid (bstep HBA.out hbz)
    clear hbz
    go_wp2_with fail
    go_ret
    exact ⟨rfl, HBZ.out⟩
  · have hb1 : decide ((4000 : Int) < (l.length : Int)) = false := decide_eq_false (by omega)
    rcases Nat.eq_zero_or_pos l.length with hc | hc
    · have hc1 : l = [] := List.eq_nil_of_length_eq_zero hc
      subst hc1
      clear hc hb1
      go_enter Tryd.func9, Tryd.ntmps9
      go_wp2_with fail
      refine (awake_true _ HTA.out).mono ?_
      rintro ez wz ⟨rfl, hbz⟩
      have HBZ := Lib.hid (bstep HBA.out hbz)
      clear hbz
      go_wp2_with fail
      go_ret
      exact ⟨rfl, HBZ.out⟩
    · have hc1 : (l.length == 0) = false := beq_false_of_ne (by omega)
      have hc2 : ¬ l.length = 0 := by omega
      obtain ⟨_, _, e0, _, _, hby⟩ := HY.out
      cases e0
      have HA := Lib.hid hby
      have HL := Lib.hid hb
      have HP := Lib.hid hc
      obtain ⟨N, hN⟩ : ∃ N, N = l.length := ⟨_, rfl⟩
      have HN := Lib.hid hN
      rw [← hN] at hs hb1 hc1 hc2 ⊢
      clear hb hby hc hN
      go_enter Tryd.func9, Tryd.ntmps9
      obtain ⟨X, hX⟩ : ∃ X : List UInt8, [y0, y1, y2, y3] = X := ⟨_, rfl⟩
      have hXl : X.length = 4 := by rw [← hX]; rfl
      rw [hX] at HXB
      have HXL := Lib.hid hXl
      clear hX hXl
      go_upto_region 1 with fail
      obtain ⟨w1, hw1⟩ : ∃ W, w.alloc (.cells #[.int .u8 (y0.toNat : Int), .int .u8 (y1.toNat : Int), .int .u8 (y2.toNat : Int), .int .u8 (y3.toNat : Int)] 41) = W := ⟨_, rfl⟩
      rw [hw1] at HXB HTA HBA HLT ⊢
      obtain ⟨bx, hbx⟩ : ∃ g, w.heap.size = g := ⟨_, rfl⟩
      have HBX := Lib.hid hbx
      rw [hbx] at HXB HLT ⊢
      clear hw1 hbx
      go_wp2_with (at_builtin; refine append_own rfl _ _ rfl w1.heap.size (.slice none 0 0) [] rfl (OwnY.nil _ _) A c l N HN.out rfl (HA.out.on HBA.out) (by have := HL.out; simp; omega) (Nat.le_refl _) ?_; intro v1 w2 hown1 hb1; refine Hid.out ?_)
      refine Lib.hid ?_
      rw [List.nil_append] at hown1
      obtain ⟨g, cap, rfl, hg1, hg2, hcap⟩ := own_block hown1 HP.out
      rw [← HN.out] at hown1 hcap ⊢
      have HO1 := Lib.hid hown1
      have HB1 := Lib.hid hb1
      have HGX : Hid (bx < g) := Nat.lt_of_lt_of_le HLT.out hg1
      have HG1 := Lib.hid hg1
      have HNL : Hid (N ≤ 4000) := show _ ≤ _ by rw [HN.out]; exact HL.out
      obtain ⟨J, hJ⟩ : ∃ J, J = m % N := ⟨_, rfl⟩
      have hJ1 : (m : Int) % (N : Int) = (J : Int) := by rw [hJ]; simp
      have hJN : J < N := by rw [hJ]; exact Nat.mod_lt _ (by omega)
      obtain ⟨p, hp⟩ : ∃ p, p = l.take J := ⟨_, rfl⟩
      obtain ⟨r, hr⟩ : ∃ r, r = l.drop J := ⟨_, rfl⟩
      have hpl : p.length = J := by rw [hp, List.length_take, ← HN.out]; omega
      have hrl : r.length = N - J := by rw [hr, List.length_drop, ← HN.out]
      have HPR : Hid (l = p ++ r) := show _ = _ by rw [hp, hr, List.take_append_drop]
      have HPL := Lib.hid hpl
      have HRL := Lib.hid hrl
      have HJN := Lib.hid hJN
      clear hown1 hb1 hg1 hg2 hJ hp hr hpl hrl
      go_wp2_with fail
      simp only [hJ1]
      clear hJ1
      go_loopw [9, 10] (Bu p r X w1.heap.size w1 (.slice (some ⟨g, 0, none⟩) N cap)) (fun _ i _ => 4 - (intOf i).toNat)
      case atStart => exact ⟨0, false, rfl, rfl, by omega, Nat.zero_le _, rfl, by rw [List.take_zero, mix_nil, ← HPR.out]; exact HO1.out, HB1.out⟩
      case round =>
        obtain ⟨k, b, rfl, rfl, hk4, hkr, hcb, ho, hbel⟩ := hrel
        have HO := Lib.hid ho
        have HW := Lib.hid hbel
        have HCB := Lib.hid hcb
        have HKR := Lib.hid hkr
        clear ho hbel hcb hkr
        obtain ⟨E, hE⟩ : ∃ E, E = J + k := ⟨_, rfl⟩
        have hE1 : (J : Int) + (k : Int) = (E : Int) := by omega
        have hE2 : IntKind.i64.wrap (E : Int) = (E : Int) := wrap_id (by omega) (by have := HNL.out; omega)
        have HEE := Lib.hid hE
        rcases Nat.lt_or_ge k 4 with c4 | c4
        · rcases Nat.lt_or_ge E N with cN | cN
          · have hkl : k < r.length := by rw [HRL.out]; omega
            obtain ⟨a, ha⟩ := get_lt hkl
            obtain ⟨x, hx⟩ := get_lt (L := X) (k := k) (by rw [HXL.out]; exact c4)
            have HG : Hid ((p ++ mix r (X.take k))[E]? = some a) := show _ = _ by
              have e : E = p.length + k := by rw [HPL.out, hE]
              rw [e, mix_get p r (X.take k) (by rw [List.length_take, HXL.out]; omega)]; exact ha
            have HSET : Hid ((p ++ mix r (X.take k)).set E (a ^^^ x) = p ++ mix r (X.take (k + 1))) := show _ = _ by
              have e : E = p.length + k := by rw [HPL.out, hE]
              rw [e]; exact mix_step p r X ha hx
            have HALL := Lib.hid (all_snoc X hx)
            obtain ⟨az, haz⟩ : ∃ z : Int, z = (a.toNat : Int) := ⟨_, rfl⟩
            obtain ⟨xz, hxz⟩ : ∃ z : Int, z = (x.toNat : Int) := ⟨_, rfl⟩
            obtain ⟨yz, hyz⟩ : ∃ z : Int, z = ((a ^^^ x).toNat : Int) := ⟨_, rfl⟩
            have hxor : bits .xor .u8 az xz = yz := by rw [haz, hxz, hyz]; exact xor_bytes a x
            have hNm : E < N := cN
            have hc1' : wr.cell? ⟨g, E, none⟩ = some (.int .u8 az) := by rw [haz]; exact own_cell HO.out HG.out
            have hc2' : wr.cell? ⟨bx, k, none⟩ = some (.int .u8 xz) := by
              obtain ⟨b', off', e, hlt, hcc⟩ := (HXB.out.on HW.out) k x hx
              cases e
              rw [Nat.zero_add] at hcc
              rw [hxz]; exact hcc
            have hl1 : g < wr.heap.size := HO.out.lt g rfl
            have hl2 : bx < wr.heap.size := Nat.lt_trans HGX.out hl1
            have HYZ := Lib.hid hyz
            have HXZ := Lib.hid hxz
            have hE0 : (0 : Int) ≤ (E : Int) := by omega
            clear ha hx haz hxz hyz hE hkl
            go_wp2_with fail
            go_still_tail 15, (by kernel_rfl)
            change wpList _ _ _ _ _ wr.drew
            have hd1 : wr.drew.cell? ⟨g, E, none⟩ = some (.int .u8 az) := hc1'
            have hd2 : wr.drew.frozen? ⟨g, E, none⟩ = false := own_warm (own_drew HO.out) (by rw [List.length_append, mix_len, HPL.out, HRL.out]; have := HJN.out; omega) E
            have hd3 : (wr.setCell ⟨g, E, none⟩ (.int .u8 yz)).cell? ⟨bx, k, none⟩ = some (.int .u8 xz) := (World.cell?_setCell_far _ _ _ _ (by show g ≠ bx; have := HGX.out; omega)).trans hc2'
            have HO3 : Hid (OwnY w1.heap.size (wr.setCell ⟨g, E, none⟩ (.int .u8 yz)).drew (.slice (some ⟨g, 0, none⟩) N cap) (p ++ mix r (X.take (k + 1)))) := by
              have := own_set (own_drew HO.out) (by rw [List.length_append, mix_len, HPL.out, HRL.out]; have := HJN.out; omega) E (a ^^^ x)
              rw [HSET.out, ← HYZ.out] at this; exact this
            have HW3 : Hid (Below w1.heap.size w1 (wr.setCell ⟨g, E, none⟩ (.int .u8 yz)).drew) := (HW.out.setCell HG1.out _).drew
            clear hc1' hc2'
            cases b with
            | true =>
              go_wp2_with fail
              go_roundw
              case rel => exact ⟨k + 1, true, by go_num, rfl, by omega, by rw [HRL.out]; have := HEE.out; omega, by rw [HALL.out, ← HCB.out]; rfl, HO3.out, HW3.out⟩
              case measure => simp [intOf]; omega
            | false =>
              by_cases hx0 : x = 0
              · have hz : (xz != 0) = false := by rw [HXZ.out, hx0]; rfl
                have HX0 := Lib.hid hx0
                clear hx0
                go_wp2_with fail
                go_roundw
                case rel => exact ⟨k + 1, false, by go_num, rfl, by omega, by rw [HRL.out]; have := HEE.out; omega, by rw [HALL.out, ← HCB.out, HX0.out]; rfl, HO3.out, HW3.out⟩
                case measure => simp [intOf]; omega
              · have hz : (xz != 0) = true := by
                  rw [HXZ.out]; simp
                  intro e
                  exact hx0 (UInt8.toNat_inj.mp (by simpa using e))
                have HX0 : Hid ((x == 0) = false) := show _ = _ by simpa using hx0
                clear hx0
                go_wp2_with fail
                go_roundw
                case rel => exact ⟨k + 1, true, by go_num, rfl, by omega, by rw [HRL.out]; have := HEE.out; omega, by rw [HALL.out, ← HCB.out, HX0.out]; rfl, HO3.out, HW3.out⟩
                case measure => simp [intOf]; omega
          · clear hE
            have hcN : decide ((E : Int) < (N : Int)) = false := decide_eq_false (by omega)
            have hcN2 : decide (E < N) = false := decide_eq_false (by omega)
            obtain ⟨Y, hY⟩ : ∃ Y, Y = X.take k := ⟨_, rfl⟩
            have hYl : Y.length ≤ 4 := by rw [hY, List.length_take, HXL.out]; omega
            have hYr : Y.length ≤ r.length := by rw [hY, List.length_take]; have := HKR.out; omega
            obtain ⟨S1, hS1⟩ : ∃ S, S = chk (p ++ mix r Y) := ⟨_, rfl⟩
            obtain ⟨S2, hS2⟩ : ∃ S, S = chk l := ⟨_, rfl⟩
            have hcmp : ((S1 : Int) != (S2 : Int)) = b := by
              rw [HCB.out, ← hY, hS1, hS2, HPR.out, Bool.eq_iff_iff]
              have hm := chk_mix p r hYl
              rw [List.take_of_length_le hYr] at hm
              simp only [bne_iff_ne, ne_eq, Bool.not_eq_true', Int.natCast_inj, hm, Bool.not_eq_true]
            have HI : Hid (InY wr (.slice (some ⟨g, 0, none⟩) N cap) (p ++ mix r Y)) := by rw [hY]; exact HO.out.inY
            have HTW := Lib.hid (HTA.out.on HW.out)
            have HBW := Lib.hid (bstep HBA.out HW.out)
            have H1 := Lib.hid (sum_is (s := S1) hS1.symm (by rw [List.length_append, mix_len, HPL.out, HRL.out]; have := HNL.out; have := HJN.out; omega) _ wr HI.out HTW.out)
            have H2 := Lib.hid (sum_is (s := S2) hS2.symm (by have := HL.out; omega) _ wr (HY.out.on HBW.out) HTW.out)
            rw [← HN.out] at H2
            clear hY hYl hYr hS1 hS2
            cases b <;> (
              go_wp2_with fail
              refine H1.out.mono ?_
              rintro e1 wx ⟨rfl, rfl⟩
              go_wp2_with fail
              refine H2.out.mono ?_
              rintro e1 wx ⟨rfl, rfl⟩
              go_wp2_with fail
              refine (awake_true wr HTW.out).mono ?_
              rintro ez wz ⟨rfl, hbz⟩
              have HBZ := Lib.hid (bstep HBW.out hbz)
              clear hbz
              go_wp2_with fail
              go_ret
              exact ⟨rfl, HBZ.out⟩)
        · have hc4 : decide ((k : Int) < 4) = false := decide_eq_false (by omega)
          have hc5 : decide (k < 4) = false := decide_eq_false (by omega)
          clear hE hE1 hE2
          obtain ⟨Y, hY⟩ : ∃ Y, Y = X.take k := ⟨_, rfl⟩
          have hYl : Y.length ≤ 4 := by rw [hY, List.length_take, HXL.out]; omega
          have hYr : Y.length ≤ r.length := by rw [hY, List.length_take]; have := HKR.out; omega
          obtain ⟨S1, hS1⟩ : ∃ S, S = chk (p ++ mix r Y) := ⟨_, rfl⟩
          obtain ⟨S2, hS2⟩ : ∃ S, S = chk l := ⟨_, rfl⟩
          have hcmp : ((S1 : Int) != (S2 : Int)) = b := by
            rw [HCB.out, ← hY, hS1, hS2, HPR.out, Bool.eq_iff_iff]
            have hm := chk_mix p r hYl
            rw [List.take_of_length_le hYr] at hm
            simp only [bne_iff_ne, ne_eq, Bool.not_eq_true', Int.natCast_inj, hm, Bool.not_eq_true]
          have HI : Hid (InY wr (.slice (some ⟨g, 0, none⟩) N cap) (p ++ mix r Y)) := by rw [hY]; exact HO.out.inY
          have HTW := Lib.hid (HTA.out.on HW.out)
          have HBW := Lib.hid (bstep HBA.out HW.out)
          have H1 := Lib.hid (sum_is (s := S1) hS1.symm (by rw [List.length_append, mix_len, HPL.out, HRL.out]; have := HNL.out; have := HJN.out; omega) _ wr HI.out HTW.out)
          have H2 := Lib.hid (sum_is (s := S2) hS2.symm (by have := HL.out; omega) _ wr (HY.out.on HBW.out) HTW.out)
          rw [← HN.out] at H2
          clear hY hYl hYr hS1 hS2
          cases b <;> (
            go_wp2_with fail
            refine H1.out.mono ?_
            rintro e1 wx ⟨rfl, rfl⟩
            go_wp2_with fail
            refine H2.out.mono ?_
            rintro e1 wx ⟨rfl, rfl⟩
            go_wp2_with fail
            refine (awake_true wr HTW.out).mono ?_
            rintro ez wz ⟨rfl, hbz⟩
            have HBZ := Lib.hid (bstep HBW.out hbz)
            clear hbz
            go_wp2_with fail
            go_ret
            exact ⟨rfl, HBZ.out⟩)
#print axioms walk_CrcBursts
end Go.Proofs.YtahgkohnamnljaaDoor.Crc
