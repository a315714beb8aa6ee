/- Order. -/
import Derived.Test.YtlbknnafecdakaaGraphN
namespace Go.Proofs.Ytlbknnafecdakaa.Graph
open Go.ChangeShapes Go.WideShapes Go.RowKit Go.Lib
set_option linter.unusedVariables false
set_option maxRecDepth 100000

def toI (T : List Nat) : List Int := T.map fun x : Nat => (x : Int)
theorem toI_len (T : List Nat) : (toI T).length = T.length := by simp [toI]
theorem toI_snoc (T : List Nat) (n : Nat) : toI (T ++ [n]) = toI T ++ [(n : Int)] := by simp [toI]
def OrdP (n : Int) (zs : List Pr) (E : Int) (l : List Int) : Prop :=
  (chkE n zs ≠ 0 ∧ E = chkE n zs ∧ l = []) ∨
  ∃ (N : Nat) (L : Arcs), Gph n zs N L ∧ ((ordO N L = none ∧ E = 11 ∧ l = []) ∨ ∃ R, ordO N L = some R ∧ E = 0 ∧ l = toI R)
theorem OrdP.one {n : Int} {zs : List Pr} {E F : Int} {o p : List Int} (h : OrdP n zs E o) (k : OrdP n zs F p) : E = F ∧ o = p := by
  rcases h with ⟨h1, rfl, rfl⟩ | ⟨N, L, hg, h⟩
  · rcases k with ⟨k1, rfl, rfl⟩ | ⟨M, K, kg, k⟩
    · exact ⟨rfl, rfl⟩
    · exact absurd kg.chk h1
  · rcases k with ⟨k1, rfl, rfl⟩ | ⟨M, K, kg, k⟩
    · exact absurd hg.chk k1
    · obtain ⟨rfl, rfl⟩ := hg.one kg
      rcases h with ⟨h1, rfl, rfl⟩ | ⟨R, h1, rfl, rfl⟩
      · rcases k with ⟨k1, rfl, rfl⟩ | ⟨S, k1, rfl, rfl⟩
        · exact ⟨rfl, rfl⟩
        · rw [h1] at k1; cases k1
      · rcases k with ⟨k1, rfl, rfl⟩ | ⟨S, k1, rfl, rfl⟩
        · rw [h1] at k1; cases k1
        · rw [h1] at k1; cases k1; exact ⟨rfl, rfl⟩
theorem own_getD {t : TypeId} {B : Nat} {w : World} {g n cap : Nat} {L : List Int} (h : Own eI t B w (.slice (some ⟨g, 0, none⟩) n cap) L) : ∀ j, j < L.length → w.cell? ⟨g, 0 + j, none⟩ = some (.int .i64 (L.getD j 0)) := by
  intro j hj
  rw [Nat.zero_add, List.getD_eq_getElem?_getD, List.getElem?_eq_getElem hj]
  exact h.cell (List.getElem?_eq_getElem hj)
theorem index_own {t : TypeId} {B : Nat} {w : World} {g n cap : Nat} {L : List Int} (h : Own eI t B w (.slice (some ⟨g, 0, none⟩) n cap) L) (hn : n = L.length) (hl : n ≤ 1000) :
    Calls Try.prog 32 #[.slice (some ⟨g, 0, none⟩) n cap, .int .i64 0] w fun e w' => e = .returned (.int .i64 (Lib.idxOf (L.take n) 0)) ∧ w' = w :=
  Try.slices_Index_int g 0 n cap L 0 w (by omega) (by omega) (own_getD h)
/-- The order that grows, beside the waits. -/
structure Ord (N : Nat) (L : Arcs) (gW : Nat) (w3 : World) (k : Nat) (T : List Nat) (ws : List Int) (v : Value) (wr : World) : Prop where
  len : T.length = k
  top : Top N L T
  go : ordF N L (N - k) T = ordO N L
  wt : Wt N (wt N L T) ws
  own : Own eI 3 gW wr (.slice (some ⟨gW, 0, none⟩) N N) ws
  out : Own eI 3 gW wr v (toI T)
  apt : v.ownBlock ≠ some gW
  bel : Below gW w3 wr

set_option maxHeartbeats 3200000 in
theorem graph_Order (n : Int) (zs : List Pr) (A : Option Addr) (c : Nat) (w : World) (ha : Ars w A zs) (hm : zs.length ≤ 9223372036854775807) :
    Calls Try.prog 16 #[.agg #[.int .i64 n, .slice A zs.length c]] w (Res eI w (OrdP n zs)) := by
  have HA := Lib.hid ha
  clear ha
  go_enter Try.func16, Try.ntmps16
  go_upto_region 1 with fail
  obtain ⟨w1, hw1⟩ : ∃ W, w.alloc (.cells #[.int .i64 n, .slice A zs.length c] 24) = W := ⟨_, rfl⟩
  have HX1 : Hid (Bx w1 w.heap.size n A zs.length c) := hw1 ▸ Bx.new _ _ _ _ _ _
  have HB1 : Hid (Below w.heap.size w w1) := hw1 ▸ below_alloc _ _
  rw [hw1]
  clear hw1
  obtain ⟨_, x0, x1⟩ := HX1.out
  go_wp2_with fail
  refine (graph_Check n zs A c w1 (HA.out.on HB1.out) hm).mono ?_
  rintro e w2 ⟨rfl, hb2⟩
  have HB2 := Lib.hid (bstep HB1.out hb2)
  have HX2 := Lib.hid (HX1.out.on hb2)
  clear hb2 x0 x1
  by_cases hz : chkE n zs = 0
  · obtain ⟨N, L, hg⟩ := gph_of hz
    have HG := Lib.hid hg
    rw [hz]
    obtain rfl := hg.n
    obtain rfl := hg.zs
    have hlen : Hid ((asI L).length = L.length) := asI_len L
    have hN := hg.le
    clear hz hg
    obtain ⟨_, x0, x1⟩ := HX2.out
    have HH := Lib.hid (graph_headsOf N L A c w2 HG.out.le HG.out.ln HG.out.ok (HA.out.on HB2.out))
    rw [← hlen.out] at HH
    go_wp2_with fail
    refine HH.out.mono ?_
    rintro e w3 ⟨A3, H, rfl, hH, hd, hb3⟩
    have HB3 := Lib.hid (bstep HB2.out hb3)
    have HX3 := Lib.hid (HX2.out.on hb3)
    have HHD := Lib.hid hd
    have HIH := Lib.hid hH
    clear hH hd hb3 x0 x1
    obtain ⟨_, x0, x1⟩ := HX3.out
    have hmk := fun W => make_ints N (by omega) W
    have HO1 := Lib.hid (own_made eI 3 w3 N 0 (by omega))
    go_upto_region 6 with fail
    obtain ⟨wm, hwm⟩ : ∃ W, w3.alloc (.cells (madeCells #[.int .i64 0] N) 3) = W := ⟨_, rfl⟩
    have HBM : Hid (Below w3.heap.size w3 wm) := hwm ▸ below_alloc _ _
    have HOM : Hid (Own eI 3 w3.heap.size wm (.slice (some ⟨w3.heap.size, 0, none⟩) N N) (List.replicate N 0)) := hwm ▸ HO1.out
    rw [hwm]
    clear hwm HO1 hmk x0 x1
    go_wp2_with fail
    go_loopw [27] (fun i wr => ∃ (k : Nat) (ws : List Int), k ≤ N ∧ i = .int .i64 k ∧ Wt N (fun m => (cw L k m : Int)) ws ∧ Own eI 3 w3.heap.size wr (.slice (some ⟨w3.heap.size, 0, none⟩) N N) ws ∧ Below w3.heap.size w3 wr) (fun i _ => N - (intOf i).toNat)
    case atStart => exact ⟨0, _, Nat.zero_le _, rfl, ⟨by simp, fun m hm => by rw [List.getElem?_replicate, if_pos hm]; simp [cw]⟩, HOM.out, HBM.out⟩
    case round =>
      clear HOM HBM
      obtain ⟨k, ws, hk, rfl, hwt, hown, hbel⟩ := hrel
      have HWT := Lib.hid hwt
      have HO := Lib.hid hown
      have HW := Lib.hid hbel
      clear hwt hown hbel
      rcases Nat.lt_or_ge k N with hlt | hge
      · obtain ⟨l, hl⟩ := get_lt (L := H) (k := k) (by rw [HIH.out.1]; exact hlt)
        have HL1 := Lib.hid (HIH.out.2 k l hl)
        obtain ⟨b, off, rfl, hb, A', c', e1, e2, e3, e4⟩ := HHD.out k l hl
        have e1 := (HW.out.cell (p := ⟨b, off + k, none⟩) hb).trans e1
        have HE4 := Lib.hid e4
        obtain ⟨q, hq⟩ : ∃ q, q = l.length := ⟨_, rfl⟩
        have HQ := Lib.hid hq
        have hq5 : q ≤ 512 := by rw [hq]; have := HL1.out.2.1; have := HG.out.ln; omega
        rw [← hq] at e1 e2
        have i1 : (k : Int) < (N : Int) := by omega
        have i2 : (0 : Int) ≤ (k : Int) := by omega
        clear hq hl e4 hb
        go_wp2_with fail
        clear e1
        go_loopw [33] (fun i wr => ∃ (j : Nat) (ws : List Int), j ≤ q ∧ i = .int .i64 j ∧ Wt N (cf L k l j) ws ∧ Own eI 3 w3.heap.size wr (.slice (some ⟨w3.heap.size, 0, none⟩) N N) ws ∧ Below w3.heap.size w3 wr) (fun i _ => q - (intOf i).toNat)
        case atStart => exact ⟨0, ws, Nat.zero_le _, rfl, HWT.out.same fun m _ => cf_start, HO.out, HW.out⟩
        case round =>
          clear HWT HO HW
          obtain ⟨j, ws, hj, rfl, hwt, hown, hbel⟩ := hrel
          have HWT := Lib.hid hwt
          have HO := Lib.hid hown
          have HW := Lib.hid hbel
          clear hwt hown hbel
          rcases Nat.lt_or_ge j q with hlt2 | hge2
          · obtain ⟨z, hz⟩ := get_lt (L := l) (k := j) (by rw [← HQ.out]; exact hlt2)
            obtain ⟨x, rfl, hnx⟩ := (HL1.out.2.2 z).mp (List.mem_of_getElem? hz)
            have hxN := (HG.out.ok k x hnx).2
            obtain ⟨b2, off2, rfl, hb2, f1⟩ := HE4.out j _ hz
            have f1 := (HW.out.cell (p := ⟨b2, off2 + j, none⟩) hb2).trans f1
            obtain ⟨V, hV⟩ : ∃ V, V = cw L k x := ⟨_, rfl⟩
            have hV5 : V ≤ 64 := by rw [hV]; have := cw_le (L := L) (i := k) (m := x); omega
            have hcf := cf_at HL1.out.1 hz (L := L) (i := k)
            rw [← hV] at hcf
            have f2 := HO.out.cell (HWT.out.2 x hxN)
            rw [hcf.1] at f2
            have f3 := HO.out.warm (by rw [HWT.out.1]) x
            have l3 : (x : Int) < (N : Int) := by omega
            have l4 : (0 : Int) ≤ (x : Int) := by omega
            have HWT2 : Hid (Wt N (cf L k l (j + 1)) (ws.set x ((V : Int) + 1))) := HWT.out.set hxN hcf.2 fun m _ hne => cf_other hz hne
            have HO2 := Lib.hid (HO.out.set (by rw [HWT.out.1]) x ((V : Int) + 1))
            have HW2 := Lib.hid (HW.out.setCell (p := ⟨w3.heap.size, x, none⟩) (Nat.le_refl _) (.int .i64 ((V : Int) + 1)))
            clear hz hnx hb2 hV hcf
            go_wp2_with fail
            go_roundw
            case rel => exact ⟨j + 1, _, by omega, by go_num, HWT2.out, HO2.out, HW2.out⟩
            case measure => simp [intOf]; omega
          · have HJ : Hid (j = l.length) := (by rw [← HQ.out]; omega : j = l.length)
            have HWT2 : Hid (Wt N (fun m => (cw L (k + 1) m : Int)) ws) := HWT.out.same fun m _ => by rw [HJ.out]; exact (cf_done HL1.out.2.2).symm
            go_wp2_with fail
            go_roundw
            case rel => exact ⟨k + 1, ws, by omega, by go_num, HWT2.out, HO.out, HW.out⟩
            case measure => simp [intOf]; omega
      · obtain rfl : N = k := by omega
        have HWT2 : Hid (Wt N (wt N L []) ws) := HWT.out.same fun m _ => cw_wt
        obtain ⟨_, x0, x1⟩ := HX3.out.on HW.out
        have hmk := fun W => make_room N (by omega) W
        have HO1 := Lib.hid (own_room (α := Int) eI 3 wr N (.int .i64 0) (by omega))
        go_upto_region 16 with fail
        obtain ⟨wo, hwo⟩ : ∃ W, wr.alloc (.cells (madeCells #[.int .i64 0] N) 3) = W := ⟨_, rfl⟩
        have HORD : Hid (Ord N L w3.heap.size w3 0 [] ws (.slice (some ⟨wr.heap.size, 0, none⟩) 0 N) wo) := by
          have hlt := (HO.out.lt w3.heap.size rfl).2
          subst hwo
          exact ⟨rfl, Top.nil N L, rfl, HWT2.out, HO.out.alloc _, HO1.out.less (Nat.le_of_lt hlt), (fun e => by
            have : wr.heap.size = w3.heap.size := by simpa [Value.ownBlock] using e
            omega), HW.out.alloc (Nat.le_of_lt hlt) _⟩
        obtain ⟨v0, hv0⟩ : ∃ v, Value.slice (some ⟨wr.heap.size, 0, none⟩) 0 N = v := ⟨_, rfl⟩
        rw [hwo]
        rw [hv0] at HORD ⊢
        clear hwo hv0 HO1 hmk x0 x1 HWT2 HO HW HWT
        have HBB := Lib.hid HB3.out
        obtain ⟨_, x0, x1⟩ := HX3.out.on HORD.out.bel
        go_wp2_with fail
        go_loopw [11, 50] (fun v i wr => ∃ (k : Nat) (T : List Nat) (ws : List Int), k ≤ N ∧ i = .int .i64 k ∧ Ord N L w3.heap.size w3 k T ws v wr) (fun _ i _ => N - (intOf i).toNat)
        case atStart => exact ⟨0, [], ws, Nat.zero_le _, rfl, HORD.out⟩
        case round =>
          clear HORD x0 x1 hge hk
          obtain ⟨k, T, ws, hk, rfl, hord⟩ := hrel
          obtain ⟨vo, rfl⟩ : ∃ v, u11 = v := ⟨_, rfl⟩
          have HORD := Lib.hid hord
          clear hord
          rcases Nat.lt_or_ge k N with hlt | hge
          · have i1 : (k : Int) < (N : Int) := by omega
            have HIX := Lib.hid (index_own HORD.out.own HORD.out.wt.1.symm (by omega))
            cases hnx : nxt N L T with
            | none =>
              have HP : Hid (OrdP (N : Int) (asI L) 11 []) := Or.inr ⟨N, L, HG.out, Or.inl ⟨(by rw [← HORD.out.go]; exact ordF_no (by omega) hnx), rfl, rfl⟩⟩
              rw [idx_none HG.out.ok HORD.out.wt hnx] at HIX
              have HBZ : Hid (Below w.heap.size w wr) := bstep HBB.out HORD.out.bel
              clear hnx
              go_wp2_with fail
              refine HIX.out.mono ?_
              rintro e w4 ⟨rfl, rfl⟩
              go_wp2_with fail
              go_ret2
              exact Res.no HP.out HBZ.out
            | some nn =>
              obtain ⟨hn1, hn2, _⟩ := nxt_some.mp hnx
              have HF := Lib.hid hn2
              have HGO : Hid (ordF N L (N - (k + 1)) (T ++ [nn]) = ordO N L) := (by rw [← HORD.out.go, ordF_go (by omega) hnx]; rfl : _ = ordO N L)
              have HTP := Lib.hid (HORD.out.top.snoc hn1 hn2)
              rw [idx_some HG.out.ok HORD.out.wt hnx] at HIX
              have j1 : (nn : Int) < (N : Int) := by omega
              have j2 : (0 : Int) ≤ (nn : Int) := by omega
              have j3 : decide ((nn : Int) < 0) = false := decide_eq_false (by omega)
              have HN1 := Lib.hid hn1
              have hTl := HORD.out.len
              have HTL : Hid ((toI T).length + 1 ≤ 1000000) := (by rw [toI_len]; omega : (toI T).length + 1 ≤ 1000000)
              clear hnx hn2 hTl
              go_wp2_with fail
              refine HIX.out.mono ?_
              rintro e w4 ⟨rfl, rfl⟩
              go_wp2_with (at_builtin; refine append_int rfl _ _ rfl w3.heap.size u11 (toI T) rfl (HORD.out.out.alloc _) w4.heap.size 1 (nn : Int) rfl (by simp) HTL.out (Nat.le_trans (HORD.out.bel.size) (below_alloc _ _).size) ?_; intro v' w5 hown' hg' hat; refine Hid.out ?_)
              refine Lib.hid ?_
              have hwl := (HORD.out.own.lt w3.heap.size rfl).2
              have HOW : Hid (Own eI 3 w3.heap.size w5 (.slice (some ⟨w3.heap.size, 0, none⟩) N N) ws) := (HORD.out.own.alloc _).keep fun b hb => hg'.block b (by
                have : w3.heap.size = b := by simpa [Value.ownBlock] using hb
                simp; omega) fun e => HORD.out.apt (by
                have : w3.heap.size = b := by simpa [Value.ownBlock] using hb
                rw [this]; exact e.symm)
              have HAP : Hid (v'.ownBlock ≠ some w3.heap.size) := fun e => by
                rcases hat with h1 | h1
                · exact HORD.out.apt (h1 ▸ e)
                · rw [e] at h1
                  have := Option.some.inj h1
                  simp at this
                  omega
              have HB5 : Hid (Below w3.heap.size w3 w5) := (HORD.out.bel.alloc (HORD.out.bel.size) _).trans ((HORD.out.out.alloc _).below hg' (Nat.le_trans (HORD.out.bel.size) (below_alloc _ _).size))
              have HOO := Lib.hid hown'
              rw [← toI_snoc] at HOO
              clear hown' hg' hat hwl
              have c1 := HOW.out.cell (HORD.out.wt.2 nn HN1.out)
              have c2 := HOW.out.warm (by rw [HORD.out.wt.1]) nn
              have HOW2 := Lib.hid (HOW.out.set (by rw [HORD.out.wt.1]) nn (-1))
              have HOO2 := Lib.hid (HOO.out.other (p := ⟨w3.heap.size, nn, none⟩) HAP.out (.int .i64 (-1)))
              have HB6 := Lib.hid (HB5.out.setCell (p := ⟨w3.heap.size, nn, none⟩) (Nat.le_refl _) (.int .i64 (-1)))
              have HWT0 : Hid (Wt N (fun m => df N L T nn [] 0 m) (ws.set nn (-1))) := HORD.out.wt.set HN1.out df_self fun m _ hne => df_start hne
              go_upto_region 23 with fail
              obtain ⟨w6, hw6⟩ : ∃ W, w5.setCell ⟨w3.heap.size, nn, none⟩ (.int .i64 (-1)) = W := ⟨_, rfl⟩
              have HOW6 : Hid (Own eI 3 w3.heap.size w6 (.slice (some ⟨w3.heap.size, 0, none⟩) N N) (ws.set nn (-1))) := hw6 ▸ HOW2.out
              have HOO6 : Hid (Own eI 3 w3.heap.size w6 v' (toI (T ++ [nn]))) := hw6 ▸ HOO2.out
              have HB66 : Hid (Below w3.heap.size w3 w6) := hw6 ▸ HB6.out
              rw [hw6]
              clear hw6 c1 c2 HOW2 HOO2 HB6 HOO HB5 HOW
              obtain ⟨l, hl⟩ := get_lt (L := H) (k := nn) (by rw [HIH.out.1]; exact HN1.out)
              have HL1 := Lib.hid (HIH.out.2 nn l hl)
              obtain ⟨b, off, rfl, hb, A', c', e1, e2, e3, e4⟩ := HHD.out nn l hl
              have e1 := (HB66.out.cell (p := ⟨b, off + nn, none⟩) hb).trans e1
              have HE4 := Lib.hid e4
              obtain ⟨q, hq⟩ : ∃ q, q = l.length := ⟨_, rfl⟩
              have HQ := Lib.hid hq
              have hq5 : q ≤ 512 := by rw [hq]; have := HL1.out.2.1; have := HG.out.ln; omega
              rw [← hq] at e1 e2
              have HWT1 : Hid (Wt N (df N L T nn l 0) (ws.set nn (-1))) := HWT0.out.same fun m _ => by unfold df; rfl
              clear hq hl e4 hb
              go_wp2_with fail
              clear e1
              go_loopw [68] (fun i wr => ∃ (j : Nat) (ws : List Int), j ≤ q ∧ i = .int .i64 j ∧ Wt N (df N L T nn l j) ws ∧ Own eI 3 w3.heap.size wr (.slice (some ⟨w3.heap.size, 0, none⟩) N N) ws ∧ Own eI 3 w3.heap.size wr v' (toI (T ++ [nn])) ∧ Below w3.heap.size w3 wr) (fun i _ => q - (intOf i).toNat)
              case atStart => exact ⟨0, _, Nat.zero_le _, rfl, HWT1.out, HOW6.out, HOO6.out, HB66.out⟩
              case round =>
                clear HWT1 HWT0 HOW6 HOO6 HB66
                obtain ⟨j, ws, hj, rfl, hwt, hown, hoo, hbel⟩ := hrel
                have HWT := Lib.hid hwt
                have HO := Lib.hid hown
                have HOO := Lib.hid hoo
                have HW := Lib.hid hbel
                clear hwt hown hoo hbel
                rcases Nat.lt_or_ge j q with hlt2 | hge2
                · obtain ⟨z, hz⟩ := get_lt (L := l) (k := j) (by rw [← HQ.out]; exact hlt2)
                  obtain ⟨x, rfl, hnx⟩ := (HL1.out.2.2 z).mp (List.mem_of_getElem? hz)
                  have hxN := (HG.out.ok nn x hnx).2
                  obtain ⟨hxT, hxn⟩ := head_new HORD.out.top HF.out hnx
                  obtain ⟨b2, off2, rfl, hb2, f1⟩ := HE4.out j _ hz
                  have f1 := (HW.out.cell (p := ⟨b2, off2 + j, none⟩) hb2).trans f1
                  obtain ⟨V, hV⟩ : ∃ V, V = wcnt N L T x := ⟨_, rfl⟩
                  have hV5 : V ≤ 64 := by rw [hV]; have : wcnt N L T x ≤ N := cnt_le; omega
                  have hcf := df_at (N := N) (L := L) HL1.out.1 hz hxT hxn
                  rw [← hV] at hcf
                  have f2 := HO.out.cell (HWT.out.2 x hxN)
                  rw [hcf.1] at f2
                  have f3 := HO.out.warm (by rw [HWT.out.1]) x
                  have l3 : (x : Int) < (N : Int) := by omega
                  have l4 : (0 : Int) ≤ (x : Int) := by omega
                  have HWT2 : Hid (Wt N (df N L T nn l (j + 1)) (ws.set x ((V : Int) - 1))) := HWT.out.set hxN hcf.2 fun m _ hne => df_other hz hne
                  have HO2 := Lib.hid (HO.out.set (by rw [HWT.out.1]) x ((V : Int) - 1))
                  have HOO2 := Lib.hid (HOO.out.other (p := ⟨w3.heap.size, x, none⟩) HAP.out (.int .i64 ((V : Int) - 1)))
                  have HW2 := Lib.hid (HW.out.setCell (p := ⟨w3.heap.size, x, none⟩) (Nat.le_refl _) (.int .i64 ((V : Int) - 1)))
                  clear hz hnx hb2 hV hcf hxT hxn
                  go_wp2_with fail
                  go_roundw
                  case rel => exact ⟨j + 1, _, by omega, by go_num, HWT2.out, HO2.out, HOO2.out, HW2.out⟩
                  case measure => simp [intOf]; omega
                · have HJ : Hid (j = l.length) := (by rw [← HQ.out]; omega : j = l.length)
                  have HWT2 : Hid (Wt N (wt N L (T ++ [nn])) ws) := HWT.out.same fun m _ => by rw [HJ.out]; exact (df_done HN1.out HF.out.1 HL1.out.2.2).symm
                  have HL2 : Hid ((T ++ [nn]).length = k + 1) := (by rw [List.length_append, HORD.out.len]; rfl : (T ++ [nn]).length = k + 1)
                  go_wp2_with fail
                  go_roundw
                  case rel => exact ⟨k + 1, T ++ [nn], ws, by omega, by go_num, HL2.out, HTP.out, HGO.out, HWT2.out, HO.out, HOO.out, HAP.out, HW.out⟩
                  case measure => simp [intOf]; omega
          · have HK : Hid (k = N) := (by omega : k = N)
            have HP : Hid (OrdP (N : Int) (asI L) 0 (toI T)) := Or.inr ⟨N, L, HG.out, Or.inr ⟨T, (by
              have := HORD.out.go
              rw [HK.out, Nat.sub_self] at this
              exact this.symm), rfl, rfl⟩⟩
            have HBZ : Hid (Below w.heap.size w wr) := bstep HBB.out HORD.out.bel
            obtain ⟨A9, c9, e9, _, _, h9⟩ := HORD.out.out.inS
            have hT9 : (toI T).length = N := by rw [toI_len, HORD.out.len, HK.out]
            have HT9 := Lib.hid hT9
            have H9 := Lib.hid h9
            rw [hT9] at e9
            subst e9
            clear hT9 h9
            go_wp2_with fail
            go_ret2
            exact ⟨A9, c9, toI T, 0, by rw [HT9.out]; rfl, by rw [HT9.out]; exact HG.out.le, HP.out, H9.out, HBZ.out⟩
  · have HP : Hid (OrdP n zs (chkE n zs) []) := Or.inl ⟨hz, rfl, rfl⟩
    have h1 : (chkE n zs == 0) = false := beq_false_of_ne hz
    have h2 : (chkE n zs != 0) = true := by simp [hz]
    obtain ⟨q, hq⟩ : ∃ q, chkE n zs = q := ⟨_, rfl⟩
    rw [hq] at h1 h2 HP ⊢
    clear hz hq
    go_wp2_with fail
    go_ret2
    exact Res.no HP.out HB2.out
#print axioms graph_Order
end Go.Proofs.Ytlbknnafecdakaa.Graph
