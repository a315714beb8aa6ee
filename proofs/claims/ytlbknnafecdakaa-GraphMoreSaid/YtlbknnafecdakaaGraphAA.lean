/- stepsTo. -/
import Derived.Test.YtlbknnafecdakaaGraphZ
namespace Go.Proofs.Ytlbknnafecdakaa.Graph
open Go.ChangeShapes Go.WideShapes Go.RowKit Go.Lib
set_option linter.unusedVariables false
set_option maxRecDepth 100000

theorem rev_len (L : Arcs) : (rev L).length = L.length := by simp [rev]
theorem toI_drop (V : List Nat) (i : Nat) (b : Nat) (h : i ≤ V.length) : toI ((V ++ [b]).drop i) = toI (V.drop i) ++ [(b : Int)] := by
  rw [List.drop_append_of_le_length h, toI_snoc]
theorem drop_at {V : List Nat} {i x : Nat} (h : V[i]? = some x) : toI (V.drop i) = (x : Int) :: toI (V.drop (i + 1)) := by
  have hl := lt_of_get h
  rw [List.drop_eq_getElem_cons hl]
  rw [List.getElem?_eq_getElem hl] at h
  have := Option.some.inj h
  rw [this]; rfl

set_option maxHeartbeats 3200000 in
theorem graph_stepsTo (N : Nat) (L : Arcs) (n : Nat) (A : Option Addr) (c : Nat) (w : World) (hN : N ≤ 64) (hL : L.length ≤ 512) (hok : Ok N L) (hn : n < N) (ha : Ars w A (asI L)) :
    Calls Try.prog 36 #[.agg #[.int .i64 (N : Int), .slice A L.length c], .int .i64 (n : Int)] w fun e w' => ∃ (g : Nat) (d : List Int), e = .returned (.slice (some ⟨g, 0, none⟩) N N) ∧ w.heap.size ≤ g ∧ IsS N L n d ∧ Cl eI w' (some ⟨g, 0, none⟩) d ∧ Below w.heap.size w w' := by
  have HA := Lib.hid ha
  have HOK := Lib.hid hok
  have HN := Lib.hid hn
  have HL := Lib.hid hL
  have i1 : (n : Int) < (N : Int) := by omega
  have i2 : (0 : Int) ≤ (n : Int) := by omega
  clear ha hok
  go_enter Try.func36, Try.ntmps36
  go_upto_region 1 with fail
  obtain ⟨w1, hw1⟩ : ∃ W, w.alloc (.cells #[.int .i64 (N : Int), .slice A L.length c] 24) = W := ⟨_, rfl⟩
  have HX1 : Hid (Bx w1 w.heap.size (N : Int) A L.length c) := hw1 ▸ Bx.new _ _ _ _ _ _
  have HB1 : Hid (Below w.heap.size w w1) := hw1 ▸ below_alloc _ _
  rw [hw1]
  clear hw1
  obtain ⟨_, x0, x1⟩ := HX1.out
  have HTU := Lib.hid (graph_turned (N : Int) (asI L) A c w1 (HA.out.on HB1.out) (by rw [asI_len]; omega))
  rw [asI_len] at HTU
  go_wp2_with fail
  refine HTU.out.mono ?_
  rintro e w2 ⟨A2, rfl, ha2, _, hb2⟩
  have HB2 := Lib.hid (bstep HB1.out hb2)
  have HX2 := Lib.hid (HX1.out.on hb2)
  rw [swp_asI] at ha2
  have HH := Lib.hid (graph_headsOf N (rev L) A2 L.length w2 hN (by rw [rev_len]; exact HL.out) (ok_rev HOK.out) ha2)
  rw [rev_len] at HH
  clear ha2 hb2 x0 x1
  go_wp2_with fail
  refine HH.out.mono ?_
  rintro e w3 ⟨A3, T, rfl, hT, hd, hb3⟩
  have HB3 := Lib.hid (bstep HB2.out hb3)
  have HX3 := Lib.hid (HX2.out.on hb3)
  have HIT := Lib.hid hT
  obtain ⟨_, x0, x1⟩ := HX3.out
  have HRP := Lib.hid (repeat_int N (N : Int) w3.heap.size 1 (w3.alloc (.cells #[.int .i64 (N : Int)] 3)) hN (Nat.lt_of_le_of_lt (Nat.zero_le _) hn) (new_one _ _ _ rfl) (by simp))
  have HHD0 := Lib.hid hd
  clear hT hd hb3
  obtain ⟨wq, hwq⟩ : ∃ W, w3.alloc (.cells #[.int .i64 (N : Int)] 3) = W := ⟨_, rfl⟩
  have HBQ : Hid (Below w.heap.size w wq) := hwq ▸ bstep HB3.out (below_alloc _ _)
  have HXQ : Hid (Bx wq w.heap.size (N : Int) A L.length c) := hwq ▸ HX3.out.on (below_alloc _ _)
  have HHD : Hid (Hd wq A3 T) := hwq ▸ HHD0.out.on (below_alloc _ _)
  rw [hwq] at HRP
  have HWQ := Lib.hid hwq
  clear hwq
  go_wp2_with (first | (rw [HWQ.out]; refine HRP.out.mono ?_; rintro e w4 ⟨rfl, hst, hb4⟩; refine Hid.out ?_) | fail)
  refine Lib.hid ?_
  have HST := Lib.hid hst
  have HB4 : Hid (Below wq.heap.size wq w4) := hb4
  clear hst hb4 x0 x1
  have f2 := HST.out.cell (j := n) (b := (N : Int)) (by rw [List.getElem?_replicate, if_pos HN.out])
  have f3 := HST.out.warm (by simp) n
  have HST2 := Lib.hid (HST.out.set (by simp) n 0)
  have HB5 := Lib.hid (HB4.out.setCell (p := ⟨wq.heap.size, n, none⟩) (Nat.le_refl _) (.int .i64 0))
  go_upto_region 4 with fail
  obtain ⟨w5, hw5⟩ : ∃ W, w4.setCell ⟨wq.heap.size, n, none⟩ (.int .i64 0) = W := ⟨_, rfl⟩
  have HST5 : Hid (Own eI 3 wq.heap.size w5 (.slice (some ⟨wq.heap.size, 0, none⟩) N N) ((List.replicate N (N : Int)).set n 0)) := hw5 ▸ HST2.out
  have HB55 : Hid (Below wq.heap.size wq w5) := hw5 ▸ HB5.out
  rw [hw5]
  clear hw5 f2 f3 HST2 HB5 HST
  have HQL := Lib.hid (Que.lit w5 (n : Int))
  go_upto_region 5 with fail
  obtain ⟨w6, hw6⟩ : ∃ W, w5.alloc (.cells #[.int .i64 (n : Int)] 3) = W := ⟨_, rfl⟩
  have HST6 : Hid (Own eI 3 wq.heap.size w6 (.slice (some ⟨wq.heap.size, 0, none⟩) N N) ((List.replicate N (N : Int)).set n 0)) := hw6 ▸ HST5.out.alloc _
  have HB6 : Hid (Below wq.heap.size wq w6) := hw6 ▸ HB55.out.alloc HB55.out.size _
  have HQ6 : Hid (Que wq.heap.size w6 w5.heap.size 0 1 1 [(n : Int)]) := by
    have h := HQL.out
    rw [hw6] at h
    exact ⟨HB55.out.size, h.len, h.fit, h.row⟩
  have HNE : Hid (w5.heap.size ≠ wq.heap.size) := by
    have := (HST5.out.lt wq.heap.size rfl).2
    show _ ≠ _
    omega
  rw [hw6]
  clear hw6 HQL HST5
  go_loopg [7] N (fun gk v wr => ∃ (V : List Nat) (i : Nat) (d : List Int) (b off m cap : Nat), v = .slice (some ⟨b, off, none⟩) m cap ∧ Bf N L n V i [] 0 d ∧ i ≤ V.length ∧ N - i ≤ gk ∧ Que wq.heap.size wr b off m cap (toI (V.drop i)) ∧ Own eI 3 wq.heap.size wr (.slice (some ⟨wq.heap.size, 0, none⟩) N N) d ∧ b ≠ wq.heap.size ∧ Below wq.heap.size wq wr)
  case atStart => exact ⟨[n], 0, _, w5.heap.size, 0, 1, 1, rfl, Bf.start HN.out, Nat.zero_le _, Nat.sub_le _ _, HQ6.out, HST6.out, HNE.out, HB6.out⟩
  case round =>
    clear HST6 HB6 HQ6 HNE
    obtain ⟨V, i, d, b, off, m, cap, rfl, hbf, hiV, hgk, hq, ho, hne, hbel⟩ := hrel
    have HBF := Lib.hid hbf
    have HQU := Lib.hid hq
    have HO := Lib.hid ho
    have HNE := Lib.hid hne
    have HW := Lib.hid hbel
    have HML : Hid (m = V.length - i) := (by rw [hq.len, toI_len, List.length_drop] : m = V.length - i)
    have HGK := Lib.hid hgk
    clear hbf hq ho hbel hgk
    rcases Nat.lt_or_ge i V.length with hlt | hge
    · obtain ⟨x, hx⟩ := get_lt hlt
      have hxN := HBF.out.lt x (List.mem_of_getElem? hx)
      have hq1 := HQU.out
      rw [drop_at hx] at hq1
      have c0 := hq1.cell (j := 0) rfl
      rw [Nat.add_zero] at c0
      have hm0 : 0 < m := by rw [HML.out]; omega
      have hm1 : (0 : Int) < (m : Int) := by omega
      obtain ⟨off2, m2, cap2, hsl, hq2⟩ := hq1.tail
      have HQ2 := Lib.hid hq2
      have HX := Lib.hid hx
      obtain ⟨l, hl⟩ := get_lt (L := T) (k := x) (by rw [HIT.out.1]; exact hxN)
      have HL1 := Lib.hid (HIT.out.2 x l hl)
      obtain ⟨b1, off1, rfl, hb1, A', c', e1, e2, e3, e4⟩ := HHD.out x l hl
      have e1 := (HW.out.cell (p := ⟨b1, off1 + x, none⟩) hb1).trans e1
      have HE4 := Lib.hid e4
      obtain ⟨q, hq⟩ : ∃ q, q = l.length := ⟨_, rfl⟩
      have HQ := Lib.hid hq
      have hq5 : q ≤ 512 := by rw [hq]; have := HL1.out.2.1; rw [rev_len] at this; have := HL.out; omega
      rw [← hq] at e1 e2
      have j1 : (x : Int) < (N : Int) := by omega
      have j2 : (0 : Int) ≤ (x : Int) := by omega
      have HXN := Lib.hid hxN
      have HLT := Lib.hid hlt
      clear hq hl e4 hb1 hx hq1 hq2
      go_wp2_with fail
      clear e1 c0 hsl
      obtain ⟨v1, hv1⟩ : ∃ v, Value.slice (some ⟨b, off2, none⟩) m2 cap2 = v := ⟨_, rfl⟩
      have HIN : Hid (∃ (V : List Nat) (d : List Int) (b off m cap : Nat), v1 = .slice (some ⟨b, off, none⟩) m cap ∧ Bf N L n V i l 0 d ∧ V[i]? = some x ∧ Que wq.heap.size wr b off m cap (toI (V.drop (i + 1))) ∧ Own eI 3 wq.heap.size wr (.slice (some ⟨wq.heap.size, 0, none⟩) N N) d ∧ b ≠ wq.heap.size ∧ Below wq.heap.size wq wr) := ⟨V, d, b, off2, m2, cap2, hv1.symm, HBF.out.list, HX.out, HQ2.out, HO.out, HNE.out, HW.out⟩
      rw [hv1]
      clear hv1 HBF HQU HO HNE HW HML HQ2 HX
      go_loopw [7, 38] (fun v jj wr => ∃ (j : Nat) (V : List Nat) (d : List Int) (b off m cap : Nat), j ≤ q ∧ jj = .int .i64 j ∧ v = .slice (some ⟨b, off, none⟩) m cap ∧ Bf N L n V i l j d ∧ V[i]? = some x ∧ Que wq.heap.size wr b off m cap (toI (V.drop (i + 1))) ∧ Own eI 3 wq.heap.size wr (.slice (some ⟨wq.heap.size, 0, none⟩) N N) d ∧ b ≠ wq.heap.size ∧ Below wq.heap.size wq wr) (fun _ jj _ => q - (intOf jj).toNat)
      case atStart =>
        obtain ⟨V, d, b, off, m, cap, h1, h2⟩ := HIN.out
        exact ⟨0, V, d, b, off, m, cap, Nat.zero_le _, rfl, h1, h2⟩
      case round =>
        clear HIN
        obtain ⟨j, V, d, b, off, m, cap, hj, rfl, rfl, hbf, hx, hq, ho, hne, hbel⟩ := hrel
        have HBF := Lib.hid hbf
        have HQU := Lib.hid hq
        have HO := Lib.hid ho
        have HNE := Lib.hid hne
        have HW := Lib.hid hbel
        have HX := Lib.hid hx
        clear hbf hq ho hbel hx
        obtain ⟨_, x0, x1⟩ := HXQ.out.on HW.out
        rcases Nat.lt_or_ge j q with hlt2 | hge2
        · obtain ⟨z, hz⟩ := get_lt (L := l) (k := j) (by rw [← HQ.out]; exact hlt2)
          obtain ⟨y, rfl, hyx⟩ := (HL1.out.2.2 z).mp (List.mem_of_getElem? hz)
          have hyx' := rev_mem.mp hyx
          have hyN := (HOK.out y x hyx').1
          obtain ⟨b2, off2, rfl, hb2, f1⟩ := HE4.out j _ hz
          have f1 := (HW.out.cell (p := ⟨b2, off2 + j, none⟩) hb2).trans f1
          have HZ := Lib.hid hz
          have HYX := Lib.hid hyx'
          have HYN := Lib.hid hyN
          have l3 : (y : Int) < (N : Int) := by omega
          have l4 : (0 : Int) ≤ (y : Int) := by omega
          clear hz hyx hyx' hb2
          by_cases hyV : y ∈ V
          · obtain ⟨u, hu, huN⟩ := HBF.out.seen hyV
            have f2 : wr.cell? ⟨wq.heap.size, y, none⟩ = some (.int .i64 (u : Int)) := HO.out.cell hu
            have s1 : ((u : Int) == (N : Int)) = false := beq_false_of_ne (by omega)
            have HBF2 := Lib.hid (HBF.out.skip hyV HZ.out)
            clear hu hyV
            go_wp2_with fail
            go_quiet (fail)
            go_wp2_with fail
            go_roundw
            case rel => exact ⟨j + 1, V, d, b, off, m, cap, by omega, by go_num, rfl, HBF2.out, HX.out, HQU.out.keep rfl, HO.out.drewN _, HNE.out, below_drewN HW.out _⟩
            case measure => simp [intOf]; omega
          · have hdy := HBF.out.no y HYN.out hyV
            have f2 : wr.cell? ⟨wq.heap.size, y, none⟩ = some (.int .i64 (N : Int)) := HO.out.cell hdy
            have s1 : ((N : Int) == (N : Int)) = true := by simp
            obtain ⟨u, hu, huN⟩ := HBF.out.seen (List.mem_of_getElem? HX.out)
            have f4 : wr.cell? ⟨wq.heap.size, x, none⟩ = some (.int .i64 (u : Int)) := HO.out.cell hu
            have f3 := HO.out.warm (by rw [HBF.out.len]) y
            have hwr : IntKind.i64.wrap ((u : Int) + 1) = (u : Int) + 1 := wrap_id (by omega)
            have HBF2 := Lib.hid (HBF.out.visit hyV HYN.out HZ.out HX.out HYX.out hu)
            have HX2 : Hid ((V ++ [y])[i]? = some x) := (by rw [List.getElem?_append_left (lt_of_get HX.out)]; exact HX.out : (V ++ [y])[i]? = some x)
            have HTD : Hid (toI ((V ++ [y]).drop (i + 1)) = toI (V.drop (i + 1)) ++ [(y : Int)]) := toI_drop V (i + 1) y (lt_of_get HX.out)
            have HMS : Hid (m + 1 ≤ 100000) := (by
              have h1 := HQU.out.len
              rw [toI_len, List.length_drop] at h1
              have := HBF.out.size
              omega : m + 1 ≤ 100000)
            clear hdy hu hyV
            go_wp2_with fail
            go_quiet (fail)
            obtain ⟨wz, hwz⟩ : ∃ W, wr.drewN nq = W := ⟨_, rfl⟩
            have HOZ : Hid (Own eI 3 wq.heap.size wz (.slice (some ⟨wq.heap.size, 0, none⟩) N N) d) := hwz ▸ HO.out.drewN nq
            have HQZ : Hid (Que wq.heap.size wz b off m cap (toI (V.drop (i + 1)))) := hwz ▸ HQU.out.keep rfl
            have HWZ : Hid (Below wq.heap.size wq wz) := hwz ▸ below_drewN HW.out nq
            have g4 : wz.cell? ⟨wq.heap.size, x, none⟩ = some (.int .i64 (u : Int)) := hwz ▸ f4
            have g2 : wz.cell? ⟨wq.heap.size, y, none⟩ = some (.int .i64 (N : Int)) := hwz ▸ f2
            have g3 : wz.frozen? ⟨wq.heap.size, y, none⟩ = false := hwz ▸ f3
            rw [hwz]
            clear hwz f1 f2 f3 f4 x0 x1
            have HO2 := Lib.hid (HOZ.out.set (by rw [HBF.out.len]) y ((u : Int) + 1))
            have HQ2 := Lib.hid (HQZ.out.other (p := ⟨wq.heap.size, y, none⟩) (fun e => HNE.out e.symm) (.int .i64 ((u : Int) + 1)))
            have HW2 := Lib.hid (HWZ.out.setCell (p := ⟨wq.heap.size, y, none⟩) (Nat.le_refl _) (.int .i64 ((u : Int) + 1)))
            go_upto_region 13 with fail
            obtain ⟨wt, hwt⟩ : ∃ W, wz.setCell ⟨wq.heap.size, y, none⟩ (.int .i64 ((u : Int) + 1)) = W := ⟨_, rfl⟩
            have HO3 : Hid (Own eI 3 wq.heap.size wt (.slice (some ⟨wq.heap.size, 0, none⟩) N N) (d.set y ((u : Int) + 1))) := hwt ▸ HO2.out
            have HQ3 : Hid (Que wq.heap.size wt b off m cap (toI (V.drop (i + 1)))) := hwt ▸ HQ2.out
            have HW3 : Hid (Below wq.heap.size wq wt) := hwt ▸ HW2.out
            rw [hwt]
            clear hwt g2 g3 g4 HO2 HQ2 HW2
            go_wp2_with (at_builtin; refine append_que rfl _ _ rfl wq.heap.size b off m cap (toI (V.drop (i + 1))) rfl (HQ3.out.on (below_alloc _ _)) wt.heap.size 1 (y : Int) rfl (by simp) HMS.out (Nat.le_trans (HW3.out.size) (below_alloc _ _).size) ?_; intro b' off' cap' w' hq' hg' hat; refine Hid.out ?_)
            refine Lib.hid ?_
            have hgl := (HO3.out.lt wq.heap.size rfl).2
            have HO4 : Hid (Own eI 3 wq.heap.size w' (.slice (some ⟨wq.heap.size, 0, none⟩) N N) (d.set y ((u : Int) + 1))) := (HO3.out.alloc _).keep fun k hk => hg'.block k (by
              have : wq.heap.size = k := by simpa [Value.ownBlock] using hk
              simp; omega) fun e => HNE.out (by
              have : wq.heap.size = k := by simpa [Value.ownBlock] using hk
              have := Option.some.inj e
              omega)
            have HNE4 : Hid (b' ≠ wq.heap.size) := fun e => by
              rcases hat with h1 | h1
              · exact HNE.out (h1 ▸ e)
              · simp at h1; omega
            have HW4 : Hid (Below wq.heap.size wq w') := (HW3.out.alloc (HW3.out.size) _).trans ⟨hg'.os, hg'.tape, hg'.output, hg'.size, fun k hk => hg'.block k (by simp; omega) fun e => by
              have := Option.some.inj e
              have := HQ3.out.ge
              omega⟩
            rw [← HTD.out] at hq'
            have HQ4 := Lib.hid hq'
            clear hq' hg' hat hgl
            go_wp2_with fail
            go_roundw
            case rel => exact ⟨j + 1, V ++ [y], _, b', off', m + 1, cap', by omega, by go_num, rfl, HBF2.out, HX2.out, HQ4.out, HO4.out, HNE4.out, HW4.out⟩
            case measure => simp [intOf]; omega
        · have HJ : Hid (j = l.length) := (by rw [← HQ.out]; omega : j = l.length)
          have HBF2 : Hid (Bf N L n V (i + 1) [] 0 d) := (by have h := HBF.out; rw [HJ.out] at h; exact h.next HX.out (fun b => (HL1.out.2.2 b).trans ⟨fun ⟨m, e, h⟩ => ⟨m, e, rev_mem.mp h⟩, fun ⟨m, e, h⟩ => ⟨m, e, rev_mem.mpr h⟩⟩) : Bf N L n V (i + 1) [] 0 d)
          have hiV2 : i + 1 ≤ V.length := lt_of_get HX.out
          have hVN := HBF.out.size
          go_wp2_with fail
          go_roundg (N - (i + 1))
          case measure => have := HGK.out; omega
          case rel => exact ⟨V, i + 1, d, b, off, m, cap, rfl, HBF2.out, hiV2, Nat.le_refl _, HQU.out, HO.out, HNE.out, HW.out⟩
    · have hm0 : m = 0 := by rw [HML.out]; omega
      subst hm0
      have HD : Hid (IsS N L n d) := (by have h := HBF.out; rw [show i = V.length by omega] at h; exact h.done : IsS N L n d)
      have HBZ := Lib.hid (bstep HBQ.out HW.out)
      go_wp2_with fail
      go_ret
      exact ⟨_, d, rfl, HBQ.out.size, HD.out, HO.out.cl, HBZ.out⟩
#print axioms graph_stepsTo
end Go.Proofs.Ytlbknnafecdakaa.Graph
