/- free, Order of the reference. -/
import Derived.Test.YtlbknnafecdakaaGraphO
namespace Go.Proofs.Ytlbknnafecdakaa.Graph
open Go.ChangeShapes Go.WideShapes Go.RowKit Go.Lib
set_option linter.unusedVariables false
set_option maxRecDepth 100000

/-- The nodes taken. -/
def Tk (N : Nat) (T : List Nat) (o : List Bool) : Prop := o.length = N ∧ ∀ m, m < N → o[m]? = some (T.contains m)
theorem Tk.start (N : Nat) : Tk N [] (List.replicate N false) := ⟨by simp, fun m hm => by rw [List.getElem?_replicate, if_pos hm]; rfl⟩
theorem Tk.take {N : Nat} {T : List Nat} {o : List Bool} (h : Tk N T o) {n : Nat} (hn : n < N) : Tk N (T ++ [n]) (o.set n true) := by
  refine ⟨by rw [List.length_set]; exact h.1, fun m hm => ?_⟩
  by_cases e : m = n
  · subst e
    rw [get_set (by rw [h.1]; exact hm)]
    simp
  · rw [get_other e, h.2 m hm]
    simp [e]
def nxtV (N : Nat) (L : Arcs) (T : List Nat) : Int := match nxt N L T with
  | some n => (n : Int)
  | none => -1
theorem freeB_snoc {L : Arcs} {T : List Nat} {k i a b : Nat} (h : L[i]? = some (a, b)) : freeB (L.take (i + 1)) T k = (freeB (L.take i) T k && (!(b == k) || T.contains a)) := by
  unfold freeB
  rw [take_snoc_of h, List.all_append, ← Bool.and_assoc]
  simp
theorem freeB_nil {T : List Nat} {k : Nat} : freeB [] T k = !T.contains k := by unfold freeB; simp

set_option maxHeartbeats 1600000 in
theorem ref_free (N : Nat) (L : Arcs) (T : List Nat) (o : List Bool) (A B : Option Addr) (c d : Nat) (w : World) (hN : N ≤ 64) (hL : L.length ≤ 512) (hok : Ok N L) (ha : Ars w A (asI L)) (hb : Cl eB w B o) (ho : Tk N T o) :
    Calls Try.prog 33 #[.agg #[.int .i64 (N : Int), .slice A L.length c], .slice B N d] w fun e w' => e = .returned (.int .i64 (nxtV N L T)) ∧ Below w.heap.size w w' := by
  have HA := Lib.hid ha
  have HT := Lib.hid hb
  have HO := Lib.hid ho
  have HOK := Lib.hid hok
  clear ha hb ho hok
  go_enter Try.func33, Try.ntmps33
  go_upto_region 1 with fail
  obtain ⟨w1, hw1⟩ : ∃ W, w.alloc (.cells #[.int .i64 (N : Int), .slice A L.length c] 24) = W := ⟨_, rfl⟩
  have HX1 : Hid (Bx w1 w.heap.size (N : Int) A L.length c) := hw1 ▸ Bx.new _ _ _ _ _ _
  have HB1 : Hid (Below w.heap.size w w1) := hw1 ▸ below_alloc _ _
  rw [hw1]
  clear hw1
  go_wp2_with fail
  go_loopw [5] (fun i wr => ∃ k : Nat, k ≤ N ∧ i = .int .i64 k ∧ (∀ m, m < k → ¬ free L T m) ∧ Below w1.heap.size w1 wr) (fun i _ => N - (intOf i).toNat)
  case atStart => exact ⟨0, Nat.zero_le _, rfl, fun m h => by omega, Below.refl _ _⟩
  case round =>
    obtain ⟨k, hk, rfl, hv, hbel⟩ := hrel
    have HV := Lib.hid hv
    have HW := Lib.hid hbel
    obtain ⟨_, x0, x1⟩ := HX1.out.on hbel
    clear hv hbel
    rcases Nat.lt_or_ge k N with hlt | hge
    · obtain ⟨b, off, rfl, hb, t0⟩ := (HT.out.on (bstep HB1.out HW.out)) k _ (HO.out.2 k hlt)
      have i1 : (k : Int) < (N : Int) := by omega
      have i2 : (0 : Int) ≤ (k : Int) := by omega
      obtain ⟨y, hy⟩ : ∃ y, T.contains k = y := ⟨_, rfl⟩
      replace t0 : wr.cell? ⟨b, off + k, none⟩ = some (.bool y) := by rw [← hy]; exact t0
      have HY0 : Hid (freeB (L.take 0) T k = !y) := (by rw [List.take_zero, freeB_nil, hy] : _ = _)
      clear hy hb
      go_wp2_with fail
      clear t0
      go_loopw [6, 7] (fun v i wr => ∃ (j : Nat) (z : Bool), j ≤ L.length ∧ i = .int .i64 j ∧ v = .bool z ∧ freeB (L.take j) T k = z ∧ Below w1.heap.size w1 wr) (fun _ i _ => L.length - (intOf i).toNat)
      case atStart => exact ⟨0, !y, Nat.zero_le _, rfl, rfl, HY0.out, HW.out⟩
      case round =>
        clear HY0 HW x0 x1
        obtain ⟨j, z, hj, rfl, rfl, hz, hbel⟩ := hrel
        have HZ := Lib.hid hz
        have HW := Lib.hid hbel
        obtain ⟨_, x0, x1⟩ := HX1.out.on hbel
        clear hz hbel
        rcases Nat.lt_or_ge j L.length with hlt2 | hge2
        · obtain ⟨⟨p, q⟩, hpq⟩ := get_lt hlt2
          obtain ⟨b0, off0, rfl, hb0, f0, f1⟩ := (HA.out.on (bstep HB1.out HW.out)).nat hpq
          have hN2 := HOK.out p q (List.mem_of_getElem? hpq)
          obtain ⟨b1, off1, e1, hb1, t1⟩ := (HT.out.on (bstep HB1.out HW.out)) p _ (HO.out.2 p hN2.1)
          cases e1
          have HPQ := Lib.hid hpq
          have l1 : (p : Int) < (N : Int) := by omega
          have l2 : (0 : Int) ≤ (p : Int) := by omega
          have l5 : (j : Int) < (L.length : Int) := by omega
          have l6 : (0 : Int) ≤ (j : Int) := by omega
          obtain ⟨u, hu⟩ : ∃ u, T.contains p = u := ⟨_, rfl⟩
          replace t1 : wr.cell? ⟨b, off + p, none⟩ = some (.bool u) := by rw [← hu]; exact t1
          have HU := Lib.hid hu
          clear hu hpq hN2 hb0 hb1
          by_cases hqk : q = k
          · subst hqk
            have s1 : ((q : Int) == (q : Int)) = true := by simp
            cases u with
            | true =>
              have HS : Hid (freeB (L.take (j + 1)) T q = z) := (by rw [freeB_snoc HPQ.out, HU.out, HZ.out]; simp : _ = z)
              go_wp2_with fail
              go_roundw
              case rel => exact ⟨j + 1, z, by omega, by go_num, rfl, HS.out, HW.out⟩
              case measure => simp [intOf]; omega
            | false =>
              have HS : Hid (freeB (L.take (j + 1)) T q = false) := (by rw [freeB_snoc HPQ.out, HU.out]; simp : _ = false)
              go_wp2_with fail
              go_roundw
              case rel => exact ⟨j + 1, false, by omega, by go_num, rfl, HS.out, HW.out⟩
              case measure => simp [intOf]; omega
          · have s1 : ((q : Int) == (k : Int)) = false := beq_false_of_ne (by omega)
            have HS : Hid (freeB (L.take (j + 1)) T k = z) := (by rw [freeB_snoc HPQ.out, HZ.out]; simp [hqk] : _ = z)
            clear hqk
            go_wp2_with fail
            go_roundw
            case rel => exact ⟨j + 1, z, by omega, by go_num, rfl, HS.out, HW.out⟩
            case measure => simp [intOf]; omega
        · have HF : Hid (freeB L T k = z) := (by have := HZ.out; rw [show L.take j = L by rw [show j = L.length by omega, List.take_length]] at this; exact this : _ = z)
          cases z with
          | true =>
            have HR : Hid (nxtV N L T = (k : Int)) := by
              unfold nxtV
              rw [nxt_some.mpr ⟨hlt, freeB_iff.mp HF.out, HV.out⟩]; rfl
            have HBW := Lib.hid (bstep HB1.out HW.out)
            go_wp2_with fail
            go_ret
            exact ⟨ret_int HR.out.symm, HBW.out⟩
          | false =>
            have HV2 : Hid (∀ m, m < k + 1 → ¬ free L T m) := fun m hm => by
              rcases Nat.lt_or_eq_of_le (Nat.le_of_lt_succ hm) with h1 | rfl
              · exact HV.out m h1
              · intro h2
                rw [freeB_iff.mpr h2] at HF; cases HF
            go_wp2_with fail
            go_roundw
            case rel => exact ⟨k + 1, by omega, by go_num, HV2.out, HW.out⟩
            case measure => simp [intOf]; omega
    · obtain rfl : N = k := by omega
      have HR : Hid (nxtV N L T = -1) := (by unfold nxtV; rw [nxt_none.mpr HV.out] : nxtV N L T = -1)
      have HBW := Lib.hid (bstep HB1.out HW.out)
      go_wp2_with fail
      go_ret
      exact ⟨ret_int HR.out.symm, HBW.out⟩
def lenV : Value → Nat
  | .slice _ n _ => n
  | _ => 0

set_option maxHeartbeats 1600000 in
theorem ref_Order (n : Int) (zs : List Pr) (A : Option Addr) (c : Nat) (w : World) (ha : Ars w A zs) (hm : zs.length ≤ 9223372036854775807) :
    Calls Try.prog 17 #[.agg #[.int .i64 n, .slice A zs.length c]] w (Res eI w (OrdP n zs)) := by
  have HA := Lib.hid ha
  clear ha
  go_enter Try.func17, Try.ntmps17
  go_upto_region 1 with fail
  obtain ⟨w1, hw1⟩ : ∃ W, w.alloc (.cells #[.int .i64 n, .slice A zs.length c] 24) = W := ⟨_, rfl⟩
  have HX1 : Hid (Bx w1 w.heap.size n A zs.length c) := hw1 ▸ Bx.new _ _ _ _ _ _
  have HB1 : Hid (Below w.heap.size w w1) := hw1 ▸ below_alloc _ _
  rw [hw1]
  clear hw1
  obtain ⟨_, x0, x1⟩ := HX1.out
  go_wp2_with fail
  refine (ref_Check n zs A c w1 (HA.out.on HB1.out) hm).mono ?_
  rintro e w2 ⟨rfl, hb2⟩
  have HB2 := Lib.hid (bstep HB1.out hb2)
  have HX2 := Lib.hid (HX1.out.on hb2)
  clear hb2 x0 x1
  by_cases hz : chkE n zs = 0
  · obtain ⟨N, L, hg⟩ := gph_of hz
    have HG := Lib.hid hg
    rw [hz]
    obtain rfl := hg.n
    obtain rfl := hg.zs
    have hlen : (asI L).length = L.length := asI_len L
    rw [hlen] at HX2 ⊢
    have hN := hg.le
    clear hz hg hlen
    obtain ⟨_, x0, x1⟩ := HX2.out
    have hmk := fun W => make_bools N (by omega) W
    have HO1 := Lib.hid (own_made eB 4 w2 N false (by omega))
    go_upto_region 5 with fail
    obtain ⟨wm, hwm⟩ : ∃ W, w2.alloc (.cells (madeCells #[.bool false] N) 4) = W := ⟨_, rfl⟩
    have HBM : Hid (Below w2.heap.size w2 wm) := hwm ▸ below_alloc _ _
    have HOM : Hid (Own eB 4 w2.heap.size wm (.slice (some ⟨w2.heap.size, 0, none⟩) N N) (List.replicate N false)) := hwm ▸ HO1.out
    rw [hwm]
    clear hwm HO1 hmk x0 x1
    go_wp2_with fail
    go_loopw [6] (fun v wr => ∃ (T : List Nat) (o : List Bool) (Ao : Option Addr) (m co : Nat), v = .slice Ao m co ∧ m = T.length ∧ m ≤ N ∧ Top N L T ∧ ordF N L (N - T.length) T = ordO N L ∧ Tk N T o ∧ Own eB 4 w2.heap.size wr (.slice (some ⟨w2.heap.size, 0, none⟩) N N) o ∧ Own eI 3 w2.heap.size wr (.slice Ao m co) (toI T) ∧ (Value.slice Ao m co).ownBlock ≠ some w2.heap.size ∧ Below w2.heap.size w2 wr) (fun v _ => N - lenV v)
    case atStart => exact ⟨[], _, none, 0, 0, rfl, rfl, Nat.zero_le _, Top.nil N L, rfl, Tk.start N, HOM.out, Own.nil _ _ _ _, (fun e => by cases e), HBM.out⟩
    case round =>
      clear HOM HBM
      obtain ⟨T, o, Ao, m, co, rfl, hm, hmN, htop, hgo, htk, hob, hoi, hap, hbel⟩ := hrel
      have HMT := Lib.hid hm
      have HTP := Lib.hid htop
      have HGO := Lib.hid hgo
      have HTK := Lib.hid htk
      have HOB := Lib.hid hob
      have HOI := Lib.hid hoi
      have HAP := Lib.hid hap
      have HW := Lib.hid hbel
      obtain ⟨_, x0, x1⟩ := HX2.out.on hbel
      clear hm htop hgo htk hob hoi hap hbel
      rcases Nat.lt_or_ge m N with hlt | hge
      · have HFR := Lib.hid (ref_free N L T o A (some ⟨w2.heap.size, 0, none⟩) c N wr HG.out.le HG.out.ln HG.out.ok (HA.out.on (bstep HB2.out HW.out)) HOB.out.cl HTK.out)
        cases hnx : nxt N L T with
        | none =>
          have HP : Hid (OrdP (N : Int) (asI L) 11 []) := Or.inr ⟨N, L, HG.out, Or.inl ⟨(by rw [← HGO.out]; exact ordF_no (by rw [← HMT.out]; omega) hnx), rfl, rfl⟩⟩
          rw [show nxtV N L T = -1 by unfold nxtV; rw [hnx]] at HFR
          clear hnx
          go_wp2_with fail
          refine HFR.out.mono ?_
          rintro e w4 ⟨rfl, hb4⟩
          have HB4 := Lib.hid (bstep (bstep HB2.out HW.out) hb4)
          clear hb4
          go_wp2_with fail
          go_ret2
          exact Res.no HP.out HB4.out
        | some nn =>
          obtain ⟨hn1, hn2, _⟩ := nxt_some.mp hnx
          have HGO2 : Hid (ordF N L (N - (T ++ [nn]).length) (T ++ [nn]) = ordO N L) := (by rw [← HGO.out, ordF_go (by rw [← HMT.out]; omega) hnx, List.length_append]; rfl : _ = ordO N L)
          have HTP2 := Lib.hid (HTP.out.snoc hn1 hn2)
          have HTK2 := Lib.hid (HTK.out.take hn1)
          rw [show nxtV N L T = (nn : Int) by unfold nxtV; rw [hnx]] at HFR
          have j1 : (nn : Int) < (N : Int) := by omega
          have j2 : (0 : Int) ≤ (nn : Int) := by omega
          have j3 : decide ((nn : Int) < 0) = false := decide_eq_false (by omega)
          have HN1 := Lib.hid hn1
          clear hnx hn2 hn1
          go_wp2_with fail
          refine HFR.out.mono ?_
          rintro e w4 ⟨rfl, hb4⟩
          have HOB4 := Lib.hid (HOB.out.on hb4)
          have HOI4 := Lib.hid (HOI.out.on hb4)
          have HW4 : Hid (Below w2.heap.size w2 w4) := bstep HW.out hb4
          clear hb4 x0 x1
          have c1 := HOB4.out.cell (HTK.out.2 nn HN1.out)
          have c2 := HOB4.out.warm (by rw [HTK.out.1]) nn
          have HOB5 := Lib.hid (HOB4.out.set (by rw [HTK.out.1]) nn true)
          have HOI5 := Lib.hid (HOI4.out.other (p := ⟨w2.heap.size, nn, none⟩) HAP.out (.bool true))
          have HW5 := Lib.hid (HW4.out.setCell (p := ⟨w2.heap.size, nn, none⟩) (Nat.le_refl _) (.bool true))
          go_upto_region 11 with fail
          obtain ⟨w5, hw5⟩ : ∃ W, w4.setCell ⟨w2.heap.size, nn, none⟩ (.bool true) = W := ⟨_, rfl⟩
          have HOB6 : Hid (Own eB 4 w2.heap.size w5 (.slice (some ⟨w2.heap.size, 0, none⟩) N N) (o.set nn true)) := hw5 ▸ HOB5.out
          have HOI6 : Hid (Own eI 3 w2.heap.size w5 (.slice Ao m co) (toI T)) := hw5 ▸ HOI5.out
          have HW6 : Hid (Below w2.heap.size w2 w5) := hw5 ▸ HW5.out
          rw [hw5]
          clear hw5 c1 c2 HOB5 HOI5 HW5
          have HTL : Hid ((toI T).length + 1 ≤ 1000000) := (by rw [toI_len, ← HMT.out]; omega : (toI T).length + 1 ≤ 1000000)
          go_wp2_with (at_builtin; refine append_int rfl _ _ rfl w2.heap.size (.slice Ao m co) (toI T) rfl (HOI6.out.alloc _) w5.heap.size 1 (nn : Int) rfl (by simp) HTL.out (Nat.le_trans (HW6.out.size) (below_alloc _ _).size) ?_; intro v' w6 hown' hg' hat; refine Hid.out ?_)
          refine Lib.hid ?_
          have hwl := (HOB6.out.lt w2.heap.size rfl).2
          have HOB7 : Hid (Own eB 4 w2.heap.size w6 (.slice (some ⟨w2.heap.size, 0, none⟩) N N) (o.set nn true)) := (HOB6.out.alloc _).keep fun b hb => hg'.block b (by
            have : w2.heap.size = b := by simpa [Value.ownBlock] using hb
            simp; omega) fun e => HAP.out (by
            have : w2.heap.size = b := by simpa [Value.ownBlock] using hb
            rw [this]; exact e.symm)
          have HAP7 : Hid (v'.ownBlock ≠ some w2.heap.size) := fun e => by
            rcases hat with h1 | h1
            · exact HAP.out (h1 ▸ e)
            · rw [e] at h1
              have := Option.some.inj h1
              simp at this
              omega
          have HB7 : Hid (Below w2.heap.size w2 w6) := (HW6.out.alloc (HW6.out.size) _).trans ((HOI6.out.alloc _).below hg' (Nat.le_trans (HW6.out.size) (below_alloc _ _).size))
          rw [← toI_snoc] at hown'
          obtain ⟨A7, c7, e7, _⟩ := hown'.inS
          have hl7 : (toI (T ++ [nn])).length = m + 1 := by rw [toI_len, List.length_append, HMT.out]; rfl
          rw [hl7] at e7
          subst e7
          have HOI7 := Lib.hid hown'
          have HL7 : Hid (m + 1 = (T ++ [nn]).length) := (by rw [List.length_append, HMT.out]; rfl : m + 1 = (T ++ [nn]).length)
          clear hown' hg' hat hwl hl7
          go_wp2_with fail
          go_roundw
          case rel => exact ⟨T ++ [nn], _, A7, m + 1, c7, rfl, HL7.out, by omega, HTP2.out, HGO2.out, HTK2.out, HOB7.out, HOI7.out, HAP7.out, HB7.out⟩
          case measure => simp [lenV]; omega
      · have HK : Hid (m = N) := (by omega : m = N)
        have HP : Hid (OrdP (N : Int) (asI L) 0 (toI T)) := Or.inr ⟨N, L, HG.out, Or.inr ⟨T, (by
          have := HGO.out
          rw [← HMT.out, HK.out, Nat.sub_self] at this
          exact this.symm), rfl, rfl⟩⟩
        have HBZ : Hid (Below w.heap.size w wr) := bstep HB2.out HW.out
        obtain ⟨A9, c9, e9, _, _, h9⟩ := HOI.out.inS
        have HT9 : Hid ((toI T).length = m) := (by rw [toI_len, HMT.out] : _ = m)
        have H9 := Lib.hid h9
        rw [HT9.out] at e9
        cases e9
        clear h9
        have HMN := Lib.hid hmN
        go_wp2_with fail
        go_ret2
        exact ⟨Ao, co, toI T, 0, by rw [HT9.out]; rfl, by rw [HT9.out]; exact Nat.le_trans HMN.out HG.out.le, HP.out, H9.out, HBZ.out⟩
  · have HP : Hid (OrdP n zs (chkE n zs) []) := Or.inl ⟨hz, rfl, rfl⟩
    have h1 : (chkE n zs == 0) = false := beq_false_of_ne hz
    have h2 : (chkE n zs != 0) = true := by simp [hz]
    obtain ⟨q, hq⟩ : ∃ q, chkE n zs = q := ⟨_, rfl⟩
    rw [hq] at h1 h2 HP ⊢
    clear hz hq
    go_wp2_with fail
    go_ret2
    exact Res.no HP.out HB2.out
#print axioms ref_free
#print axioms ref_Order
end Go.Proofs.Ytlbknnafecdakaa.Graph
