/- Levels of both. -/
import Derived.Test.YtlbknnafecdakaaGraphP
import Derived.StillTailTactics
namespace Go.Proofs.Ytlbknnafecdakaa.Graph
open Go.ChangeShapes Go.WideShapes Go.RowKit Go.Lib
set_option linter.unusedVariables false
set_option maxRecDepth 100000

/-! ### Levels along an order (pure) -/
def LevP (n : Int) (zs : List Pr) (E : Int) (l : List Int) : Prop :=
  (chkE n zs ≠ 0 ∧ E = chkE n zs ∧ l = []) ∨
  ∃ (N : Nat) (L : Arcs), Gph n zs N L ∧ ((ordO N L = none ∧ E = 11 ∧ l = []) ∨ ∃ R, ordO N L = some R ∧ E = 0 ∧ IsL N L l)
theorem LevP.one {n : Int} {zs : List Pr} {E F : Int} {o p : List Int} (h : LevP n zs E o) (k : LevP n zs F p) : E = F ∧ o = p := by
  rcases h with ⟨h1, rfl, rfl⟩ | ⟨N, L, hg, h⟩
  · rcases k with ⟨k1, rfl, rfl⟩ | ⟨M, K, kg, k⟩
    · exact ⟨rfl, rfl⟩
    · exact absurd kg.chk h1
  · rcases k with ⟨k1, rfl, rfl⟩ | ⟨M, K, kg, k⟩
    · exact absurd hg.chk k1
    · obtain ⟨rfl, rfl⟩ := hg.one kg
      rcases h with ⟨h1, rfl, rfl⟩ | ⟨R, h1, rfl, hl⟩
      · rcases k with ⟨k1, rfl, rfl⟩ | ⟨S, k1, rfl, kl⟩
        · exact ⟨rfl, rfl⟩
        · rw [h1] at k1; cases k1
      · rcases k with ⟨k1, rfl, rfl⟩ | ⟨S, k1, rfl, kl⟩
        · rw [h1] at k1; cases k1
        · exact ⟨rfl, hl.one kl⟩
/-- From a to b it goes up. -/
def le1 (o : List Int) (a b : Nat) : Prop := ∃ x y, o[a]? = some x ∧ o[b]? = some y ∧ x + 1 ≤ y
structure LvI (N : Nat) (L : Arcs) (T : List Nat) (i : Nat) (l : List Int) (j : Nat) (o : List Int) : Prop where
  len : o.length = N
  snd : ∀ b v, o[b]? = some v → ∃ u : Nat, v = (u : Int) ∧ ∃ a, W L u a b
  prt : ∀ p a, p < i → T[p]? = some a → ∀ b, (a, b) ∈ L → le1 o a b
  cur : ∀ n, T[i]? = some n → ∀ q c : Nat, q < j → l[q]? = some (c : Int) → le1 o n c
theorem later {N : Nat} {L : Arcs} {T : List Nat} (hok : Ok N L) (hT : Top N L T) (hl : T.length = N) {i p n c a : Nat} (hn : T[i]? = some n) (hc : (n, c) ∈ L) (hp : p ≤ i) (ha : T[p]? = some a) : a ≠ c := by
  rintro rfl
  obtain ⟨i', j', h1, h2, h3⟩ := hT.arc hok hl hc
  have e1 := place_one hT.nd hn h1
  have e2 := place_one hT.nd ha h2
  omega
theorem LvI.start {N : Nat} {L : Arcs} {T : List Nat} {l : List Int} : LvI N L T 0 l 0 (List.replicate N 0) := by
  refine ⟨by simp, fun b v hb => ?_, fun p a h => by omega, fun n hn q c h => by omega⟩
  rw [List.getElem?_replicate] at hb
  split at hb
  · cases hb; exact ⟨0, rfl, b, rfl⟩
  · cases hb
theorem LvI.list {N : Nat} {L : Arcs} {T : List Nat} {i : Nat} {l l' : List Int} {o : List Int} (h : LvI N L T i l 0 o) : LvI N L T i l' 0 o := ⟨h.len, h.snd, h.prt, fun n hn q c hq => by omega⟩
theorem LvI.get {N : Nat} {L : Arcs} {T : List Nat} {i : Nat} {l : List Int} {j : Nat} {o : List Int} (h : LvI N L T i l j o) (hok : Ok N L) (hac : Acy L) {a : Nat} (ha : a < N) : ∃ u : Nat, o[a]? = some (u : Int) ∧ u < N := by
  have hg := List.getElem?_eq_getElem (l := o) (i := a) (by rw [h.len]; exact ha)
  obtain ⟨u, h1, x, hw⟩ := h.snd a _ hg
  refine ⟨u, by rw [hg, h1], ?_⟩
  cases u with
  | zero => omega
  | succ u => exact hac.lt hok hw (hw.fst hok)
theorem LvI.step {N : Nat} {L : Arcs} {T : List Nat} {i : Nat} {l : List Int} {j : Nat} {o : List Int} (h : LvI N L T i l j o) (hok : Ok N L) (hT : Top N L T) (hl : T.length = N) {n c : Nat} (hn : T[i]? = some n) (hnc : (n, c) ∈ L) (hc : l[j]? = some (c : Int)) {x y : Nat} (hx : o[n]? = some (x : Int)) (hy : o[c]? = some (y : Int)) :
    LvI N L T i l (j + 1) (o.set c (max (y : Int) ((x : Int) + 1))) := by
  have hcl := lt_of_get hy
  have em : max (y : Int) ((x : Int) + 1) = ((max y (x + 1) : Nat) : Int) := by omega
  have hne : n ≠ c := later hok hT hl hn hnc (Nat.le_refl _) hn
  have up : ∀ a b, a ≠ c → le1 o a b → le1 (o.set c (max (y : Int) ((x : Int) + 1))) a b := by
    rintro a b hac ⟨p, q, h1, h2, h3⟩
    by_cases e : b = c
    · subst e
      rw [hy] at h2
      have := Option.some.inj h2
      exact ⟨p, _, by rw [get_other hac]; exact h1, get_set hcl, by omega⟩
    · exact ⟨p, q, by rw [get_other hac]; exact h1, by rw [get_other e]; exact h2, h3⟩
  refine ⟨by rw [List.length_set]; exact h.len, fun b v hb => ?_, fun p a hp ha b hab => ?_, fun n' hn' q d hq hd => ?_⟩
  · rcases set_get hb with ⟨rfl, rfl⟩ | ⟨_, hb⟩
    · refine ⟨max y (x + 1), em, ?_⟩
      obtain ⟨u1, e1, a1, w1⟩ := h.snd n _ hx
      obtain ⟨u2, e2, a2, w2⟩ := h.snd b _ hy
      obtain rfl : x = u1 := by omega
      obtain rfl : y = u2 := by omega
      rcases Nat.lt_or_ge y (x + 1) with h1 | h1
      · rw [Nat.max_eq_right (by omega)]; exact ⟨a1, w1.snoc hnc⟩
      · rw [Nat.max_eq_left h1]; exact ⟨a2, w2⟩
    · exact h.snd b v hb
  · exact up a b (later hok hT hl hn hnc (Nat.le_of_lt hp) ha) (h.prt p a hp ha b hab)
  · rw [hn] at hn'
    cases hn'
    rcases Nat.lt_or_eq_of_le (Nat.le_of_lt_succ hq) with h1 | rfl
    · exact up n d hne (h.cur n hn q d h1 hd)
    · rw [hc] at hd
      have : c = d := by have := Option.some.inj hd; omega
      subst this
      exact ⟨x, _, by rw [get_other hne]; exact hx, get_set hcl, by omega⟩
theorem LvI.next {N : Nat} {L : Arcs} {T : List Nat} {i : Nat} {l : List Int} {o : List Int} (h : LvI N L T i l l.length o) {n : Nat} (hn : T[i]? = some n) (hl : ∀ b : Int, b ∈ l ↔ ∃ m : Nat, b = (m : Int) ∧ (n, m) ∈ L) : LvI N L T (i + 1) l 0 o := by
  refine ⟨h.len, h.snd, fun p a hp ha b hab => ?_, fun n hn q c h => by omega⟩
  rcases Nat.lt_or_eq_of_le (Nat.le_of_lt_succ hp) with h1 | rfl
  · exact h.prt p a h1 ha b hab
  · rw [hn] at ha
    cases ha
    obtain ⟨q, hq⟩ := List.mem_iff_getElem?.mp ((hl (b : Int)).mpr ⟨b, rfl, hab⟩)
    exact h.cur n hn q b (lt_of_get hq) hq
theorem LvI.done {N : Nat} {L : Arcs} {T : List Nat} {l : List Int} {o : List Int} (h : LvI N L T N l 0 o) (hok : Ok N L) (hT : Top N L T) (hl : T.length = N) : IsL N L o := by
  have hac := hT.acy hok hl
  have up : ∀ a b, (a, b) ∈ L → le1 o a b := by
    intro a b hab
    obtain ⟨p, hp⟩ := List.mem_iff_getElem?.mp (hT.all hl (hok a b hab).1)
    exact h.prt p a (by have := lt_of_get hp; omega) hp b hab
  refine ⟨h.len, fun b hb => ?_⟩
  obtain ⟨u, hu, huN⟩ := h.get hok hac hb
  obtain ⟨u', e, x, hw⟩ := h.snd b _ hu
  obtain rfl : u = u' := by omega
  refine ⟨u, hu, huN, ⟨x, hw⟩, ?_⟩
  have key : ∀ (k : Nat) (a b : Nat) (u : Nat), o[b]? = some (u : Int) → W L k a b → k ≤ u := by
    intro k
    induction k with
    | zero => intro a b u _ _; omega
    | succ k ih =>
      intro a b u hu hw
      obtain ⟨c, hc, hcb⟩ := hw.last
      obtain ⟨p, q, h1, h2, h3⟩ := up c b hcb
      obtain ⟨p', rfl, _⟩ := h.snd c _ h1
      have := ih a c p' h1 hc
      rw [hu] at h2
      have := Option.some.inj h2
      omega
  intro k a hk
  exact key k a b u hu hk

set_option maxHeartbeats 3200000 in
theorem graph_Levels (n : Int) (zs : List Pr) (A : Option Addr) (c : Nat) (w : World) (ha : Ars w A zs) (hm : zs.length ≤ 9223372036854775807) :
    Calls Try.prog 24 #[.agg #[.int .i64 n, .slice A zs.length c]] w (Res eI w (LevP n zs)) := by
  have HA := Lib.hid ha
  clear ha
  go_enter Try.func24, Try.ntmps24
  go_upto_region 1 with fail
  obtain ⟨w1, hw1⟩ : ∃ W, w.alloc (.cells #[.int .i64 n, .slice A zs.length c] 24) = W := ⟨_, rfl⟩
  have HX1 : Hid (Bx w1 w.heap.size n A zs.length c) := hw1 ▸ Bx.new _ _ _ _ _ _
  have HB1 : Hid (Below w.heap.size w w1) := hw1 ▸ below_alloc _ _
  rw [hw1]
  clear hw1
  obtain ⟨_, x0, x1⟩ := HX1.out
  have HCO := Lib.hid (graph_Order n zs A c w1 (HA.out.on HB1.out) hm)
  go_wp2_with fail
  refine HCO.out.mono ?_
  rintro e w2 ⟨AR, cR, lR, ER, rfl, hl64, hP, hcl, hb2⟩
  have HB2 := Lib.hid (bstep HB1.out hb2)
  have HX2 := Lib.hid (HX1.out.on hb2)
  have HCL := Lib.hid hcl
  have HPO := Lib.hid hP
  obtain ⟨mR, hmR⟩ : ∃ m, m = lR.length := ⟨_, rfl⟩
  have HMR := Lib.hid hmR
  rw [← hmR]
  clear hb2 hcl hP x0 x1 hmR hl64
  rcases HPO.out with ⟨hz, rfl, rfl⟩ | ⟨N, L, hg, ⟨hno, rfl, rfl⟩ | ⟨R, hso, rfl, rfl⟩⟩
  · have HP : Hid (LevP n zs (chkE n zs) []) := Or.inl ⟨hz, rfl, rfl⟩
    have h1 : (chkE n zs == 0) = false := beq_false_of_ne hz
    have h2 : (chkE n zs != 0) = true := by simp [hz]
    clear HPO HCL HMR
    obtain ⟨q, hq⟩ : ∃ q, chkE n zs = q := ⟨_, rfl⟩
    rw [hq] at h1 h2 HP ⊢
    clear hz hq
    go_wp2_with fail
    go_ret2
    exact Res.no HP.out HB2.out
  · have HP : Hid (LevP n zs 11 []) := Or.inr ⟨N, L, hg, Or.inl ⟨hno, rfl, rfl⟩⟩
    clear HPO HCL HMR hg hno
    go_wp2_with fail
    go_ret2
    exact Res.no HP.out HB2.out
  · have HG := Lib.hid hg
    obtain rfl := hg.n
    obtain rfl := hg.zs
    have hlen : (asI L).length = L.length := asI_len L
    rw [hlen] at HX2 ⊢
    have hN := hg.le
    have HSO := Lib.hid hso
    have HTP := Lib.hid (ord_ok hso).1
    have HRL := Lib.hid (ord_ok hso).2
    have HAC := Lib.hid (ord_acy hg.ok hso)
    have hmN : N = mR := by rw [HMR.out, toI_len, HRL.out]
    subst hmN
    clear HPO hg hso hlen HMR
    obtain ⟨_, x0, x1⟩ := HX2.out
    have HH := Lib.hid (graph_headsOf N L A c w2 HG.out.le HG.out.ln HG.out.ok (HA.out.on HB2.out))
    go_wp2_with fail
    refine HH.out.mono ?_
    rintro e w3 ⟨A3, H, rfl, hH, hd, hb3⟩
    have HB3 := Lib.hid (bstep HB2.out hb3)
    have HX3 := Lib.hid (HX2.out.on hb3)
    have HC3 := Lib.hid (HCL.out.on hb3)
    have HHD := Lib.hid hd
    have HIH := Lib.hid hH
    clear hH hd hb3 x0 x1
    obtain ⟨_, x0, x1⟩ := HX3.out
    have hmk := fun W => make_ints N (by omega) W
    have HO1 := Lib.hid (own_made eI 3 w3 N 0 (by omega))
    go_upto_region 6 with fail
    obtain ⟨wm, hwm⟩ : ∃ W, w3.alloc (.cells (madeCells #[.int .i64 0] N) 3) = W := ⟨_, rfl⟩
    have HBM : Hid (Below w3.heap.size w3 wm) := hwm ▸ below_alloc _ _
    have HOM : Hid (Own eI 3 w3.heap.size wm (.slice (some ⟨w3.heap.size, 0, none⟩) N N) (List.replicate N 0)) := hwm ▸ HO1.out
    rw [hwm]
    clear hwm HO1 hmk x0 x1
    go_wp2_with fail
    go_loopw [27] (fun i wr => ∃ (k : Nat) (o : List Int), k ≤ N ∧ i = .int .i64 k ∧ LvI N L R k [] 0 o ∧ Own eI 3 w3.heap.size wr (.slice (some ⟨w3.heap.size, 0, none⟩) N N) o ∧ Below w3.heap.size w3 wr) (fun i _ => N - (intOf i).toNat)
    case atStart => exact ⟨0, _, Nat.zero_le _, rfl, LvI.start, HOM.out, HBM.out⟩
    case round =>
      clear HOM HBM
      obtain ⟨k, o, hk, rfl, hlv, hown, hbel⟩ := hrel
      have HLV := Lib.hid hlv
      have HO := Lib.hid hown
      have HW := Lib.hid hbel
      clear hlv hown hbel
      rcases Nat.lt_or_ge k N with hlt | hge
      · obtain ⟨nn, hnn⟩ := get_lt (L := R) (k := k) (by rw [HRL.out]; exact hlt)
        have hnN := HTP.out.lt nn (List.mem_of_getElem? hnn)
        obtain ⟨b1, off1, rfl, hb1, g1⟩ := HC3.out k (nn : Int) (by unfold toI; rw [List.getElem?_map, hnn]; rfl)
        have g1 := (HW.out.cell (p := ⟨b1, off1 + k, none⟩) hb1).trans g1
        obtain ⟨l, hl⟩ := get_lt (L := H) (k := nn) (by rw [HIH.out.1]; exact hnN)
        have HL1 := Lib.hid (HIH.out.2 nn l hl)
        obtain ⟨b, off, rfl, hb, A', c', e1, e2, e3, e4⟩ := HHD.out nn l hl
        have e1 := (HW.out.cell (p := ⟨b, off + nn, none⟩) hb).trans e1
        have HE4 := Lib.hid e4
        have HNN := Lib.hid hnn
        obtain ⟨q, hq⟩ : ∃ q, q = l.length := ⟨_, rfl⟩
        have HQ := Lib.hid hq
        have hq5 : q ≤ 512 := by rw [hq]; have := HL1.out.2.1; have := HG.out.ln; omega
        rw [← hq] at e1 e2
        have i1 : (k : Int) < (N : Int) := by omega
        have i2 : (0 : Int) ≤ (k : Int) := by omega
        have j1 : (nn : Int) < (N : Int) := by omega
        have j2 : (0 : Int) ≤ (nn : Int) := by omega
        have HLV1 : Hid (LvI N L R k l 0 o) := HLV.out.list
        clear hq hl e4 hb hnn hb1
        go_wp2_with fail
        clear e1 g1
        go_loopw [36] (fun i wr => ∃ (j : Nat) (o : List Int), j ≤ q ∧ i = .int .i64 j ∧ LvI N L R k l j o ∧ Own eI 3 w3.heap.size wr (.slice (some ⟨w3.heap.size, 0, none⟩) N N) o ∧ Below w3.heap.size w3 wr) (fun i _ => q - (intOf i).toNat)
        case atStart => exact ⟨0, o, Nat.zero_le _, rfl, HLV1.out, HO.out, HW.out⟩
        case round =>
          clear HLV HLV1 HO HW
          obtain ⟨j, o, hj, rfl, hlv, hown, hbel⟩ := hrel
          have HLV := Lib.hid hlv
          have HO := Lib.hid hown
          have HW := Lib.hid hbel
          clear hlv hown hbel
          rcases Nat.lt_or_ge j q with hlt2 | hge2
          · obtain ⟨z, hz⟩ := get_lt (L := l) (k := j) (by rw [← HQ.out]; exact hlt2)
            obtain ⟨x, rfl, hnx⟩ := (HL1.out.2.2 z).mp (List.mem_of_getElem? hz)
            have hxN := (HG.out.ok nn x hnx).2
            obtain ⟨b2, off2, rfl, hb2, f1⟩ := HE4.out j _ hz
            have f1 := (HW.out.cell (p := ⟨b2, off2 + j, none⟩) hb2).trans f1
            obtain ⟨U, hU, hU5⟩ := HLV.out.get HG.out.ok HAC.out hxN
            obtain ⟨V, hV, hV5⟩ := HLV.out.get HG.out.ok HAC.out hnN
            have f2 : wr.cell? ⟨w3.heap.size, x, none⟩ = some (.int .i64 (U : Int)) := HO.out.cell hU
            have f4 : wr.cell? ⟨w3.heap.size, nn, none⟩ = some (.int .i64 (V : Int)) := HO.out.cell hV
            have f3 := HO.out.warm (by rw [HLV.out.len]) x
            have l3 : (x : Int) < (N : Int) := by omega
            have l4 : (0 : Int) ≤ (x : Int) := by omega
            have hwr : IntKind.i64.wrap ((V : Int) + 1) = (V : Int) + 1 := wrap_id (by omega)
            obtain ⟨M, hM⟩ : ∃ M, M = max (U : Int) ((V : Int) + 1) := ⟨_, rfl⟩
            have HLV2 : Hid (LvI N L R k l (j + 1) (o.set x M)) := hM ▸ HLV.out.step HG.out.ok HTP.out HRL.out HNN.out hnx hz hV hU
            have HO2 := Lib.hid (HO.out.set (by rw [HLV.out.len]) x M)
            have HW2 := Lib.hid (HW.out.setCell (p := ⟨w3.heap.size, x, none⟩) (Nat.le_refl _) (.int .i64 M))
            have HMM := Lib.hid hM
            clear hz hnx hb2 hU hV
            go_wp2_with fail
            go_still_tail 13, (by kernel_rfl)
            change wpList _ _ _ _ _ wr.drew
            have f2' : wr.drew.cell? ⟨w3.heap.size, x, none⟩ = some (.int .i64 (U : Int)) := f2
            have f3' : wr.drew.frozen? ⟨w3.heap.size, x, none⟩ = false := f3
            clear f1 f2 f3 f4
            go_wp2_with fail
            go_roundw
            case rel => exact ⟨j + 1, _, by omega, by go_num, HMM.out ▸ HLV2.out, HMM.out ▸ HO2.out.drew, HMM.out ▸ below_drew HW2.out⟩
            case measure => simp [intOf]; omega
          · have HJ : Hid (j = l.length) := (by rw [← HQ.out]; omega : j = l.length)
            have HLV2 : Hid (LvI N L R (k + 1) [] 0 o) := (by have h := HLV.out; rw [HJ.out] at h; exact (h.next HNN.out HL1.out.2.2).list : LvI N L R (k + 1) [] 0 o)
            go_wp2_with fail
            go_roundw
            case rel => exact ⟨k + 1, o, by omega, by go_num, HLV2.out, HO.out, HW.out⟩
            case measure => simp [intOf]; omega
      · obtain rfl : N = k := by omega
        have HP : Hid (LevP (N : Int) (asI L) 0 o) := Or.inr ⟨N, L, HG.out, Or.inr ⟨R, HSO.out, rfl, HLV.out.done HG.out.ok HTP.out HRL.out⟩⟩
        have HBZ : Hid (Below w.heap.size w wr) := bstep HB3.out HW.out
        have HOL := Lib.hid HLV.out.len
        go_wp2_with fail
        go_ret2
        exact ⟨_, N, o, 0, by rw [HOL.out]; rfl, by rw [HOL.out]; exact HG.out.le, HP.out, HO.out.cl, HBZ.out⟩
end Go.Proofs.Ytlbknnafecdakaa.Graph
