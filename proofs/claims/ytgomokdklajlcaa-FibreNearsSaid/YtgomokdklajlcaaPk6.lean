/- Several texts in one: FibreK, FibreL, FibreR, FibreP, FibreQ, FibreM. -/
import Derived.Test.YtgomokdklajlcaaPk5
import Derived.Test.YtgomokdklajlcaaPk2
import Derived.Test.YtgomokdklajlcaaPk1
/- The program: Recipe, Parts, Total, Masses. -/
namespace Go.Proofs.Ytgomokdklajlcaa.Fibre
open Go.ChangeShapes Go.WideShapes Go.RowKit Go.Lib
open Go.Proofs.Ytgomokdklajlcaa.Mem (Cl eI Own)
open Go.Proofs.Ytgomokdklajlcaa.Rw (Cel glt get_lt ret_bool ret_int wrap_id bstep below_drewN below_drew drew_below below_alloc)
open Go.Proofs.Ytgomokdklajlcaa.Share (sumK sumK_zero sumK_succ partsL splL errS inW mx ResL split_n tot_all allIn_of cl_holds)
open Go.Proofs.Ytgomokdklajlcaa.Num (num_sum sumV sumE sumV_all sumE_all okV_yes okE_yes)
set_option linter.unusedVariables false
set_option maxRecDepth 100000

theorem mx_is : mx = 1125899906842624 := rfl
/-- The sum of a short list of masses. -/
theorem p_sum (l : List Int) (A : Option Addr) (n c : Nat) (hn : n = l.length) (w : World) (ha : Cl eI w A l) (hl : n ≤ 8) (hz : ∀ z ∈ l, 0 ≤ z ∧ z ≤ MM) :
    Calls Try.prog 38 #[.slice A n c] w fun e w' => e = .returned (.tuple #[.int .i64 (sumZ l), .int .i64 0]) ∧ Below w.heap.size w w' := by
  subst hn
  have hM : MM = 1099511627776 := rfl
  have h1 : Num.allIn l = true := allIn_of fun z h => by have := hz z h; rw [mx_is]; omega
  have h2 := sumZ_lim (by decide) hz hl
  rw [hM] at h2
  have h3 : Num.tot l = sumZ l := tot_all l
  have hV : sumV l = sumZ l := by rw [sumV_all (by omega) h1, h3]; exact okV_yes (by omega) (by omega)
  have hE : sumE l = 0 := by rw [sumE_all (by omega) h1, h3]; exact okE_yes (by omega) (by omega)
  have h := num_sum l A c w (cl_holds ha) (by omega)
  rw [hV, hE] at h
  exact h

set_option maxHeartbeats 800000 in
theorem fibre_Recipe (r : List Int) (A : Option Addr) (n c : Nat) (hn : n = r.length) (kinds : Int) (w : World) (ha : Cl eI w A r) (hm : n ≤ 1000000) :
    Calls Try.prog 16 #[.slice A n c, .int .i64 kinds] w fun e w' => e = .returned (.int .i64 (recE r kinds)) ∧ Below w.heap.size w w' := by
  have HA := Lib.hid ha
  have HL := Lib.hid (p_checkList r A n c hn kinds 1000 w ha (by omega))
  obtain ⟨F, hF⟩ : ∃ F, lisE r kinds 1000 = F := ⟨_, rfl⟩
  rw [hF] at HL
  by_cases hz : F = 0
  rotate_left
  · obtain ⟨z1, z2⟩ := ne_zero hz
    have he : recE r kinds = F := by unfold recE; rw [hF, if_neg hz]
    rw [he]
    clear ha hn hF hz he
    go_enter Try.func16, Try.ntmps16
    go_wp2_with fail
    refine HL.out.mono ?_
    rintro e w1 ⟨rfl, hb⟩
    have B1 := Lib.hid hb
    clear hb
    go_wp2_with fail
    go_ret
    exact ⟨rfl, B1.out⟩
  subst hz
  obtain ⟨h1, h2, h3, h4⟩ := lisE_of hF
  have HS := Lib.hid fun (W : World) (h : Cl eI W A r) => p_sum r A n c hn W h (by omega) fun z hz => by have := h4 z hz; have hM : MM = 1099511627776 := rfl; omega
  obtain ⟨S, hS⟩ : ∃ S, sumZ r = S := ⟨_, rfl⟩
  rw [hS] at HS
  have he : recE r kinds = if S = 1000 then 0 else 18 := by unfold recE; rw [hF, if_pos rfl, hS]
  rw [he]
  clear ha hn hF h1 h2 h3 h4 hS he
  by_cases hs : S = 1000
  · subst hs
    rw [if_pos rfl]
    go_enter Try.func16, Try.ntmps16
    go_wp2_with fail
    refine HL.out.mono ?_
    rintro e w1 ⟨rfl, hb⟩
    have B1 := Lib.hid hb
    clear hb
    go_wp2_with fail
    refine (HS.out w1 (HA.out.on B1.out)).mono ?_
    rintro e w2 ⟨rfl, hb⟩
    have B2 := Lib.hid (bstep B1.out hb)
    clear hb
    go_wp2_with fail
    go_ret
    exact ⟨rfl, B2.out⟩
  · have s1 : (S == 1000) = false := beq_false_of_ne hs
    have s2 : (S != 1000) = true := by rw [bne, s1]; rfl
    rw [if_neg hs]
    clear hs
    go_enter Try.func16, Try.ntmps16
    go_wp2_with fail
    refine HL.out.mono ?_
    rintro e w1 ⟨rfl, hb⟩
    have B1 := Lib.hid hb
    clear hb
    go_wp2_with fail
    refine (HS.out w1 (HA.out.on B1.out)).mono ?_
    rintro e w2 ⟨rfl, hb⟩
    have B2 := Lib.hid (bstep B1.out hb)
    clear hb
    go_wp2_with fail
    go_ret
    exact ⟨rfl, B2.out⟩

theorem fibre_Parts (m : List Int) (A : Option Addr) (n c : Nat) (hn : n = m.length) (kinds : Int) (w : World) (ha : Cl eI w A m) (hm : n ≤ 1000000) :
    Calls Try.prog 18 #[.slice A n c, .int .i64 kinds] w fun e w' => e = .returned (.int .i64 (parE m kinds)) ∧ Below w.heap.size w w' := by
  have HL := Lib.hid (p_checkList m A n c hn kinds MM w ha (by omega))
  clear ha hn
  go_enter Try.func18, Try.ntmps18
  go_wp2_with fail
  refine HL.out.mono ?_
  rintro e w1 ⟨rfl, hb⟩
  have B1 := Lib.hid hb
  clear hb
  go_wp2_with fail
  go_ret
  exact ⟨rfl, B1.out⟩

set_option maxHeartbeats 800000 in
theorem fibre_Total (m : List Int) (A : Option Addr) (n c : Nat) (hn : n = m.length) (w : World) (ha : Cl eI w A m) (hm : n ≤ 1000000) :
    Calls Try.prog 22 #[.slice A n c] w fun e w' => e = .returned (.tuple #[.int .i64 (totV m), .int .i64 (totE m)]) ∧ Below w.heap.size w w' := by
  have HA := Lib.hid ha
  have HP := Lib.hid (fibre_Parts m A n c hn n w ha hm)
  have hlen : lenI m = (n : Int) := by unfold lenI; rw [hn]
  obtain ⟨F, hF⟩ : ∃ F, totE m = F := ⟨_, rfl⟩
  have hF2 : parE m (n : Int) = F := by rw [← hF]; unfold totE; rw [hlen]
  rw [hF2] at HP
  rw [hF]
  by_cases hz : F = 0
  rotate_left
  · obtain ⟨z1, z2⟩ := ne_zero hz
    have he : totV m = 0 := by unfold totV; rw [hF, if_neg hz]
    rw [he]
    clear ha hn hF hF2 hz he hlen
    go_enter Try.func22, Try.ntmps22
    go_wp2_with fail
    refine HP.out.mono ?_
    rintro e w1 ⟨rfl, hb⟩
    have B1 := Lib.hid hb
    clear hb
    go_wp2_with fail
    go_ret2
    exact ⟨rfl, B1.out⟩
  subst hz
  obtain ⟨h1, h2, h3, h4⟩ := lisE_of hF2
  have HS := Lib.hid fun (W : World) (h : Cl eI W A m) => p_sum m A n c hn W h (by omega) h4
  have he : totV m = sumZ m := by unfold totV; rw [hF, if_pos rfl]
  rw [he]
  obtain ⟨S, hS⟩ : ∃ S, sumZ m = S := ⟨_, rfl⟩
  rw [hS] at HS
  rw [hS]
  clear ha hn hF hF2 h1 h2 h3 h4 hS he hlen
  go_enter Try.func22, Try.ntmps22
  go_wp2_with fail
  refine HP.out.mono ?_
  rintro e w1 ⟨rfl, hb⟩
  have B1 := Lib.hid hb
  clear hb
  go_wp2_with fail
  refine (HS.out w1 (HA.out.on B1.out)).mono ?_
  rintro e w2 ⟨rfl, hb⟩
  have B2 := Lib.hid (bstep B1.out hb)
  clear hb
  go_wp2_with fail
  go_ret2
  exact ⟨rfl, B2.out⟩

/-! ### Masses -/
theorem errS_rec {r : List Int} {mass : Int} (hr : recE r (lenI r) = 0) (hm : 0 ≤ mass ∧ mass ≤ MM) : errS mass r = 0 := by
  have hM : MM = 1099511627776 := rfl
  obtain ⟨h4, h5⟩ := recE_of hr
  obtain ⟨h6, h7, -, h8⟩ := lisE_of h4
  have hI : ∀ {z : Int}, 0 ≤ z → z ≤ mx → inW z = true := fun h1 h2 => by unfold inW; simp [h1, h2]
  have hk : sumK r r.length = 1000 := h5
  unfold errS
  rw [if_neg (by rw [hI hm.1 (by rw [mx_is]; omega)]; decide), if_neg (by omega), if_neg (by omega), if_neg, if_neg (by rw [hk, mx_is]; omega), if_neg (by rw [hk]; omega)]
  intro h
  rw [List.all_eq_false] at h
  obtain ⟨z, hz, h9⟩ := h
  exact h9 (hI (h8 z hz).1 (by have := (h8 z hz).2; rw [mx_is]; omega))
set_option maxHeartbeats 800000 in
theorem fibre_Masses (r : List Int) (A : Option Addr) (n c : Nat) (hn : n = r.length) (mass : Int) (w : World) (ha : Cl eI w A r) (hm : n ≤ 1000000) :
    Calls Try.prog 20 #[.slice A n c, .int .i64 mass] w (ResM (masL r mass) (masE r mass) w) := by
  have HA := Lib.hid ha
  have hlen : lenI r = (n : Int) := by unfold lenI; rw [hn]
  have HR := Lib.hid (fibre_Recipe r A n c hn n w ha hm)
  obtain ⟨F, hF⟩ : ∃ F, recE r (lenI r) = F := ⟨_, rfl⟩
  have hF2 : recE r (n : Int) = F := by rw [← hlen]; exact hF
  rw [hF2] at HR
  by_cases hz : F = 0
  rotate_left
  · obtain ⟨z1, z2⟩ := ne_zero hz
    obtain ⟨e1, e2⟩ := masE_rec (mass := mass) (by rw [hF]; exact hz)
    rw [e1, e2, hF]
    clear ha hn hF hF2 hz hlen e1 e2
    go_enter Try.func20, Try.ntmps20
    go_wp2_with fail
    refine HR.out.mono ?_
    rintro e w1 ⟨rfl, hb⟩
    have B1 := Lib.hid hb
    clear hb
    go_wp2_with fail
    go_ret2
    exact ResM.none_ B1.out
  subst hz
  have HC := Lib.hid fun W => p_checkNumber mass MM W
  cases hi : inM MM mass with
  | false =>
    obtain ⟨e1, e2⟩ := masE_mass (mass := mass) hF hi
    rw [e1, e2]
    rw [nuE_bad hi] at HC
    clear ha hn hF hF2 hlen e1 e2 hi
    go_enter Try.func20, Try.ntmps20
    go_wp2_with fail
    refine HR.out.mono ?_
    rintro e w1 ⟨rfl, hb⟩
    have B1 := Lib.hid hb
    clear hb
    go_wp2_with fail
    refine (HC.out _).mono ?_
    rintro e w2 ⟨rfl, rfl⟩
    go_wp2_with fail
    go_ret2
    exact ResM.none_ B1.out
  | true =>
    obtain ⟨e1, e2, hp⟩ := masE_ok (mass := mass) hF hi
    have hS := errS_rec hF (inM_iff.mp hi)
    have HS := Lib.hid fun (W : World) (h : Cl eI W A r) => split_n mass r n hn.symm A c W h (by omega)
    rw [hS, show splL mass r = partsL mass r from if_pos hS] at HS
    rw [e1, e2]
    rw [nuE_ok hi] at HC
    clear ha hn hF hF2 hlen e1 e2 hi hp hS
    go_enter Try.func20, Try.ntmps20
    go_wp2_with fail
    refine HR.out.mono ?_
    rintro e w1 ⟨rfl, hb⟩
    have B1 := Lib.hid hb
    clear hb
    go_wp2_with fail
    refine (HC.out _).mono ?_
    rintro e w2 ⟨rfl, rfl⟩
    go_wp2_with fail
    refine (HS.out w1 (HA.out.on B1.out)).mono ?_
    rintro e w2 ⟨v, rfl, ho, hb⟩
    have HO := Lib.hid (ho.less B1.out.size)
    have B2 := Lib.hid (bstep B1.out hb)
    clear ho hb
    go_wp2_with fail
    go_ret2
    exact ⟨v, rfl, HO.out, B2.out⟩
end Go.Proofs.Ytgomokdklajlcaa.Fibre
/- The program: Add. -/
namespace Go.Proofs.Ytgomokdklajlcaa.Fibre
open Go.ChangeShapes Go.WideShapes Go.RowKit Go.Lib
open Go.Proofs.Ytgomokdklajlcaa.Mem (Cl eI Own make_ints own_made)
open Go.Proofs.Ytgomokdklajlcaa.Rw (glt get_lt ret_bool ret_int wrap_id bstep below_drewN below_drew drew_below below_alloc take_snoc_of)
set_option linter.unusedVariables false
set_option maxRecDepth 100000

/-- The first k of a list, and zeros behind them. -/
def upA (L : List Int) (k n : Nat) : List Int := L.take k ++ List.replicate (n - k) 0
theorem upA_len {L : List Int} {k n : Nat} (h : L.length = n) (hk : k ≤ n) : (upA L k n).length = n := by
  unfold upA; rw [List.length_append, List.length_take, List.length_replicate]; omega
theorem upA_set {L : List Int} {k n : Nat} {z : Int} (h : L.length = n) (hk : k < n) (hz : L[k]? = some z) : (upA L k n).set k z = upA L (k + 1) n := by
  unfold upA
  have hl : (L.take k).length = k := by rw [List.length_take]; omega
  obtain ⟨m, hm⟩ : ∃ m, n - k = m + 1 := ⟨n - k - 1, by omega⟩
  rw [hm, List.set_append_right _ _ (by omega), hl, Nat.sub_self, List.replicate_succ, List.set_cons_zero, take_snoc_of hz, List.append_assoc, show n - (k + 1) = m by omega]
  rfl
theorem upA_all {L : List Int} {n : Nat} (h : L.length = n) : upA L n n = L := by
  unfold upA; rw [Nat.sub_self, List.take_of_length_le (by omega)]; simp
set_option maxHeartbeats 1600000 in
theorem fibre_Add (a b : List Int) (A B : Option Addr) (n m c d : Nat) (hn : n = a.length) (hn' : m = b.length) (w : World) (ha : Cl eI w A a) (hb : Cl eI w B b) (hm : n ≤ 1000000) (hm2 : m ≤ 1000000) :
    Calls Try.prog 25 #[.slice A n c, .slice B m d] w (ResM (addL a b) (addE a b) w) := by
  have HA := Lib.hid ha
  have HB := Lib.hid hb
  by_cases hl : n = m
  rotate_left
  · have d1 : ((n : Int) != (m : Int)) = true := by simp; omega
    have d2 : ((n : Int) == (m : Int)) = false := beq_false_of_ne (by omega)
    obtain ⟨e1, e2⟩ := addE_len (a := a) (b := b) (by omega)
    rw [e1, e2]
    clear ha hb hn hn' hl e1 e2
    go_enter Try.func25, Try.ntmps25
    go_wp2_with fail
    go_ret2
    exact ResM.none_ (Below.refl _ _)
  subst hl
  have hab : a.length = b.length := by omega
  have d1 : ((n : Int) != (n : Int)) = false := by simp
  have d2 : ((n : Int) == (n : Int)) = true := by simp
  have la : lenI a = (n : Int) := by unfold lenI; rw [hn]
  have lb : lenI b = (n : Int) := by unfold lenI; rw [hn']
  have HPa := Lib.hid fun (W : World) (h : Cl eI W A a) => fibre_Parts a A n c hn n W h hm
  have HPb := Lib.hid fun (W : World) (h : Cl eI W B b) => fibre_Parts b B n d hn' n W h hm
  obtain ⟨F, hF⟩ : ∃ F, totE a = F := ⟨_, rfl⟩
  obtain ⟨G, hG⟩ : ∃ G, totE b = G := ⟨_, rfl⟩
  have hF2 : parE a (n : Int) = F := by rw [← hF]; unfold totE; rw [la]
  have hG2 : parE b (n : Int) = G := by rw [← hG]; unfold totE; rw [lb]
  rw [hF2] at HPa
  rw [hG2] at HPb
  by_cases hz : F = 0
  rotate_left
  · obtain ⟨z1, z2⟩ := ne_zero hz
    obtain ⟨e1, e2⟩ := addE_a hab (by rw [hF]; exact hz)
    rw [e1, e2, hF]
    clear ha hb hn hn' hab la lb hF hG hF2 hG2 hz e1 e2
    go_enter Try.func25, Try.ntmps25
    go_wp2_with fail
    refine (HPa.out w HA.out).mono ?_
    rintro e w1 ⟨rfl, hb⟩
    have B1 := Lib.hid hb
    clear hb
    go_wp2_with fail
    go_ret2
    exact ResM.none_ B1.out
  subst hz
  by_cases hz : G = 0
  rotate_left
  · obtain ⟨z1, z2⟩ := ne_zero hz
    obtain ⟨e1, e2⟩ := addE_b hab hF (by rw [hG]; exact hz)
    rw [e1, e2, hG]
    clear ha hb hn hn' hab la lb hF hG hF2 hG2 hz e1 e2
    go_enter Try.func25, Try.ntmps25
    go_wp2_with fail
    refine (HPa.out w HA.out).mono ?_
    rintro e w1 ⟨rfl, hb⟩
    have B1 := Lib.hid hb
    clear hb
    go_wp2_with fail
    refine (HPb.out w1 (HB.out.on B1.out)).mono ?_
    rintro e w2 ⟨rfl, hb⟩
    have B2 := Lib.hid (bstep B1.out hb)
    clear hb
    go_wp2_with fail
    go_ret2
    exact ResM.none_ B2.out
  subst hz
  obtain ⟨h1, h8, -, hal⟩ := lisE_of hF2
  obtain ⟨-, -, -, hbl⟩ := lisE_of hG2
  have HFG := Lib.hid (And.intro hab (And.intro hF hG))
  have HAl := Lib.hid hal
  have HBl := Lib.hid hbl
  have HN := Lib.hid (And.intro hn hn')
  have hn8 : n ≤ 8 := by omega
  have HLn : Hid ((addZ a b).length = n) := Lib.hid (by rw [addZ_len hab, hn])
  have hmk := fun W => make_ints n (by omega) W
  obtain ⟨E, hE⟩ : ∃ E, addE a b = E := ⟨_, rfl⟩
  obtain ⟨L, hL⟩ : ∃ L, addL a b = L := ⟨_, rfl⟩
  have HE := Lib.hid hE
  have HL := Lib.hid hL
  rw [hE, hL]
  clear ha hb hn hn' hab la lb hF hG hF2 hG2 h1 h8 hal hbl hE hL
  go_enter Try.func25, Try.ntmps25
  go_wp2_with fail
  refine (HPa.out w HA.out).mono ?_
  rintro e w1 ⟨rfl, hb⟩
  have B1 := Lib.hid hb
  clear hb
  go_wp2_with fail
  refine (HPb.out w1 (HB.out.on B1.out)).mono ?_
  rintro e w2 ⟨rfl, hb⟩
  have B2 := Lib.hid (bstep B1.out hb)
  clear hb
  go_upto_region 10 with fail
  have HM1 := Lib.hid (own_made eI 3 w2 n (0 : Int) (by omega))
  obtain ⟨w3, hw3⟩ : ∃ W, w2.alloc (.cells (madeCells #[.int .i64 0] n) 3) = W := ⟨_, rfl⟩
  obtain ⟨g, hg⟩ : ∃ g, w2.heap.size = g := ⟨_, rfl⟩
  have HO3 : Hid (Own eI 3 w.heap.size w3 (.slice (some ⟨g, 0, none⟩) n n) (upA (addZ a b) 0 n)) := Lib.hid (by
    rw [← hw3, ← hg]
    exact HM1.out.less B2.out.size)
  have HG3 : Hid (w.heap.size ≤ g) := Lib.hid (by rw [← hg]; exact B2.out.size)
  have B3 : Hid (Below w.heap.size w w3) := Lib.hid (by rw [← hw3]; exact bstep B2.out (below_alloc _ _))
  rw [hw3, hg]
  clear hw3 hg hmk HM1 B1 B2
  go_wp2_with fail
  go_loopw [34, 9] (fun i _ wr => ∃ k : Nat, k ≤ n ∧ i = .int .i64 k ∧ Own eI 3 w.heap.size wr (.slice (some ⟨g, 0, none⟩) n n) (upA (addZ a b) k n) ∧ (∀ (j : Nat) (x y : Int), j < k → a[j]? = some x → b[j]? = some y → x + y ≤ MM) ∧ Below w.heap.size w wr) (fun i _ _ => n - (RowKit.intOf i).toNat)
  case atStart => exact ⟨0, Nat.zero_le _, rfl, HO3.out, fun j x y h => absurd h (by omega), B3.out⟩
  case round =>
    obtain ⟨k, hk, rfl, hrow, hv, hbel⟩ := hrel
    have HR := Lib.hid hrow
    have HW := Lib.hid hbel
    have HV := Lib.hid hv
    clear hrow hbel hv
    rcases Nat.lt_or_ge k n with hlt | hge
    · obtain ⟨x, hx⟩ := get_lt (L := a) (k := k) (by have := HN.out.1; omega)
      obtain ⟨y, hy⟩ := get_lt (L := b) (k := k) (by have := HN.out.2; omega)
      obtain ⟨b1, o1, hA0, hb1, h0⟩ := cl_at HA.out hx
      obtain ⟨b2, o2, hB0, hb2, h3⟩ := cl_at HB.out hy
      subst hA0
      subst hB0
      have x0 : wr.cell? ⟨b1, o1 + k, none⟩ = some (.int .i64 x) := (HW.out.cell (p := ⟨b1, o1 + k, none⟩) hb1).trans h0
      have y0 : wr.cell? ⟨b2, o2 + k, none⟩ = some (.int .i64 y) := (HW.out.cell (p := ⟨b2, o2 + k, none⟩) hb2).trans h3
      have HX := Lib.hid hx
      have HY := Lib.hid hy
      have hxl := HAl.out x (List.mem_of_getElem? hx)
      have hyl := HBl.out y (List.mem_of_getElem? hy)
      have hM : MM = 1099511627776 := rfl
      have i1 : (k : Int) < (n : Int) := by omega
      have i2 : (0 : Int) ≤ (k : Int) := by omega
      obtain ⟨s, hs⟩ : ∃ s, x + y = s := ⟨_, rfl⟩
      have ws : IntKind.i64.wrap s = s := wrap_id (by omega)
      have HS := Lib.hid hs
      have HSt : Hid ((upA (addZ a b) k n).set k s = upA (addZ a b) (k + 1) n) := Lib.hid (by rw [← hs]; exact upA_set HLn.out hlt (addZ_at hx hy))
      have hul : (upA (addZ a b) k n).length = n := upA_len HLn.out hk
      obtain ⟨u, hu⟩ := get_lt (L := upA (addZ a b) k n) (k := k) (by omega)
      have f1 : wr.cell? ⟨g, k, none⟩ = some (.int .i64 u) := HR.out.cell hu
      have f3 := HR.out.warm hul.symm k
      have HO2 := Lib.hid (HR.out.drew.set hul.symm k s)
      have HW2 := Lib.hid ((below_drew HW.out).setCell (p := ⟨g, k, none⟩) HG3.out (.int .i64 s))
      have f4 : (wr.setCell ⟨g, k, none⟩ (.int .i64 s)).drew.cell? ⟨g, k, none⟩ = some (.int .i64 s) := World.cell?_setCell_same wr _ _ f1
      have f5 : (wr.drew.setCell ⟨g, k, none⟩ (.int .i64 s)).cell? ⟨g, k, none⟩ = some (.int .i64 s) := f4
      clear hx hy h0 h3 hxl hyl hM hb1 hb2 hul hu
      rcases Int.lt_or_le 1099511627776 s with hg | hg
      · have t0 : decide (1099511627776 < s) = true := decide_eq_true hg
        obtain ⟨e1, e2⟩ := addE_big HFG.out.1 HFG.out.2.1 HFG.out.2.2 HX.out HY.out (by rw [HS.out]; exact hg)
        obtain rfl : E = 2 := by rw [← HE.out]; exact e1
        obtain rfl : L = [] := by rw [← HL.out]; exact e2
        clear hg e1 e2
        go_wp2_with fail
        go_still_tail 11, (by kernel_rfl)
        change wpList _ _ _ _ _ wr.drew
        have f1' : wr.drew.cell? ⟨g, k, none⟩ = some (.int .i64 u) := f1
        have f3' : wr.drew.frozen? ⟨g, k, none⟩ = false := f3
        clear f1 f3 x0 y0
        go_wp2_with fail
        go_ret2
        exact ResM.none_ HW2.out
      have t0 : decide (1099511627776 < s) = false := decide_eq_false (by omega)
      have HG := Lib.hid (show s ≤ MM from hg)
      have HVn : Hid (∀ (j : Nat) (x y : Int), j < k + 1 → a[j]? = some x → b[j]? = some y → x + y ≤ MM) := Lib.hid (by
        intro j u v hj hu hv
        rcases Nat.lt_or_eq_of_le (Nat.le_of_lt_succ hj) with h | h
        · exact HV.out j u v h hu hv
        · subst h
          have e1 := HX.out
          have e2 := HY.out
          rw [hu] at e1; rw [hv] at e2; cases e1; cases e2
          rw [HS.out]; exact HG.out)
      clear hg
      go_wp2_with fail
      go_still_tail 11, (by kernel_rfl)
      change wpList _ _ _ _ _ wr.drew
      have f1' : wr.drew.cell? ⟨g, k, none⟩ = some (.int .i64 u) := f1
      have f3' : wr.drew.frozen? ⟨g, k, none⟩ = false := f3
      clear f1 f3 x0 y0
      go_wp2_with fail
      go_roundw
      case rel => exact ⟨k + 1, by omega, by go_num, HSt.out ▸ HO2.out, HVn.out, HW2.out⟩
      case measure => simp [RowKit.intOf]; omega
    · obtain rfl : k = n := by omega
      obtain ⟨e1, e2⟩ := addE_ok HFG.out.1 HFG.out.2.1 HFG.out.2.2 fun j x y hx hy => HV.out j x y (by have := glt hx; have := HN.out.1; omega) hx hy
      obtain rfl : E = 0 := by rw [← HE.out]; exact e1
      have HO : Hid (Own eI 3 w.heap.size wr (.slice (some ⟨g, 0, none⟩) k k) L) := Lib.hid (by
        have h1 := HR.out
        rw [upA_all HLn.out, ← e2, HL.out] at h1
        exact h1)
      clear e1 e2
      go_wp2_with fail
      go_ret2
      exact ⟨_, rfl, HO.out, HW.out⟩
end Go.Proofs.Ytgomokdklajlcaa.Fibre
/- The program: Cost, Near (written by gen16/r.py). -/
namespace Go.Proofs.Ytgomokdklajlcaa.Fibre
open Go.ChangeShapes Go.WideShapes Go.RowKit Go.Lib
open Go.Proofs.Ytgomokdklajlcaa.Mem (Cl eI Own)
open Go.Proofs.Ytgomokdklajlcaa.Rw (Cel glt get_lt ret_bool ret_int wrap_id bstep below_drewN below_drew drew_below below_alloc)
open Go.Proofs.Ytgomokdklajlcaa.Share (sumK)
set_option linter.unusedVariables false
set_option maxRecDepth 100000

set_option maxHeartbeats 3200000 in
theorem fibre_Cost (l : List Fb) (m : List Int) (A B : Option Addr) (n n' c d : Nat) (hn : n = l.length) (hn' : n' = m.length) (w : World) (ha : Kds w A l) (hs : Sz l) (hb : Cl eI w B m) (hm : n ≤ 1000000) (hm2 : n' ≤ 1000000) :
    Calls Try.prog 27 #[.slice A n c, .slice B n' d] w fun e w' => e = .returned (.tuple #[.int .i64 (cosV mdC l m), .int .i64 (cosE mdC l m)]) ∧ Below w.heap.size w w' := by
  have HA := Lib.hid ha
  have HB := Lib.hid hb
  have HCk := Lib.hid (fibre_Check l A n c hn w ha hs hm)
  obtain ⟨F, hF⟩ : ∃ F, chkE l = F := ⟨_, rfl⟩
  rw [hF] at HCk
  by_cases hz : F = 0
  rotate_left
  · obtain ⟨z1, z2⟩ := ne_zero hz
    obtain ⟨e1, e2⟩ := cosE_chk (l := l) (m := m) (by rw [hF]; exact hz)
    rw [e1, e2, hF]
    clear ha hb hs hn hn' hF hz e1 e2
    go_enter Try.func27, Try.ntmps27
    go_wp2_with fail
    refine HCk.out.mono ?_
    rintro e w1 ⟨rfl, hb⟩
    have B1 := Lib.hid hb
    clear hb
    go_wp2_with fail
    go_ret2
    exact ⟨rfl, B1.out⟩
  subst hz
  have HPa := Lib.hid fun (W : World) (h : Cl eI W B m) => fibre_Parts m B n' d hn' n W h hm2
  obtain ⟨G, hG⟩ : ∃ G, parE m (l.length : Int) = G := ⟨_, rfl⟩
  have hG2 : parE m (n : Int) = G := by rw [hn]; exact hG
  rw [hG2] at HPa
  by_cases hz : G = 0
  rotate_left
  · obtain ⟨z1, z2⟩ := ne_zero hz
    obtain ⟨e1, e2⟩ := cosE_par (m := m) hF (by rw [hG]; exact hz)
    rw [e1, e2, hG]
    clear ha hb hs hn hn' hF hG hG2 hz e1 e2
    go_enter Try.func27, Try.ntmps27
    go_wp2_with fail
    refine HCk.out.mono ?_
    rintro e w1 ⟨rfl, hb⟩
    have B1 := Lib.hid hb
    clear hb
    go_wp2_with fail
    refine (HPa.out w1 (HB.out.on B1.out)).mono ?_
    rintro e w2 ⟨rfl, hb⟩
    have B2 := Lib.hid (bstep B1.out hb)
    clear hb
    go_wp2_with fail
    go_ret2
    exact ⟨rfl, B2.out⟩
  subst hz
  obtain ⟨h1, h8, hlm, hml⟩ := lisE_of hG
  have hnn : n' = n := by omega
  have hll : l.length = m.length := by omega
  have HLL := Lib.hid hll
  have HFG := Lib.hid (And.intro hF hG)
  have HN := Lib.hid (And.intro hn hn')
  have HLim := Lib.hid (cosK_lim l m hll)
  have hn8 : n ≤ 8 := by omega
  have HMd : Hid (∀ (x z : Int) (W : World), Calls Try.prog 44 #[.int .i64 x, .int .i64 z, .int .i64 1000000, .int .i64 2] W fun e w' => ∃ E, e = .returned (.tuple #[.int .i64 (mdC x z), .int .i64 E]) ∧ Below W.heap.size W w') := fun x z W =>
    (Num.num_muldiv x z 1000000 2 W).mono fun e w' ⟨h3, h4⟩ => ⟨_, h3, h4⟩
  obtain ⟨E, hE⟩ : ∃ E, cosE mdC l m = E := ⟨_, rfl⟩
  obtain ⟨V, hV⟩ : ∃ V, cosV mdC l m = V := ⟨_, rfl⟩
  have HE := Lib.hid hE
  have HV := Lib.hid hV
  rw [hE, hV]
  subst hnn
  clear ha hb hs hn hn' hF hG hG2 h1 h8 hlm hml hll hE hV
  go_enter Try.func27, Try.ntmps27
  go_wp2_with fail
  refine HCk.out.mono ?_
  rintro e w1 ⟨rfl, hb⟩
  have B1 := Lib.hid hb
  clear hb
  go_wp2_with fail
  refine (HPa.out w1 (HB.out.on B1.out)).mono ?_
  rintro e w2 ⟨rfl, hb⟩
  have B2 := Lib.hid (bstep B1.out hb)
  clear hb
  go_wp2_with fail
  go_loopw [27, 8, 9, 10, 11, 12] (fun i s _ _ _ _ wr => ∃ (k : Nat) (S : Int), k ≤ n' ∧ i = .int .i64 k ∧ s = .int .i64 S ∧ S = cosK mdC l m k ∧ Below w.heap.size w wr) (fun i _ _ _ _ _ _ => n' - (RowKit.intOf i).toNat)
  case atStart => exact ⟨0, 0, Nat.zero_le _, rfl, rfl, rfl, B2.out⟩
  case round =>
    obtain ⟨k, S, hk, rfl, rfl, hS, hbel⟩ := hrel
    have HS := Lib.hid hS
    have HW := Lib.hid hbel
    clear hS hbel
    rcases Nat.lt_or_ge k n' with hlt | hge
    · obtain ⟨f, hf⟩ := get_lt (L := l) (k := k) (by have := HN.out.1; omega)
      obtain ⟨z, hz⟩ := get_lt (L := m) (k := k) (by have := HN.out.2; omega)
      obtain ⟨b1, o1, hA0, hb1, hn0, h0⟩ := kd_at (HA.out.on HW.out) hf
      obtain ⟨b2, o2, hB0, hb2, h3⟩ := cl_at (HB.out.on HW.out) hz
      subst hA0
      subst hB0
      have i1 : (k : Int) < (n' : Int) := by omega
      have i2 : (0 : Int) ≤ (k : Int) := by omega
      obtain ⟨S2, hS2⟩ : ∃ S2, cosK mdC l m (k + 1) = S2 := ⟨_, rfl⟩
      have hl1 := HLim.out (k + 1) (by have := HN.out.1; omega)
      have he := cosK_succ (md := mdC) HLL.out hf hz
      rw [hS2, ← HS.out] at he
      rw [hS2] at hl1
      have HM1 := Lib.hid fun W => HMd.out f.2 z W
      obtain ⟨P, hP⟩ : ∃ P, mdC f.2 z = P := ⟨_, rfl⟩
      rw [hP] at HM1 he
      have wS : IntKind.i64.wrap S2 = S2 := wrap_id (by omega)
      have hs : S + P = S2 := he.symm
      have HS2 := Lib.hid hS2
      clear hf hz hS2 hl1 he hP
      go_upto_region 11 with fail
      generalize hw1 : wr.alloc (.cells #[.string f.1, .int .i64 f.2] TF) = wq
      have HBq : Hid (Below wr.heap.size wr wq) := hw1 ▸ below_alloc _ _
      have HCq : Hid (Cel wq wr.heap.size [.string f.1, .int .i64 f.2]) := hw1 ▸ Cel.new _ _ _
      clear hw1
      have c1 : wq.cell? ⟨wr.heap.size, 1, none⟩ = some (.int .i64 f.2) := HCq.out.at_ 1 _ rfl
      have c2 : wq.cell? ⟨b2, o2 + k, none⟩ = some (.int .i64 z) := (HBq.out.cell (p := ⟨b2, o2 + k, none⟩) hb2).trans h3
      have hb3 : b2 < wq.heap.size := Nat.lt_of_lt_of_le hb2 HBq.out.size
      have HCS : Hid (∀ W, Below wq.heap.size wq W → W.cell? ⟨wr.heap.size, 1, none⟩ = some (.int .i64 f.2) ∧ W.cell? ⟨b2, o2 + k, none⟩ = some (.int .i64 z)) := fun W h =>
        ⟨(h.cell (p := ⟨wr.heap.size, 1, none⟩) HCq.out.lt).trans c1, (h.cell (p := ⟨b2, o2 + k, none⟩) hb3).trans c2⟩
      obtain ⟨sz, hsz⟩ : ∃ s, wr.heap.size = s := ⟨_, rfl⟩
      have HSz := Lib.hid hsz
      rw [hsz] at HCS c1
      rw [hsz]
      clear h0 h3 hb1 hb2 hsz
      go_region_held3 (fun W => W.cell? ⟨sz, 1, none⟩ = some (.int .i64 f.2) ∧ W.cell? ⟨b2, o2 + k, none⟩ = some (.int .i64 z))
        (first | exact HCS.out _ (Below.refl _ _) | exact HCS.out _ (drew_below _) | exact HCS.out _ HBL.out)
        ((go_at_call 44; (refine (HM1.out _).mono ?_); rintro e w3 ⟨E1, rfl, hb3⟩; (have HBL : Hid (Below wq.heap.size wq w3) := Lib.hid (bstep (drew_below _) hb3)); clear hb3))
      all_goals
        have HB5 : Hid (Below w.heap.size w w3) := Lib.hid (bstep HW.out (bstep HBq.out HBL.out))
        go_wp2_with fail
        go_roundw
        case rel => exact ⟨k + 1, S2, by omega, by go_num, rfl, HS2.out.symm, HB5.out⟩
        case measure => simp [RowKit.intOf]; omega
    · obtain rfl : k = n' := by omega
      have HT : Hid (S = cosS mdC l m) := Lib.hid (by rw [HS.out]; exact cosK_all _ _ _ (by rw [← HN.out.1]; exact Nat.le_refl _) (by rw [← HN.out.2]; exact Nat.le_refl _))
      rcases Int.lt_or_le 1000000000000 S with hg | hg
      · have t0 : decide (1000000000000 < S) = true := decide_eq_true hg
        obtain ⟨e1, e2⟩ := cosE_big HFG.out.1 HFG.out.2 (by rw [← HT.out]; exact hg)
        obtain rfl : E = 2 := by rw [← HE.out]; exact e1
        obtain rfl : V = 0 := by rw [← HV.out]; exact e2
        clear hg e1 e2
        go_wp2_with fail
        go_ret2
        exact ⟨rfl, HW.out⟩
      · have t0 : decide (1000000000000 < S) = false := decide_eq_false (by omega)
        obtain ⟨e1, e2⟩ := cosE_ok HFG.out.1 HFG.out.2 (by rw [← HT.out]; omega)
        obtain rfl : E = 0 := by rw [← HE.out]; exact e1
        obtain rfl : V = S := by rw [← HV.out, HT.out]; exact e2
        clear hg e1 e2
        go_wp2_with fail
        go_ret2
        exact ⟨rfl, HW.out⟩

set_option maxHeartbeats 3200000 in
theorem fibre_Near (m r : List Int) (A B : Option Addr) (n n' c d : Nat) (hn : n = m.length) (hn' : n' = r.length) (tol : Int) (w : World) (ha : Cl eI w A m) (hb : Cl eI w B r) (hm : n ≤ 1000000) (hm2 : n' ≤ 1000000) :
    Calls Try.prog 29 #[.slice A n c, .slice B n' d, .int .i64 tol] w fun e w' => e = .returned (.tuple #[.bool (neaV m r tol), .int .i64 (neaE m r tol)]) ∧ Below w.heap.size w w' := by
  have HA := Lib.hid ha
  have HB := Lib.hid hb
  have lr : lenI r = (n' : Int) := by unfold lenI; rw [hn']
  have HRe := Lib.hid (fibre_Recipe r B n' d hn' n' w hb hm2)
  obtain ⟨F, hF⟩ : ∃ F, recE r (lenI r) = F := ⟨_, rfl⟩
  have hF2 : recE r (n' : Int) = F := by rw [← lr]; exact hF
  rw [hF2] at HRe
  by_cases hz : F = 0
  rotate_left
  · obtain ⟨z1, z2⟩ := ne_zero hz
    obtain ⟨e1, e2⟩ := nea_rec (m := m) (tol := tol) (by rw [hF]; exact hz)
    rw [e1, e2, hF]
    clear ha hb hn hn' lr hF hF2 hz e1 e2
    go_enter Try.func29, Try.ntmps29
    go_wp2_with fail
    refine HRe.out.mono ?_
    rintro e w1 ⟨rfl, hb⟩
    have B1 := Lib.hid hb
    clear hb
    go_wp2_with fail
    go_ret2
    exact ⟨rfl, B1.out⟩
  subst hz
  have HPa := Lib.hid fun (W : World) (h : Cl eI W A m) => fibre_Parts m A n c hn n' W h hm
  obtain ⟨G, hG⟩ : ∃ G, parE m (lenI r) = G := ⟨_, rfl⟩
  have hG2 : parE m (n' : Int) = G := by rw [← lr]; exact hG
  rw [hG2] at HPa
  by_cases hz : G = 0
  rotate_left
  · obtain ⟨z1, z2⟩ := ne_zero hz
    obtain ⟨e1, e2⟩ := nea_par (tol := tol) hF (by rw [hG]; exact hz)
    rw [e1, e2, hG]
    clear ha hb hn hn' lr hF hF2 hG hG2 hz e1 e2
    go_enter Try.func29, Try.ntmps29
    go_wp2_with fail
    refine HRe.out.mono ?_
    rintro e w1 ⟨rfl, hb⟩
    have B1 := Lib.hid hb
    clear hb
    go_wp2_with fail
    refine (HPa.out w1 (HA.out.on B1.out)).mono ?_
    rintro e w2 ⟨rfl, hb⟩
    have B2 := Lib.hid (bstep B1.out hb)
    clear hb
    go_wp2_with fail
    go_ret2
    exact ⟨rfl, B2.out⟩
  subst hz
  by_cases ht : inM 1000 tol = true
  rotate_left
  · obtain ⟨e1, e2⟩ := nea_tol hF hG (Bool.eq_false_iff.mpr ht)
    rw [e1, e2]
    have HC := Lib.hid fun W => p_checkNumber tol 1000 W
    rw [nuE_bad (Bool.eq_false_iff.mpr ht)] at HC
    clear ha hb hn hn' lr hF hF2 hG hG2 e1 e2 ht
    go_enter Try.func29, Try.ntmps29
    go_wp2_with fail
    refine HRe.out.mono ?_
    rintro e w1 ⟨rfl, hb⟩
    have B1 := Lib.hid hb
    clear hb
    go_wp2_with fail
    refine (HPa.out w1 (HA.out.on B1.out)).mono ?_
    rintro e w2 ⟨rfl, hb⟩
    have B2 := Lib.hid (bstep B1.out hb)
    clear hb
    go_wp2_with fail
    refine (HC.out _).mono ?_
    rintro e w3 ⟨rfl, rfl⟩
    go_wp2_with fail
    go_ret2
    exact ⟨rfl, B2.out⟩
  have HC := Lib.hid fun W => p_checkNumber tol 1000 W
  rw [nuE_ok ht] at HC
  have htl := inM_iff.mp ht
  obtain ⟨hr1, -⟩ := recE_of hF
  obtain ⟨-, h8, -, hrl⟩ := lisE_of hr1
  obtain ⟨-, -, hml0, hml⟩ := lisE_of hG
  have hnn : n = n' := by rw [lr] at hml0; omega
  subst hnn
  have hn8 : n ≤ 8 := by omega
  have hte : totE m = 0 := by
    have h1 : lenI m = lenI r := by rw [lr]; unfold lenI; omega
    unfold totE; rw [h1]; exact hG
  have htv : totV m = sumZ m := by unfold totV; rw [hte, if_pos rfl]
  have HSm := Lib.hid fun (W : World) (h : Cl eI W A m) => fibre_Total m A n c hn W h hm
  rw [hte, htv] at HSm
  have hsl := sumZ_lim (by decide) hml (by omega)
  obtain ⟨T, hT⟩ : ∃ T, sumZ m = T := ⟨_, rfl⟩
  rw [hT] at HSm hsl
  have hM : MM = 1099511627776 := rfl
  rw [hM] at hsl
  by_cases hT0 : T = 0
  · subst hT0
    obtain ⟨e1, e2⟩ := nea_nil hF hG ht hT
    rw [e1, e2]
    clear ha hb hn hn' lr hF hF2 hG hG2 e1 e2 ht htl hr1 h8 hrl hml0 hml hsl hT hM hte htv
    go_enter Try.func29, Try.ntmps29
    go_wp2_with fail
    refine HRe.out.mono ?_
    rintro e w1 ⟨rfl, hb⟩
    have B1 := Lib.hid hb
    clear hb
    go_wp2_with fail
    refine (HPa.out w1 (HA.out.on B1.out)).mono ?_
    rintro e w2 ⟨rfl, hb⟩
    have B2 := Lib.hid (bstep B1.out hb)
    clear hb
    go_wp2_with fail
    refine (HC.out _).mono ?_
    rintro e wc ⟨rfl, rfl⟩
    go_wp2_with fail
    refine (HSm.out w2 (HA.out.on B2.out)).mono ?_
    rintro e w3 ⟨rfl, hb⟩
    have B3 := Lib.hid (bstep B2.out hb)
    clear hb
    go_wp2_with fail
    go_ret2
    exact ⟨rfl, B3.out⟩
  have z1 : (T == 0) = false := beq_false_of_ne hT0
  obtain ⟨e1, e2⟩ := nea_ok hF hG ht (by rw [hT]; exact hT0)
  rw [hT] at e2
  rw [e1, e2]
  obtain ⟨V, hV⟩ : ∃ V, neaB T tol m r = V := ⟨_, rfl⟩
  rw [hV]
  have HV := Lib.hid hV
  have HML := Lib.hid hml
  have HRL := Lib.hid hrl
  have HN := Lib.hid (And.intro hn hn')
  have HTl := Lib.hid htl
  have HTs := Lib.hid hsl
  have HT0 := Lib.hid hT0
  have htt : tol * T ≤ 8796093022208000 := by
    have h1 : tol * T ≤ 1000 * T := Int.mul_le_mul_of_nonneg_right htl.2 hsl.1
    omega
  have htt0 : 0 ≤ tol * T := Int.mul_nonneg htl.1 hsl.1
  obtain ⟨U, hU⟩ : ∃ U, tol * T = U := ⟨_, rfl⟩
  obtain ⟨ν, hν⟩ : ∃ ν, -tol = ν := ⟨_, rfl⟩
  have hnu : ν * T = -U := by rw [← hν, ← hU, Int.neg_mul]
  obtain ⟨NU, hNU⟩ : ∃ NU, ν * T = NU := ⟨_, rfl⟩
  rw [hU] at htt htt0
  have wU : IntKind.i64.wrap U = U := wrap_id (by omega)
  have wN : IntKind.i64.wrap ν = ν := wrap_id (by omega)
  have wNU : IntKind.i64.wrap NU = NU := wrap_id (by omega)
  have HU := Lib.hid (And.intro hU (And.intro (show NU = -U by rw [← hNU]; exact hnu) (And.intro htt0 htt)))
  clear ha hb hn hn' lr hF hF2 hG hG2 e1 e2 ht hr1 h8 hrl hml0 hml hT hM hV htl hnu htt htt0 hsl hT0 hte htv
  go_enter Try.func29, Try.ntmps29
  go_wp2_with fail
  refine HRe.out.mono ?_
  rintro e w1 ⟨rfl, hb⟩
  have B1 := Lib.hid hb
  clear hb
  go_wp2_with fail
  refine (HPa.out w1 (HA.out.on B1.out)).mono ?_
  rintro e w2 ⟨rfl, hb⟩
  have B2 := Lib.hid (bstep B1.out hb)
  clear hb
  go_wp2_with fail
  refine (HC.out _).mono ?_
  rintro e wc ⟨rfl, rfl⟩
  go_wp2_with fail
  refine (HSm.out w2 (HA.out.on B2.out)).mono ?_
  rintro e w3 ⟨rfl, hb⟩
  have B3 := Lib.hid (bstep B2.out hb)
  clear hb
  go_wp2_with fail
  go_loopw [44, 13, 14, 15] (fun i _ _ _ wr => ∃ k : Nat, k ≤ n ∧ i = .int .i64 k ∧ (∀ (j : Nat) (x y : Int), j < k → m[j]? = some x → r[j]? = some y → nea1 T tol x y = true) ∧ Below w.heap.size w wr) (fun i _ _ _ _ => n - (RowKit.intOf i).toNat)
  case atStart => exact ⟨0, Nat.zero_le _, rfl, fun j x y h => absurd h (by omega), B3.out⟩
  case round =>
    obtain ⟨k, hk, rfl, hv, hbel⟩ := hrel
    have HQ := Lib.hid hv
    have HW := Lib.hid hbel
    clear hv hbel
    rcases Nat.lt_or_ge k n with hlt | hge
    · obtain ⟨x, hx⟩ := get_lt (L := m) (k := k) (by have := HN.out.1; omega)
      obtain ⟨y, hy⟩ := get_lt (L := r) (k := k) (by have := HN.out.2; omega)
      obtain ⟨b1, o1, hA0, hb1, h0⟩ := cl_at (HA.out.on HW.out) hx
      obtain ⟨b2, o2, hB0, hb2, h3⟩ := cl_at (HB.out.on HW.out) hy
      subst hA0
      subst hB0
      have HX := Lib.hid hx
      have HY := Lib.hid hy
      have hxl := HML.out x (List.mem_of_getElem? hx)
      have hyl := HRL.out y (List.mem_of_getElem? hy)
      have hM : MM = 1099511627776 := rfl
      have hts := HTs.out
      have i1 : (k : Int) < (n : Int) := by omega
      have i2 : (0 : Int) ≤ (k : Int) := by omega
      have hyT : y * T ≤ 8796093022208000 := by
        have h1 : y * T ≤ 1000 * T := Int.mul_le_mul_of_nonneg_right hyl.2 hts.1
        omega
      have hyT0 : 0 ≤ y * T := Int.mul_nonneg hyl.1 hts.1
      obtain ⟨P1, hP1⟩ : ∃ P, 1000 * x = P := ⟨_, rfl⟩
      obtain ⟨P2, hP2⟩ : ∃ P, y * T = P := ⟨_, rfl⟩
      obtain ⟨D, hD⟩ : ∃ D, P1 - P2 = D := ⟨_, rfl⟩
      rw [hP2] at hyT hyT0
      have w1' : IntKind.i64.wrap P1 = P1 := wrap_id (by omega)
      have w2' : IntKind.i64.wrap P2 = P2 := wrap_id (by omega)
      have w3' : IntKind.i64.wrap D = D := wrap_id (by omega)
      have HD := Lib.hid (show 1000 * x - y * T = D by rw [hP1, hP2, hD])
      obtain ⟨ND, hND⟩ : ∃ ND, -D = ND := ⟨_, rfl⟩
      have w4' : IntKind.i64.wrap ND = ND := wrap_id (by omega)
      obtain ⟨M, hMx⟩ : ∃ M, (if D < ND then ND else D) = M := ⟨_, rfl⟩
      have hMx2 : max D ND = M := by rw [← hMx]; split <;> omega
      have hMx3 : (if D ≤ ND then ND else D) = M := by rw [← hMx]; split <;> split <;> omega
      have hM1 : D ≤ M ∧ -D ≤ M ∧ (M = D ∨ M = -D) := by rw [← hMx]; split <;> omega
      have HU1 := HU.out.2.1
      clear hx hy hxl hyl hM hts hyT hyT0
      rcases Int.lt_or_le U M with hg | hg
      · have t5 : decide (U < M) = true := decide_eq_true hg
        have hor : U < D ∨ D < NU := by omega
        obtain rfl : V = false := by rw [← HV.out]; exact neaB_bad HX.out HY.out (nea1_no (by rw [HU.out.1, HD.out]; rw [HU.out.2.1] at hor; exact hor))
        clear hg hor hM1 HU1
        go_wp2_with fail
        go_ret2
        exact ⟨rfl, HW.out⟩
      have t5 : decide (U < M) = false := decide_eq_false (by omega)
      have HY1 := Lib.hid (nea1_yes (t := T) (tol := tol) (x := x) (r := y) (by rw [HU.out.1, HD.out]; omega) (by rw [HU.out.1, HD.out]; omega))
      clear hg hM1 HU1
      go_wp2_with fail
      go_roundw
      case rel =>
        refine ⟨k + 1, by omega, by go_num, ?_, HW.out⟩
        intro j u v hj hu hv
        rcases Nat.lt_or_eq_of_le (Nat.le_of_lt_succ hj) with h | h
        · exact HQ.out j u v h hu hv
        · subst h
          have e1 := HX.out
          have e2 := HY.out
          rw [hu] at e1; rw [hv] at e2; cases e1; cases e2; exact HY1.out
      case measure => simp [RowKit.intOf]; omega
    · obtain rfl : k = n := by omega
      obtain rfl : V = true := by rw [← HV.out]; exact neaB_ok fun j x y hx hy => HQ.out j x y (by have := glt hx; have := HN.out.1; omega) hx hy
      go_wp2_with fail
      go_ret2
      exact ⟨rfl, HW.out⟩
end Go.Proofs.Ytgomokdklajlcaa.Fibre
/- The program's contracts, together. -/
/- The chapter's examples. -/
namespace Go.Proofs.Ytgomokdklajlcaa.Fibre
open Go.ChangeShapes Go.WideShapes Go.RowKit Go.Lib
open Go.Proofs.Ytgomokdklajlcaa.Mem (Cl eI Own)
open Go.Proofs.Ytgomokdklajlcaa.Rw (Rd Row bstep below_alloc cI cI_len rd_lit flat_cI)
set_option linter.unusedVariables false
set_option maxRecDepth 100000

theorem cl_rd {w : World} {A : Option Addr} {L : List Int} (h : Rd cI 1 w A L) : Cl eI w A L := by
  intro k z hz
  obtain ⟨b, off, e, hlt, hc⟩ := h k z hz
  have := hc 0 _ rfl
  rw [Nat.mul_one, Nat.add_zero] at this
  exact ⟨b, off, e, hlt, this⟩
theorem lit_ints (w : World) (L : List Int) (T : TypeId) {k : Nat} (hk : w.heap.size = k) : Cl eI (w.alloc (.cells (L.flatMap cI).toArray T)) (some ⟨k, 0, none⟩) L := by
  subst hk
  exact cl_rd (rd_lit cI_len (heap_alloc_new _ _))
theorem lit_kinds (w : World) (L : List Fb) (T : TypeId) {k : Nat} (hk : w.heap.size = k) : Kds (w.alloc (.cells (L.flatMap cF).toArray T)) (some ⟨k, 0, none⟩) L := by
  subst hk
  exact rd_lit cF_len (heap_alloc_new _ _)
abbrev fa : Fb := (⟨#[97]⟩, 1000)
theorem sz_fa : Sz [fa] := fun f hf => by
  rw [List.mem_singleton] at hf
  subst hf; decide
set_option maxHeartbeats 6400000 in
theorem law_awake (w : World) :
    Calls Try.prog 12 #[] w fun e w' => e = .returned (.bool true) ∧ Below w.heap.size w w' := by
  have K1 := Lib.hid fun (A : Option Addr) (W : World) (h : Cl eI W A [333, 333, 334]) => fibre_Masses [333, 333, 334] A 3 3 rfl 10 W h (by decide)
  have K2 := Lib.hid fun (A B : Option Addr) (W : World) (h : Kds W A [fa]) (k : Cl eI W B [500]) => fibre_Cost [fa] [500] A B 1 1 1 1 rfl rfl W h sz_fa k (by decide) (by decide)
  have K3 := Lib.hid fun (A B : Option Addr) (W : World) (h : Kds W A [fa]) (k : Cl eI W B [1500]) => fibre_Cost [fa] [1500] A B 1 1 1 1 rfl rfl W h sz_fa k (by decide) (by decide)
  have K4 := Lib.hid fun (A B : Option Addr) (W : World) (h : Cl eI W A [30, 70]) (k : Cl eI W B [280, 720]) => fibre_Near [30, 70] [280, 720] A B 2 2 2 2 rfl rfl 20 W h k (by decide) (by decide)
  have K5 := Lib.hid fun (A B : Option Addr) (W : World) (h : Cl eI W A [30, 70]) (k : Cl eI W B [280, 720]) => fibre_Near [30, 70] [280, 720] A B 2 2 2 2 rfl rfl 19 W h k (by decide) (by decide)
  have K6 := Lib.hid fun (A B : Option Addr) (W : World) (h : Cl eI W A [1, 2]) (k : Cl eI W B [3, 4]) => fibre_Add [1, 2] [3, 4] A B 2 2 2 2 rfl rfl W h k (by decide) (by decide)
  have K7 := Lib.hid fun (W : World) => fibre_Check [] none 0 0 rfl W (Rd.nil _ _ _ _) (fun f hf => by simp at hf) (by decide)
  have K8 := Lib.hid fun (A : Option Addr) (W : World) (h : Cl eI W A [500, 499]) => fibre_Recipe [500, 499] A 2 2 rfl 2 W h (by decide)
  have K9 := Lib.hid fun (A : Option Addr) (W : World) (h : Cl eI W A [500, 499]) => fibre_Recipe [500, 499] A 2 2 rfl 3 W h (by decide)
  rw [show masL [333, 333, 334] 10 = [3, 3, 4] by decide +kernel, show masE [333, 333, 334] 10 = 0 by decide +kernel] at K1
  rw [show cosV mdC [fa] [500] = 0 by decide +kernel, show cosE mdC [fa] [500] = 0 by decide +kernel] at K2
  rw [show cosV mdC [fa] [1500] = 2 by decide +kernel, show cosE mdC [fa] [1500] = 0 by decide +kernel] at K3
  rw [show neaV [30, 70] [280, 720] 20 = true by decide +kernel, show neaE [30, 70] [280, 720] 20 = 0 by decide +kernel] at K4
  rw [show neaV [30, 70] [280, 720] 19 = false by decide +kernel, show neaE [30, 70] [280, 720] 19 = 0 by decide +kernel] at K5
  rw [show addL [1, 2] [3, 4] = [4, 6] by decide +kernel, show addE [1, 2] [3, 4] = 0 by decide +kernel] at K6
  rw [show chkE [] = 10 by decide +kernel] at K7
  rw [show recE [500, 499] 2 = 18 by decide +kernel] at K8
  rw [show recE [500, 499] 3 = 17 by decide +kernel] at K9
  go_enter Try.func12, Try.ntmps12
  go_wp2_with fail
  refine (K1.out (some ⟨w.heap.size, 0, none⟩) _ (lit_ints w ([(333 : Int), (333 : Int), (334 : Int)] : List Int) 3 (by simp))).mono ?_
  rintro e w1 ⟨v, rfl, ho, hb⟩
  have hb' := bstep (below_alloc w (.cells (([(333 : Int), (333 : Int), (334 : Int)] : List Int).flatMap cI).toArray 3)) hb
  have B1 := Lib.hid hb'
  obtain ⟨A1, c1, rfl, -, hc1⟩ := ho.inS.open_
  have R1 := Lib.hid hc1
  clear ho hc1
  clear hb hb'
  go_wp2_with fail
  refine (K2.out (some ⟨w1.heap.size, 0, none⟩) (some ⟨w1.heap.size + 1, 0, none⟩) _ ((lit_kinds w1 [fa] 43 (by simp)).on (below_alloc _ _)) (lit_ints (w1.alloc (.cells ([fa].flatMap cF).toArray 43)) ([(500 : Int)] : List Int) 3 (by simp))).mono ?_
  rintro e w2 ⟨rfl, hb⟩
  have hb' := bstep (bstep (below_alloc w1 (.cells ([fa].flatMap cF).toArray 43)) (below_alloc (w1.alloc (.cells ([fa].flatMap cF).toArray 43)) (.cells (([(500 : Int)] : List Int).flatMap cI).toArray 3))) hb
  have B2 := Lib.hid (bstep B1.out hb')
  replace R1 := Lib.hid (R1.out.on hb')
  clear hb hb'
  go_wp2_with fail
  refine (K3.out (some ⟨w2.heap.size, 0, none⟩) (some ⟨w2.heap.size + 1, 0, none⟩) _ ((lit_kinds w2 [fa] 43 (by simp)).on (below_alloc _ _)) (lit_ints (w2.alloc (.cells ([fa].flatMap cF).toArray 43)) ([(1500 : Int)] : List Int) 3 (by simp))).mono ?_
  rintro e w3 ⟨rfl, hb⟩
  have hb' := bstep (bstep (below_alloc w2 (.cells ([fa].flatMap cF).toArray 43)) (below_alloc (w2.alloc (.cells ([fa].flatMap cF).toArray 43)) (.cells (([(1500 : Int)] : List Int).flatMap cI).toArray 3))) hb
  have B3 := Lib.hid (bstep B2.out hb')
  replace R1 := Lib.hid (R1.out.on hb')
  clear hb hb'
  go_wp2_with fail
  refine (K4.out (some ⟨w3.heap.size, 0, none⟩) (some ⟨w3.heap.size + 1, 0, none⟩) _ ((lit_ints w3 ([(30 : Int), (70 : Int)] : List Int) 3 (by simp)).on (below_alloc _ _)) (lit_ints (w3.alloc (.cells (([(30 : Int), (70 : Int)] : List Int).flatMap cI).toArray 3)) ([(280 : Int), (720 : Int)] : List Int) 3 (by simp))).mono ?_
  rintro e w4 ⟨rfl, hb⟩
  have hb' := bstep (bstep (below_alloc w3 (.cells (([(30 : Int), (70 : Int)] : List Int).flatMap cI).toArray 3)) (below_alloc (w3.alloc (.cells (([(30 : Int), (70 : Int)] : List Int).flatMap cI).toArray 3)) (.cells (([(280 : Int), (720 : Int)] : List Int).flatMap cI).toArray 3))) hb
  have B4 := Lib.hid (bstep B3.out hb')
  replace R1 := Lib.hid (R1.out.on hb')
  clear hb hb'
  go_wp2_with fail
  refine (K5.out (some ⟨w4.heap.size, 0, none⟩) (some ⟨w4.heap.size + 1, 0, none⟩) _ ((lit_ints w4 ([(30 : Int), (70 : Int)] : List Int) 3 (by simp)).on (below_alloc _ _)) (lit_ints (w4.alloc (.cells (([(30 : Int), (70 : Int)] : List Int).flatMap cI).toArray 3)) ([(280 : Int), (720 : Int)] : List Int) 3 (by simp))).mono ?_
  rintro e w5 ⟨rfl, hb⟩
  have hb' := bstep (bstep (below_alloc w4 (.cells (([(30 : Int), (70 : Int)] : List Int).flatMap cI).toArray 3)) (below_alloc (w4.alloc (.cells (([(30 : Int), (70 : Int)] : List Int).flatMap cI).toArray 3)) (.cells (([(280 : Int), (720 : Int)] : List Int).flatMap cI).toArray 3))) hb
  have B5 := Lib.hid (bstep B4.out hb')
  replace R1 := Lib.hid (R1.out.on hb')
  clear hb hb'
  go_wp2_with fail
  refine (K6.out (some ⟨w5.heap.size, 0, none⟩) (some ⟨w5.heap.size + 1, 0, none⟩) _ ((lit_ints w5 ([(1 : Int), (2 : Int)] : List Int) 3 (by simp)).on (below_alloc _ _)) (lit_ints (w5.alloc (.cells (([(1 : Int), (2 : Int)] : List Int).flatMap cI).toArray 3)) ([(3 : Int), (4 : Int)] : List Int) 3 (by simp))).mono ?_
  rintro e w6 ⟨v, rfl, ho, hb⟩
  have hb' := bstep (bstep (below_alloc w5 (.cells (([(1 : Int), (2 : Int)] : List Int).flatMap cI).toArray 3)) (below_alloc (w5.alloc (.cells (([(1 : Int), (2 : Int)] : List Int).flatMap cI).toArray 3)) (.cells (([(3 : Int), (4 : Int)] : List Int).flatMap cI).toArray 3))) hb
  have B6 := Lib.hid (bstep B5.out hb')
  replace R1 := Lib.hid (R1.out.on hb')
  obtain ⟨A2, c2, rfl, -, hc2⟩ := ho.inS.open_
  have R2 := Lib.hid hc2
  clear ho hc2
  clear hb hb'
  go_wp2_with fail
  refine (rr_Same ([(3 : Int), (3 : Int), (4 : Int)] : List Int) ([(3 : Int), (3 : Int), (4 : Int)] : List Int) A1 _ c1 _ 3 3 rfl rfl _ (R1.out.on (below_alloc _ _)) (lit_ints w6 ([(3 : Int), (3 : Int), (4 : Int)] : List Int) 3 rfl) (by decide) (by decide)).mono ?_
  rintro e w7 ⟨rfl, hb⟩
  have hb' := bstep (below_alloc w6 (.cells (([(3 : Int), (3 : Int), (4 : Int)] : List Int).flatMap cI).toArray 3)) hb
  have B7 := Lib.hid (bstep B6.out hb')
  replace R1 := Lib.hid (R1.out.on hb')
  replace R2 := Lib.hid (R2.out.on hb')
  clear hb hb'
  rw [decide_eq_true (rfl : ([(3 : Int), (3 : Int), (4 : Int)] : List Int) = ([(3 : Int), (3 : Int), (4 : Int)] : List Int))]
  go_wp2_with fail
  refine (rr_Same ([(4 : Int), (6 : Int)] : List Int) ([(4 : Int), (6 : Int)] : List Int) A2 _ c2 _ 2 2 rfl rfl _ (R2.out.on (below_alloc _ _)) (lit_ints w7 ([(4 : Int), (6 : Int)] : List Int) 3 rfl) (by decide) (by decide)).mono ?_
  rintro e w8 ⟨rfl, hb⟩
  have hb' := bstep (below_alloc w7 (.cells (([(4 : Int), (6 : Int)] : List Int).flatMap cI).toArray 3)) hb
  have B8 := Lib.hid (bstep B7.out hb')
  replace R1 := Lib.hid (R1.out.on hb')
  replace R2 := Lib.hid (R2.out.on hb')
  clear hb hb'
  rw [decide_eq_true (rfl : ([(4 : Int), (6 : Int)] : List Int) = ([(4 : Int), (6 : Int)] : List Int))]
  go_wp2_with fail
  refine (K7.out w8).mono ?_
  rintro e w9 ⟨rfl, hb⟩
  have B9 := Lib.hid (bstep B8.out hb)
  replace R1 := Lib.hid (R1.out.on hb)
  replace R2 := Lib.hid (R2.out.on hb)
  clear hb
  go_wp2_with fail
  refine (K8.out (some ⟨w9.heap.size, 0, none⟩) _ (lit_ints w9 ([(500 : Int), (499 : Int)] : List Int) 3 (by simp))).mono ?_
  rintro e w10 ⟨rfl, hb⟩
  have hb' := bstep (below_alloc w9 (.cells (([(500 : Int), (499 : Int)] : List Int).flatMap cI).toArray 3)) hb
  have B10 := Lib.hid (bstep B9.out hb')
  replace R1 := Lib.hid (R1.out.on hb')
  replace R2 := Lib.hid (R2.out.on hb')
  clear hb hb'
  go_wp2_with fail
  refine (K9.out (some ⟨w10.heap.size, 0, none⟩) _ (lit_ints w10 ([(500 : Int), (499 : Int)] : List Int) 3 (by simp))).mono ?_
  rintro e w11 ⟨rfl, hb⟩
  have hb' := bstep (below_alloc w10 (.cells (([(500 : Int), (499 : Int)] : List Int).flatMap cI).toArray 3)) hb
  have B11 := Lib.hid (bstep B10.out hb')
  replace R1 := Lib.hid (R1.out.on hb')
  replace R2 := Lib.hid (R2.out.on hb')
  clear hb hb'
  go_wp2_with fail
  go_ret
  exact ⟨rfl, B11.out⟩
end Go.Proofs.Ytgomokdklajlcaa.Fibre
/- The laws that compare with the reference: Checks, Recipes, Divides, Adds, Costs, Nears. -/
namespace Go.Proofs.Ytgomokdklajlcaa.Fibre
open Go.ChangeShapes Go.WideShapes Go.RowKit Go.Lib
open Go.Proofs.Ytgomokdklajlcaa.Mem (Cl eI Own)
open Go.Proofs.Ytgomokdklajlcaa.Rw (Rd glt get_lt ret_bool ret_int bstep)
set_option linter.unusedVariables false
set_option maxRecDepth 100000

theorem in_cl {w : World} {A : Option Addr} {n c : Nat} {zs : List Int} (h : InInts .i64 w A n c zs) : Cl eI w A zs ∧ n = zs.length ∧ n ≤ 9223372036854775807 := by
  obtain ⟨h1, h2, h3, _, h4⟩ := h
  refine ⟨h4, h1, ?_⟩
  unfold maxLen at h3; omega
theorem law_great (A : Option Addr) (n c : Nat) (w : World) (hm : n ≤ 9223372036854775807) :
    Calls Try.prog 15 #[.slice A n c] w fun e w' => e = .returned (.bool (decide (60 < n))) ∧ Below w.heap.size w w' := by
  by_cases h : 60 < n
  · have h1 : decide ((60 : Int) < (n : Int)) = true := decide_eq_true (by omega)
    rw [decide_eq_true h]
    clear h
    go_enter Try.func15, Try.ntmps15
    go_wp2_with fail
    go_ret
    exact ⟨rfl, Below.refl _ _⟩
  · have h1 : decide ((60 : Int) < (n : Int)) = false := decide_eq_false (by omega)
    rw [decide_eq_false h]
    clear h
    go_enter Try.func15, Try.ntmps15
    go_wp2_with fail
    go_ret
    exact ⟨rfl, Below.refl _ _⟩
/-- Too many kinds, or a name that is too long. -/
def manB (L : List Fb) : Bool := decide (60 < L.length) || L.any fun f => decide (200 < f.1.size)
theorem manB_few {L : List Fb} (h : manB L = false) : L.length ≤ 60 := by
  unfold manB at h
  rw [Bool.or_eq_false_iff] at h
  have := of_decide_eq_false h.1
  omega
set_option maxHeartbeats 800000 in
theorem law_many (L : List Fb) (A : Option Addr) (n c : Nat) (hn : n = L.length) (w : World) (ha : Kds w A L) (hm : n ≤ 9223372036854775807) :
    Calls Try.prog 11 #[.slice A n c] w fun e w' => e = .returned (.bool (manB L)) ∧ Below w.heap.size w w' := by
  have HA := Lib.hid ha
  have HN := Lib.hid hn
  obtain ⟨M, hM⟩ : ∃ M, manB L = M := ⟨_, rfl⟩
  rw [hM]
  have HM := Lib.hid hM
  clear ha
  by_cases h : 60 < n
  · have h1 : decide ((60 : Int) < (n : Int)) = true := decide_eq_true (by omega)
    obtain rfl : M = true := by rw [← hM]; unfold manB; rw [decide_eq_true (by omega)]; rfl
    clear h hn hM
    go_enter Try.func11, Try.ntmps11
    go_wp2_with fail
    go_ret
    exact ⟨rfl, Below.refl _ _⟩
  have h1 : decide ((60 : Int) < (n : Int)) = false := decide_eq_false (by omega)
  have H0 := Lib.hid (show ¬ 60 < L.length by omega)
  clear h hn hM
  go_enter Try.func11, Try.ntmps11
  go_wp2_with fail
  go_loopw [3] (fun i wr => ∃ k : Nat, k ≤ n ∧ i = .int .i64 k ∧ (∀ (j : Nat) (f : Fb), j < k → L[j]? = some f → ¬ 200 < f.1.size) ∧ Below w.heap.size w wr) (fun i _ => n - (RowKit.intOf i).toNat)
  case atStart => exact ⟨0, Nat.zero_le _, rfl, fun j f h => absurd h (by omega), Below.refl _ _⟩
  case round =>
    obtain ⟨k, hk, rfl, hv, hbel⟩ := hrel
    have HV := Lib.hid hv
    have HB := Lib.hid hbel
    clear hv hbel
    rcases Nat.lt_or_ge k n with hlt | hge
    · obtain ⟨f, hf⟩ := get_lt (L := L) (k := k) (by have := HN.out; omega)
      obtain ⟨b, off, rfl, hb, c0, -⟩ := kd_at (HA.out.on HB.out) hf
      have HF := Lib.hid hf
      have i1 : (k : Int) < (n : Int) := by omega
      have i2 : (0 : Int) ≤ (k : Int) := by omega
      obtain ⟨s, hs⟩ : ∃ s, f.1 = s := ⟨_, rfl⟩
      rw [hs] at c0
      have HS := Lib.hid hs
      clear hf hs
      by_cases hg : 200 < s.size
      · have t0 : decide ((200 : Int) < (s.size : Int)) = true := decide_eq_true (by omega)
        obtain rfl : M = true := by
          rw [← HM.out]; unfold manB
          rw [List.any_eq_true.mpr ⟨f, List.mem_of_getElem? HF.out, decide_eq_true (by rw [HS.out]; exact hg)⟩, Bool.or_true]
        clear hg
        go_wp2_with fail
        go_ret
        exact ⟨rfl, HB.out⟩
      · have t0 : decide ((200 : Int) < (s.size : Int)) = false := decide_eq_false (by omega)
        have HG := Lib.hid hg
        clear hg
        go_wp2_with fail
        go_roundw
        case rel =>
          refine ⟨k + 1, by omega, by go_num, ?_, HB.out⟩
          intro j g hj hg
          rcases Nat.lt_or_eq_of_le (Nat.le_of_lt_succ hj) with h | h
          · exact HV.out j g h hg
          · subst h
            have e := HF.out
            rw [hg] at e; cases e; rw [HS.out]; exact HG.out
        case measure => simp [RowKit.intOf]; omega
    · obtain rfl : k = n := by omega
      obtain rfl : M = false := by
        rw [← HM.out]; unfold manB
        rw [decide_eq_false H0.out, Bool.false_or]
        refine List.any_eq_false.mpr fun f hf => ?_
        obtain ⟨j, hj⟩ := List.mem_iff_getElem?.mp hf
        have := HV.out j f (by rw [HN.out]; exact glt hj) hj
        simpa using this
      go_wp2_with fail
      go_ret
      exact ⟨rfl, HB.out⟩

set_option maxHeartbeats 6400000 in
theorem walk_FibreChecks (w : World) (A : Option Addr) (c : Nat) (L : List Fb) (ha : Kds w A L) (hz : Sz L) (hcap : L.length ≤ c) (hm : L.length ≤ 9223372036854775807) :
    Calls Try.prog 3 #[.slice A L.length c] w fun e w' => e = .returned (.bool true) ∧ Below w.heap.size w w' := by
  have HA := Lib.hid ha
  have HZ := Lib.hid hz
  obtain ⟨n, hn⟩ : ∃ n, n = L.length := ⟨_, rfl⟩
  rw [← hn] at hm ⊢
  have Hn := Lib.hid hn
  have Mn := Lib.hid hm
  clear ha hz hcap hn hm
  have KM := Lib.hid fun (W : World) (h : Kds W A L) => law_many L A n c Hn.out W h Mn.out
  obtain ⟨p, hp⟩ : ∃ p, manB L = p := ⟨_, rfl⟩
  rw [hp] at KM
  cases p with
  | true =>
    clear hp
    go_enter Try.func3, Try.ntmps3
    go_wp2_with fail
    refine (KM.out w HA.out).mono ?_
    rintro e w1_ ⟨rfl, hb⟩
    have B1 := Lib.hid hb
    replace HA := Lib.hid (HA.out.on hb)
    clear hb
    go_wp2_with fail
    refine (law_awake w1_).mono ?_
    rintro e w2_ ⟨rfl, hb⟩
    have B2 := Lib.hid (bstep B1.out hb)
    replace HA := Lib.hid (HA.out.on hb)
    clear hb
    go_wp2_with fail
    go_ret
    exact ⟨rfl, B2.out⟩
  | false =>
    have hfew := manB_few hp
    rw [← Hn.out] at hfew
    clear hp
    have K1 := Lib.hid fun (W : World) (h : Kds W A L) => fibre_Check L A n c Hn.out W h HZ.out (by omega)
    have K2 := Lib.hid fun (W : World) (h : Kds W A L) => rr_Check L A n c Hn.out W h HZ.out Mn.out
    obtain ⟨E, hE⟩ : ∃ E, chkE L = E := ⟨_, rfl⟩
    rw [hE] at K1 K2
    clear hE
    go_enter Try.func3, Try.ntmps3
    go_wp2_with fail
    refine (KM.out w HA.out).mono ?_
    rintro e w1_ ⟨rfl, hb⟩
    have B1 := Lib.hid hb
    replace HA := Lib.hid (HA.out.on hb)
    clear hb
    go_wp2_with fail
    refine (K1.out w1_ HA.out).mono ?_
    rintro e w2_ ⟨rfl, hb⟩
    have B2 := Lib.hid (bstep B1.out hb)
    replace HA := Lib.hid (HA.out.on hb)
    clear hb
    go_wp2_with fail
    refine (K2.out w2_ HA.out).mono ?_
    rintro e w3_ ⟨rfl, hb⟩
    have B3 := Lib.hid (bstep B2.out hb)
    replace HA := Lib.hid (HA.out.on hb)
    clear hb
    go_wp2_with fail
    refine (law_awake w3_).mono ?_
    rintro e w4_ ⟨rfl, hb⟩
    have B4 := Lib.hid (bstep B3.out hb)
    replace HA := Lib.hid (HA.out.on hb)
    clear hb
    go_wp2_with fail
    go_ret
    exact ⟨rfl, B4.out⟩

set_option maxHeartbeats 6400000 in
theorem walk_FibreRecipes (w : World) (A : Option Addr) (n c : Nat) (L : List Int) (h : InInts .i64 w A n c L) (kinds : Int) :
    Calls Try.prog 4 #[.slice A n c, .int .i64 kinds] w fun e w' => e = .returned (.bool true) ∧ Below w.heap.size w w' := by
  obtain ⟨hcl, hn, hm⟩ := in_cl h
  have HL := Lib.hid hcl
  have Hn := Lib.hid hn
  have Mn := Lib.hid hm
  clear hcl hn h
  clear hm
  have KGn := Lib.hid fun W => law_great A n c W Mn.out
  by_cases hgn : 60 < n
  · rw [decide_eq_true hgn] at KGn
    clear hgn
    go_enter Try.func4, Try.ntmps4
    go_wp2_with fail
    refine (KGn.out w).mono ?_
    rintro e w1_ ⟨rfl, hb⟩
    have B1 := Lib.hid hb
    replace HL := Lib.hid (HL.out.on hb)
    clear hb
    go_wp2_with fail
    refine (law_awake w1_).mono ?_
    rintro e w2_ ⟨rfl, hb⟩
    have B2 := Lib.hid (bstep B1.out hb)
    replace HL := Lib.hid (HL.out.on hb)
    clear hb
    go_wp2_with fail
    go_ret
    exact ⟨rfl, B2.out⟩
  rw [decide_eq_false hgn] at KGn
  have K1 := Lib.hid fun (W : World) (h : Cl eI W A L) => fibre_Recipe L A n c Hn.out kinds W h (by omega)
  have K2 := Lib.hid fun (W : World) (h : Cl eI W A L) => rr_Recipe L A n c Hn.out kinds W h Mn.out
  have K3 := Lib.hid fun (W : World) (h : Cl eI W A L) => fibre_Parts L A n c Hn.out kinds W h (by omega)
  have K4 := Lib.hid fun (W : World) (h : Cl eI W A L) => rr_Parts L A n c Hn.out kinds W h Mn.out
  obtain ⟨E, hE⟩ : ∃ E, recE L kinds = E := ⟨_, rfl⟩
  obtain ⟨F, hF⟩ : ∃ F, parE L kinds = F := ⟨_, rfl⟩
  rw [hE] at K1 K2
  rw [hF] at K3 K4
  clear hE hF hgn
  go_enter Try.func4, Try.ntmps4
  go_wp2_with fail
  refine (KGn.out w).mono ?_
  rintro e w1_ ⟨rfl, hb⟩
  have B1 := Lib.hid hb
  replace HL := Lib.hid (HL.out.on hb)
  clear hb
  go_wp2_with fail
  refine (K1.out w1_ HL.out).mono ?_
  rintro e w2_ ⟨rfl, hb⟩
  have B2 := Lib.hid (bstep B1.out hb)
  replace HL := Lib.hid (HL.out.on hb)
  clear hb
  go_wp2_with fail
  refine (K2.out w2_ HL.out).mono ?_
  rintro e w3_ ⟨rfl, hb⟩
  have B3 := Lib.hid (bstep B2.out hb)
  replace HL := Lib.hid (HL.out.on hb)
  clear hb
  go_wp2_with fail
  refine (K3.out w3_ HL.out).mono ?_
  rintro e w4_ ⟨rfl, hb⟩
  have B4 := Lib.hid (bstep B3.out hb)
  replace HL := Lib.hid (HL.out.on hb)
  clear hb
  go_wp2_with fail
  refine (K4.out w4_ HL.out).mono ?_
  rintro e w5_ ⟨rfl, hb⟩
  have B5 := Lib.hid (bstep B4.out hb)
  replace HL := Lib.hid (HL.out.on hb)
  clear hb
  go_wp2_with fail
  refine (law_awake w5_).mono ?_
  rintro e w6_ ⟨rfl, hb⟩
  have B6 := Lib.hid (bstep B5.out hb)
  replace HL := Lib.hid (HL.out.on hb)
  clear hb
  go_wp2_with fail
  go_ret
  exact ⟨rfl, B6.out⟩

set_option maxHeartbeats 6400000 in
theorem walk_FibreDivides (w : World) (A : Option Addr) (n c : Nat) (L : List Int) (h : InInts .i64 w A n c L) (mass : Int) :
    Calls Try.prog 5 #[.slice A n c, .int .i64 mass] w fun e w' => e = .returned (.bool true) ∧ Below w.heap.size w w' := by
  obtain ⟨hcl, hn, hm⟩ := in_cl h
  have HL := Lib.hid hcl
  have Hn := Lib.hid hn
  have Mn := Lib.hid hm
  clear hcl hn h
  clear hm
  have KGn := Lib.hid fun W => law_great A n c W Mn.out
  by_cases hgn : 60 < n
  · rw [decide_eq_true hgn] at KGn
    clear hgn
    go_enter Try.func5, Try.ntmps5
    go_wp2_with fail
    refine (KGn.out w).mono ?_
    rintro e w1_ ⟨rfl, hb⟩
    have B1 := Lib.hid hb
    replace HL := Lib.hid (HL.out.on hb)
    clear hb
    go_wp2_with fail
    refine (law_awake w1_).mono ?_
    rintro e w2_ ⟨rfl, hb⟩
    have B2 := Lib.hid (bstep B1.out hb)
    replace HL := Lib.hid (HL.out.on hb)
    clear hb
    go_wp2_with fail
    go_ret
    exact ⟨rfl, B2.out⟩
  rw [decide_eq_false hgn] at KGn
  have K1 := Lib.hid fun (W : World) (h : Cl eI W A L) => fibre_Masses L A n c Hn.out mass W h (by omega)
  have K2 := Lib.hid fun (W : World) (h : Cl eI W A L) => rr_Masses L A n c Hn.out mass W h Mn.out
  have K3 := Lib.hid fun (W : World) (h : Cl eI W A L) => fibre_Total L A n c Hn.out W h (by omega)
  have K4 := Lib.hid fun (W : World) (h : Cl eI W A L) => rr_Total L A n c Hn.out W h Mn.out
  obtain ⟨E, hE⟩ : ∃ E, masE L mass = E := ⟨_, rfl⟩
  obtain ⟨T, hT⟩ : ∃ T, masL L mass = T := ⟨_, rfl⟩
  obtain ⟨F, hF⟩ : ∃ F, totE L = F := ⟨_, rfl⟩
  obtain ⟨V, hV⟩ : ∃ V, totV L = V := ⟨_, rfl⟩
  rw [hE, hT] at K1 K2
  rw [hF, hV] at K3 K4
  clear hE hF hT hV hgn
  obtain ⟨t, ht⟩ : ∃ t, t = T.length := ⟨_, rfl⟩
  have Ht := Lib.hid ht
  clear ht
  go_enter Try.func5, Try.ntmps5
  go_wp2_with fail
  refine (KGn.out w).mono ?_
  rintro e w1_ ⟨rfl, hb⟩
  have B1 := Lib.hid hb
  replace HL := Lib.hid (HL.out.on hb)
  clear hb
  go_wp2_with fail
  refine (K1.out w1_ HL.out).mono ?_
  rintro e w2_ ⟨v1, rfl, ho, hb⟩
  have B2 := Lib.hid (bstep B1.out hb)
  replace HL := Lib.hid (HL.out.on hb)
  obtain ⟨A1, c1, rfl, hl1, hc1⟩ := ho.inS.open_
  have R1 := Lib.hid hc1
  rw [← Ht.out] at hl1 ⊢
  clear ho hc1
  clear hb
  go_wp2_with fail
  refine (K2.out w2_ HL.out).mono ?_
  rintro e w3_ ⟨v2, rfl, ho, hb⟩
  have B3 := Lib.hid (bstep B2.out hb)
  replace HL := Lib.hid (HL.out.on hb)
  replace R1 := Lib.hid (R1.out.on hb)
  obtain ⟨A2, c2, rfl, hl2, hc2⟩ := ho.inS.open_
  have R2 := Lib.hid hc2
  rw [← Ht.out] at hl2 ⊢
  clear ho hc2
  clear hb
  go_wp2_with fail
  refine (K3.out w3_ HL.out).mono ?_
  rintro e w4_ ⟨rfl, hb⟩
  have B4 := Lib.hid (bstep B3.out hb)
  replace HL := Lib.hid (HL.out.on hb)
  replace R1 := Lib.hid (R1.out.on hb)
  replace R2 := Lib.hid (R2.out.on hb)
  clear hb
  go_wp2_with fail
  refine (K4.out w4_ HL.out).mono ?_
  rintro e w5_ ⟨rfl, hb⟩
  have B5 := Lib.hid (bstep B4.out hb)
  replace HL := Lib.hid (HL.out.on hb)
  replace R1 := Lib.hid (R1.out.on hb)
  replace R2 := Lib.hid (R2.out.on hb)
  clear hb
  go_wp2_with fail
  refine (rr_Same T T A1 A2 c1 c2 t t Ht.out Ht.out w5_ R1.out R2.out hl1 hl2).mono ?_
  rintro e w6_ ⟨rfl, hb⟩
  have B6 := Lib.hid (bstep B5.out hb)
  replace HL := Lib.hid (HL.out.on hb)
  replace R1 := Lib.hid (R1.out.on hb)
  replace R2 := Lib.hid (R2.out.on hb)
  rw [decide_eq_true (rfl : T = T)]
  clear hb
  go_wp2_with fail
  refine (law_awake w6_).mono ?_
  rintro e w7_ ⟨rfl, hb⟩
  have B7 := Lib.hid (bstep B6.out hb)
  replace HL := Lib.hid (HL.out.on hb)
  replace R1 := Lib.hid (R1.out.on hb)
  replace R2 := Lib.hid (R2.out.on hb)
  clear hb
  go_wp2_with fail
  go_ret
  exact ⟨rfl, B7.out⟩

set_option maxHeartbeats 6400000 in
theorem walk_FibreAdds (w : World) (A : Option Addr) (n c : Nat) (L : List Int) (h : InInts .i64 w A n c L) (B : Option Addr) (m d : Nat) (M : List Int) (k : InInts .i64 w B m d M) :
    Calls Try.prog 6 #[.slice A n c, .slice B m d] w fun e w' => e = .returned (.bool true) ∧ Below w.heap.size w w' := by
  obtain ⟨hcl, hn, hm⟩ := in_cl h
  have HL := Lib.hid hcl
  have Hn := Lib.hid hn
  have Mn := Lib.hid hm
  clear hcl hn h
  clear hm
  obtain ⟨hcl, hn, hm⟩ := in_cl k
  have HK := Lib.hid hcl
  have Hm := Lib.hid hn
  have Mm := Lib.hid hm
  clear hcl hn k
  clear hm
  have KGn := Lib.hid fun W => law_great A n c W Mn.out
  have KGm := Lib.hid fun W => law_great B m d W Mm.out
  by_cases hgn : 60 < n
  · rw [decide_eq_true hgn] at KGn
    clear hgn
    go_enter Try.func6, Try.ntmps6
    go_wp2_with fail
    refine (KGn.out w).mono ?_
    rintro e w1_ ⟨rfl, hb⟩
    have B1 := Lib.hid hb
    replace HL := Lib.hid (HL.out.on hb)
    replace HK := Lib.hid (HK.out.on hb)
    clear hb
    go_wp2_with fail
    refine (law_awake w1_).mono ?_
    rintro e w2_ ⟨rfl, hb⟩
    have B2 := Lib.hid (bstep B1.out hb)
    replace HL := Lib.hid (HL.out.on hb)
    replace HK := Lib.hid (HK.out.on hb)
    clear hb
    go_wp2_with fail
    go_ret
    exact ⟨rfl, B2.out⟩
  rw [decide_eq_false hgn] at KGn
  by_cases hgm : 60 < m
  · rw [decide_eq_true hgm] at KGm
    clear hgm hgn
    go_enter Try.func6, Try.ntmps6
    go_wp2_with fail
    refine (KGn.out w).mono ?_
    rintro e w1_ ⟨rfl, hb⟩
    have B1 := Lib.hid hb
    replace HL := Lib.hid (HL.out.on hb)
    replace HK := Lib.hid (HK.out.on hb)
    clear hb
    go_wp2_with fail
    refine (KGm.out w1_).mono ?_
    rintro e w2_ ⟨rfl, hb⟩
    have B2 := Lib.hid (bstep B1.out hb)
    replace HL := Lib.hid (HL.out.on hb)
    replace HK := Lib.hid (HK.out.on hb)
    clear hb
    go_wp2_with fail
    refine (law_awake w2_).mono ?_
    rintro e w3_ ⟨rfl, hb⟩
    have B3 := Lib.hid (bstep B2.out hb)
    replace HL := Lib.hid (HL.out.on hb)
    replace HK := Lib.hid (HK.out.on hb)
    clear hb
    go_wp2_with fail
    go_ret
    exact ⟨rfl, B3.out⟩
  rw [decide_eq_false hgm] at KGm
  have K1 := Lib.hid fun (W : World) (h : Cl eI W A L) (k : Cl eI W B M) => fibre_Add L M A B n m c d Hn.out Hm.out W h k (by omega) (by omega)
  have K2 := Lib.hid fun (W : World) (h : Cl eI W A L) (k : Cl eI W B M) => rr_Add L M A B n m c d Hn.out Hm.out W h k Mn.out Mm.out
  obtain ⟨E, hE⟩ : ∃ E, addE L M = E := ⟨_, rfl⟩
  obtain ⟨T, hT⟩ : ∃ T, addL L M = T := ⟨_, rfl⟩
  rw [hE, hT] at K1 K2
  clear hE hT hgn hgm
  obtain ⟨t, ht⟩ : ∃ t, t = T.length := ⟨_, rfl⟩
  have Ht := Lib.hid ht
  clear ht
  go_enter Try.func6, Try.ntmps6
  go_wp2_with fail
  refine (KGn.out w).mono ?_
  rintro e w1_ ⟨rfl, hb⟩
  have B1 := Lib.hid hb
  replace HL := Lib.hid (HL.out.on hb)
  replace HK := Lib.hid (HK.out.on hb)
  clear hb
  go_wp2_with fail
  refine (KGm.out w1_).mono ?_
  rintro e w2_ ⟨rfl, hb⟩
  have B2 := Lib.hid (bstep B1.out hb)
  replace HL := Lib.hid (HL.out.on hb)
  replace HK := Lib.hid (HK.out.on hb)
  clear hb
  go_wp2_with fail
  refine (K1.out w2_ HL.out HK.out).mono ?_
  rintro e w3_ ⟨v1, rfl, ho, hb⟩
  have B3 := Lib.hid (bstep B2.out hb)
  replace HL := Lib.hid (HL.out.on hb)
  replace HK := Lib.hid (HK.out.on hb)
  obtain ⟨A1, c1, rfl, hl1, hc1⟩ := ho.inS.open_
  have R1 := Lib.hid hc1
  rw [← Ht.out] at hl1 ⊢
  clear ho hc1
  clear hb
  go_wp2_with fail
  refine (K2.out w3_ HL.out HK.out).mono ?_
  rintro e w4_ ⟨v2, rfl, ho, hb⟩
  have B4 := Lib.hid (bstep B3.out hb)
  replace HL := Lib.hid (HL.out.on hb)
  replace HK := Lib.hid (HK.out.on hb)
  replace R1 := Lib.hid (R1.out.on hb)
  obtain ⟨A2, c2, rfl, hl2, hc2⟩ := ho.inS.open_
  have R2 := Lib.hid hc2
  rw [← Ht.out] at hl2 ⊢
  clear ho hc2
  clear hb
  go_wp2_with fail
  refine (rr_Same T T A1 A2 c1 c2 t t Ht.out Ht.out w4_ R1.out R2.out hl1 hl2).mono ?_
  rintro e w5_ ⟨rfl, hb⟩
  have B5 := Lib.hid (bstep B4.out hb)
  replace HL := Lib.hid (HL.out.on hb)
  replace HK := Lib.hid (HK.out.on hb)
  replace R1 := Lib.hid (R1.out.on hb)
  replace R2 := Lib.hid (R2.out.on hb)
  rw [decide_eq_true (rfl : T = T)]
  clear hb
  go_wp2_with fail
  refine (law_awake w5_).mono ?_
  rintro e w6_ ⟨rfl, hb⟩
  have B6 := Lib.hid (bstep B5.out hb)
  replace HL := Lib.hid (HL.out.on hb)
  replace HK := Lib.hid (HK.out.on hb)
  replace R1 := Lib.hid (R1.out.on hb)
  replace R2 := Lib.hid (R2.out.on hb)
  clear hb
  go_wp2_with fail
  go_ret
  exact ⟨rfl, B6.out⟩

set_option maxHeartbeats 6400000 in
theorem walk_FibreCosts (w : World) (A : Option Addr) (c : Nat) (L : List Fb) (ha : Kds w A L) (hz : Sz L) (hcap : L.length ≤ c) (hm : L.length ≤ 9223372036854775807) (B : Option Addr) (m d : Nat) (M : List Int) (k : InInts .i64 w B m d M) :
    Calls Try.prog 7 #[.slice A L.length c, .slice B m d] w fun e w' => e = .returned (.bool true) ∧ Below w.heap.size w w' := by
  obtain ⟨hcl, hn, hm⟩ := in_cl k
  have HK := Lib.hid hcl
  have Hm := Lib.hid hn
  have Mm := Lib.hid hm
  clear hcl hn k
  clear hm
  have HA := Lib.hid ha
  have HZ := Lib.hid hz
  obtain ⟨n, hn⟩ : ∃ n, n = L.length := ⟨_, rfl⟩
  rw [← hn] at hm ⊢
  have Hn := Lib.hid hn
  have Mn := Lib.hid hm
  clear ha hz hcap hn hm
  have KM := Lib.hid fun (W : World) (h : Kds W A L) => law_many L A n c Hn.out W h Mn.out
  obtain ⟨p, hp⟩ : ∃ p, manB L = p := ⟨_, rfl⟩
  rw [hp] at KM
  cases p with
  | true =>
    clear hp
    go_enter Try.func7, Try.ntmps7
    go_wp2_with fail
    refine (KM.out w HA.out).mono ?_
    rintro e w1_ ⟨rfl, hb⟩
    have B1 := Lib.hid hb
    replace HA := Lib.hid (HA.out.on hb)
    replace HK := Lib.hid (HK.out.on hb)
    clear hb
    go_wp2_with fail
    refine (law_awake w1_).mono ?_
    rintro e w2_ ⟨rfl, hb⟩
    have B2 := Lib.hid (bstep B1.out hb)
    replace HA := Lib.hid (HA.out.on hb)
    replace HK := Lib.hid (HK.out.on hb)
    clear hb
    go_wp2_with fail
    go_ret
    exact ⟨rfl, B2.out⟩
  | false =>
    have hfew := manB_few hp
    rw [← Hn.out] at hfew
    clear hp
    have KGm := Lib.hid fun W => law_great B m d W Mm.out
    by_cases hgm : 60 < m
    · rw [decide_eq_true hgm] at KGm
      clear hgm
      go_enter Try.func7, Try.ntmps7
      go_wp2_with fail
      refine (KM.out w HA.out).mono ?_
      rintro e w1_ ⟨rfl, hb⟩
      have B1 := Lib.hid hb
      replace HA := Lib.hid (HA.out.on hb)
      replace HK := Lib.hid (HK.out.on hb)
      clear hb
      go_wp2_with fail
      refine (KGm.out w1_).mono ?_
      rintro e w2_ ⟨rfl, hb⟩
      have B2 := Lib.hid (bstep B1.out hb)
      replace HA := Lib.hid (HA.out.on hb)
      replace HK := Lib.hid (HK.out.on hb)
      clear hb
      go_wp2_with fail
      refine (law_awake w2_).mono ?_
      rintro e w3_ ⟨rfl, hb⟩
      have B3 := Lib.hid (bstep B2.out hb)
      replace HA := Lib.hid (HA.out.on hb)
      replace HK := Lib.hid (HK.out.on hb)
      clear hb
      go_wp2_with fail
      go_ret
      exact ⟨rfl, B3.out⟩
    rw [decide_eq_false hgm] at KGm
    have K1 := Lib.hid fun (W : World) (h : Kds W A L) (k : Cl eI W B M) => fibre_Cost L M A B n m c d Hn.out Hm.out W h HZ.out k (by omega) (by omega)
    have K2 := Lib.hid fun (W : World) (h : Kds W A L) (k : Cl eI W B M) => rr_Cost L M A B n m c d Hn.out Hm.out W h HZ.out k Mn.out Mm.out
    obtain ⟨E, hE⟩ : ∃ E, cosE mdC L M = E := ⟨_, rfl⟩
    obtain ⟨V, hV⟩ : ∃ V, cosV mdC L M = V := ⟨_, rfl⟩
    rw [hE, hV] at K1 K2
    clear hE hV hgm hfew
    go_enter Try.func7, Try.ntmps7
    go_wp2_with fail
    refine (KM.out w HA.out).mono ?_
    rintro e w1_ ⟨rfl, hb⟩
    have B1 := Lib.hid hb
    replace HA := Lib.hid (HA.out.on hb)
    replace HK := Lib.hid (HK.out.on hb)
    clear hb
    go_wp2_with fail
    refine (KGm.out w1_).mono ?_
    rintro e w2_ ⟨rfl, hb⟩
    have B2 := Lib.hid (bstep B1.out hb)
    replace HA := Lib.hid (HA.out.on hb)
    replace HK := Lib.hid (HK.out.on hb)
    clear hb
    go_wp2_with fail
    refine (K1.out w2_ HA.out HK.out).mono ?_
    rintro e w3_ ⟨rfl, hb⟩
    have B3 := Lib.hid (bstep B2.out hb)
    replace HA := Lib.hid (HA.out.on hb)
    replace HK := Lib.hid (HK.out.on hb)
    clear hb
    go_wp2_with fail
    refine (K2.out w3_ HA.out HK.out).mono ?_
    rintro e w4_ ⟨rfl, hb⟩
    have B4 := Lib.hid (bstep B3.out hb)
    replace HA := Lib.hid (HA.out.on hb)
    replace HK := Lib.hid (HK.out.on hb)
    clear hb
    go_wp2_with fail
    refine (law_awake w4_).mono ?_
    rintro e w5_ ⟨rfl, hb⟩
    have B5 := Lib.hid (bstep B4.out hb)
    replace HA := Lib.hid (HA.out.on hb)
    replace HK := Lib.hid (HK.out.on hb)
    clear hb
    go_wp2_with fail
    go_ret
    exact ⟨rfl, B5.out⟩

set_option maxHeartbeats 6400000 in
theorem walk_FibreNears (w : World) (A : Option Addr) (n c : Nat) (L : List Int) (h : InInts .i64 w A n c L) (B : Option Addr) (m d : Nat) (M : List Int) (k : InInts .i64 w B m d M) (tol : Int) :
    Calls Try.prog 8 #[.slice A n c, .slice B m d, .int .i64 tol] w fun e w' => e = .returned (.bool true) ∧ Below w.heap.size w w' := by
  obtain ⟨hcl, hn, hm⟩ := in_cl h
  have HL := Lib.hid hcl
  have Hn := Lib.hid hn
  have Mn := Lib.hid hm
  clear hcl hn h
  clear hm
  obtain ⟨hcl, hn, hm⟩ := in_cl k
  have HK := Lib.hid hcl
  have Hm := Lib.hid hn
  have Mm := Lib.hid hm
  clear hcl hn k
  clear hm
  have KGn := Lib.hid fun W => law_great A n c W Mn.out
  have KGm := Lib.hid fun W => law_great B m d W Mm.out
  by_cases hgn : 60 < n
  · rw [decide_eq_true hgn] at KGn
    clear hgn
    go_enter Try.func8, Try.ntmps8
    go_wp2_with fail
    refine (KGn.out w).mono ?_
    rintro e w1_ ⟨rfl, hb⟩
    have B1 := Lib.hid hb
    replace HL := Lib.hid (HL.out.on hb)
    replace HK := Lib.hid (HK.out.on hb)
    clear hb
    go_wp2_with fail
    refine (law_awake w1_).mono ?_
    rintro e w2_ ⟨rfl, hb⟩
    have B2 := Lib.hid (bstep B1.out hb)
    replace HL := Lib.hid (HL.out.on hb)
    replace HK := Lib.hid (HK.out.on hb)
    clear hb
    go_wp2_with fail
    go_ret
    exact ⟨rfl, B2.out⟩
  rw [decide_eq_false hgn] at KGn
  by_cases hgm : 60 < m
  · rw [decide_eq_true hgm] at KGm
    clear hgm hgn
    go_enter Try.func8, Try.ntmps8
    go_wp2_with fail
    refine (KGn.out w).mono ?_
    rintro e w1_ ⟨rfl, hb⟩
    have B1 := Lib.hid hb
    replace HL := Lib.hid (HL.out.on hb)
    replace HK := Lib.hid (HK.out.on hb)
    clear hb
    go_wp2_with fail
    refine (KGm.out w1_).mono ?_
    rintro e w2_ ⟨rfl, hb⟩
    have B2 := Lib.hid (bstep B1.out hb)
    replace HL := Lib.hid (HL.out.on hb)
    replace HK := Lib.hid (HK.out.on hb)
    clear hb
    go_wp2_with fail
    refine (law_awake w2_).mono ?_
    rintro e w3_ ⟨rfl, hb⟩
    have B3 := Lib.hid (bstep B2.out hb)
    replace HL := Lib.hid (HL.out.on hb)
    replace HK := Lib.hid (HK.out.on hb)
    clear hb
    go_wp2_with fail
    go_ret
    exact ⟨rfl, B3.out⟩
  rw [decide_eq_false hgm] at KGm
  have K1 := Lib.hid fun (W : World) (h : Cl eI W A L) (k : Cl eI W B M) => fibre_Near L M A B n m c d Hn.out Hm.out tol W h k (by omega) (by omega)
  have K2 := Lib.hid fun (W : World) (h : Cl eI W A L) (k : Cl eI W B M) => rr_Near L M A B n m c d Hn.out Hm.out tol W h k Mn.out Mm.out
  obtain ⟨E, hE⟩ : ∃ E, neaE L M tol = E := ⟨_, rfl⟩
  obtain ⟨V, hV⟩ : ∃ V, neaV L M tol = V := ⟨_, rfl⟩
  rw [hE, hV] at K1 K2
  clear hE hV hgn hgm
  go_enter Try.func8, Try.ntmps8
  go_wp2_with fail
  refine (KGn.out w).mono ?_
  rintro e w1_ ⟨rfl, hb⟩
  have B1 := Lib.hid hb
  replace HL := Lib.hid (HL.out.on hb)
  replace HK := Lib.hid (HK.out.on hb)
  clear hb
  go_wp2_with fail
  refine (KGm.out w1_).mono ?_
  rintro e w2_ ⟨rfl, hb⟩
  have B2 := Lib.hid (bstep B1.out hb)
  replace HL := Lib.hid (HL.out.on hb)
  replace HK := Lib.hid (HK.out.on hb)
  clear hb
  go_wp2_with fail
  refine (K1.out w2_ HL.out HK.out).mono ?_
  rintro e w3_ ⟨rfl, hb⟩
  have B3 := Lib.hid (bstep B2.out hb)
  replace HL := Lib.hid (HL.out.on hb)
  replace HK := Lib.hid (HK.out.on hb)
  clear hb
  go_wp2_with fail
  refine (K2.out w3_ HL.out HK.out).mono ?_
  rintro e w4_ ⟨rfl, hb⟩
  have B4 := Lib.hid (bstep B3.out hb)
  replace HL := Lib.hid (HL.out.on hb)
  replace HK := Lib.hid (HK.out.on hb)
  clear hb
  go_wp2_with fail
  refine (law_awake w4_).mono ?_
  rintro e w5_ ⟨rfl, hb⟩
  have B5 := Lib.hid (bstep B4.out hb)
  replace HL := Lib.hid (HL.out.on hb)
  replace HK := Lib.hid (HK.out.on hb)
  clear hb
  go_wp2_with fail
  go_ret
  exact ⟨rfl, B5.out⟩
end Go.Proofs.Ytgomokdklajlcaa.Fibre
