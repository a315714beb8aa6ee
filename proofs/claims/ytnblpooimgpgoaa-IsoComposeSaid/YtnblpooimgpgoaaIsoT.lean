/- place, At, Same of the reference. -/
import Derived.Test.YtnblpooimgpgoaaIsoO
namespace Go.Proofs.Ytnblpooimgpgoaa.Iso
open Go.ChangeShapes Go.WideShapes Go.RowKit Go.Lib Go.Proofs.Ytnblpooimgpgoaa.Rw
set_option linter.unusedVariables false
set_option maxRecDepth 100000

/-- Where an integer lies. -/
def Plc (L : List Rn) (x : Int) (e : Ending) : Prop :=
  ((x < 0 ∨ lenM L ≤ x) ∧ e = .returned (.tuple #[.int .i64 (-1), .int .i64 0])) ∨
  (∃ (i : Nat) (r : Rn) (k : Int), L[i]? = some r ∧ lenM (L.take i) ≤ x ∧ x < lenM (L.take i) + r.2.1 ∧ k = x - lenM (L.take i) ∧ e = .returned (.tuple #[.int .i64 (i : Int), .int .i64 k]))
set_option maxHeartbeats 800000 in
theorem ref_place (L : List Rn) (A : Option Addr) (c : Nat) (x : Int) (w : World) (ha : Rns w A L) (hg : ∀ r ∈ L, gd r = true) (hm : L.length ≤ 600) (hx : -9223372036854775808 ≤ x ∧ x ≤ 9223372036854775807) :
    Calls Try.prog 49 #[.slice A L.length c, .int .i64 x] w fun e w' => Plc L x e ∧ Below w.heap.size w w' := by
  have HA := Lib.hid ha
  have HG := Lib.hid hg
  have HX := Lib.hid hx
  have HLim := Lib.hid (lenM_lim (fun r hr => gd_lim (hg r hr)) hm)
  clear ha hg hx
  go_enter Try.func49, Try.ntmps49
  go_wp2_with fail
  go_loopw [6, 1] (fun i v wr => ∃ (k : Nat) (y : Int), k ≤ L.length ∧ i = .int .i64 k ∧ v = .int .i64 y ∧ y = x - lenM (L.take k) ∧ (x < 0 → k = 0) ∧ (0 ≤ x → 0 ≤ y) ∧ Below w.heap.size w wr) (fun i v _ => L.length - (intOf i).toNat)
  case atStart => exact ⟨0, x, Nat.zero_le _, rfl, rfl, by simp [lenM], fun _ => rfl, fun h => h, Below.refl _ _⟩
  case round =>
    obtain ⟨k, y, hk, rfl, rfl, hy, hn, hp, hbel⟩ := hrel
    have HY := Lib.hid hy
    have HN := Lib.hid hn
    have HP := Lib.hid hp
    have HB := Lib.hid hbel
    clear hy hn hp hbel
    rcases Nat.lt_or_ge k L.length with hlt | hge
    · have i1 : (k : Int) < (L.length : Int) := by omega
      have i2 : (0 : Int) ≤ (k : Int) := by omega
      rcases Int.lt_or_le y 0 with h0 | h0
      · have d0 : decide (0 ≤ y) = false := decide_eq_false (by omega)
        have hxn : x < 0 := by
          rcases Int.lt_or_le x 0 with h | h
          · exact h
          · have := HP.out h; omega
        have HXN := Lib.hid hxn
        clear h0 hxn
        go_wp2_with fail
        go_ret2
        exact ⟨Or.inl ⟨Or.inl HXN.out, rfl⟩, HB.out⟩
      · have d0 : decide (0 ≤ y) = true := decide_eq_true h0
        obtain ⟨r, hr⟩ := get_lt hlt
        have HR := Lib.hid hr
        have hgr := gd_lim (HG.out r (List.mem_of_getElem? hr))
        obtain ⟨b, off, hA0, hb, e0, e1, e2⟩ := rd_at (HA.out.on HB.out) hr
        subst hA0
        have HTk := Lib.hid (lenM_take hr)
        by_cases hin : y < r.2.1
        · have d1 : decide (y < r.2.1) = true := decide_eq_true hin
          have HIn := Lib.hid hin
          have H0 := Lib.hid h0
          clear hr hin h0 hgr
          go_wp2_with fail
          go_ret2
          exact ⟨Or.inr ⟨k, r, y, HR.out, by have := HY.out; have := H0.out; omega, by have := HY.out; have := HIn.out; omega, HY.out, rfl⟩, HB.out⟩
        · have d1 : decide (y < r.2.1) = false := decide_eq_false hin
          have w1 : IntKind.i64.wrap (y - r.2.1) = y - r.2.1 := wrap_id (by
            have h1 := (HLim.out k).1
            have h2 := HY.out
            have h3 := HX.out.2
            omega)
          have HIn : Hid (0 ≤ y - r.2.1) := (by omega : 0 ≤ y - r.2.1)
          have HXP : Hid (0 ≤ x) := (by have := HY.out; have := (HLim.out k).1; omega : 0 ≤ x)
          clear hr hin h0 hgr
          go_wp2_with fail
          go_roundw
          case rel => exact ⟨k + 1, y - r.2.1, by omega, by go_num, rfl, by rw [HTk.out, HY.out]; omega, fun h => absurd HXP.out (by omega), fun _ => HIn.out, HB.out⟩
          case measure => simp [intOf]; omega
    · obtain rfl : k = L.length := by omega
      have hyl := HY.out
      rw [List.take_length] at hyl
      have HE : Hid (x < 0 ∨ lenM L ≤ x) := (by
        rcases Int.lt_or_le x 0 with h | h
        · exact Or.inl h
        · have := HP.out h; right; omega : x < 0 ∨ lenM L ≤ x)
      clear hyl
      go_wp2_with fail
      go_ret2
      exact ⟨Or.inl ⟨HE.out, rfl⟩, HB.out⟩
theorem atI_place {L : List Rn} (h : ∀ r ∈ L, 1 ≤ r.2.1) {i : Nat} {r : Rn} {x : Int} (hr : L[i]? = some r) (h1 : lenM (L.take i) ≤ x) (h2 : x < lenM (L.take i) + r.2.1) : atI L x = imI r.1 r.2.2 (x - lenM (L.take i)) := by
  rw [atI_some (place_hit h hr h1 h2), imI_im r (by omega)]
theorem place_in {L : List Rn} (h : ∀ r ∈ L, 1 ≤ r.2.1) {i : Nat} {r : Rn} {x : Int} (hr : L[i]? = some r) (h1 : lenM (L.take i) ≤ x) (h2 : x < lenM (L.take i) + r.2.1) : ¬ (x < 0 ∨ lenM L ≤ x) := by
  have h3 := lenM_le h i
  have h4 := lenM_le h (i + 1)
  rw [lenM_take hr] at h4
  omega
set_option maxHeartbeats 800000 in
theorem ref_At (L : List Rn) (A : Option Addr) (c : Nat) (x : Int) (w : World) (ha : Rns w A L) (hm : L.length ≤ 9223372036854775807) (hx : -9223372036854775808 ≤ x ∧ x ≤ 9223372036854775807) :
    Calls Try.prog 21 #[.slice A L.length c, .int .i64 x] w fun e w' => e = .returned (.tuple #[.int .i64 (atV L x), .int .i64 (atE L x)]) ∧ Below w.heap.size w w' := by
  have HA := Lib.hid ha
  have HX := Lib.hid hx
  clear ha hx
  obtain ⟨V, hV⟩ : ∃ V, atV L x = V := ⟨_, rfl⟩
  obtain ⟨E, hE⟩ : ∃ E, atE L x = E := ⟨_, rfl⟩
  rw [hV, hE]
  have HV := Lib.hid hV
  have HE := Lib.hid hE
  clear hV hE
  go_enter Try.func21, Try.ntmps21
  go_wp2_with fail
  refine (ref_Check L A c w HA.out hm).mono ?_
  rintro e w1 ⟨rfl, hb1⟩
  have HB1 := Lib.hid hb1
  clear hb1
  by_cases hz : eC L = 0
  · have HD := Lib.hid (Vd.ofE hz)
    rw [hz]
    have HZ := Lib.hid hz
    clear hz
    go_wp2_with fail
    refine (ref_place L A c x w1 (HA.out.on HB1.out) HD.out.all (by have := HD.out.n; omega) HX.out).mono ?_
    rintro e w2 ⟨hpl, hb2⟩
    have HB2 := Lib.hid (bstep HB1.out hb2)
    clear hb2
    rcases hpl with ⟨ho, rfl⟩ | ⟨i, r, k, hr, h1, h2, hk, rfl⟩
    · obtain rfl : E = 1 := by rw [← HE.out]; unfold atE; rw [if_pos HZ.out, if_pos ho]
      obtain rfl : V = 0 := by rw [← HV.out]; unfold atV; rw [HE.out, if_neg (by decide)]
      clear ho
      go_wp2_with fail
      go_ret2
      exact ⟨rfl, HB2.out⟩
    · obtain rfl : E = 0 := by rw [← HE.out]; unfold atE; rw [if_pos HZ.out, if_neg (place_in HD.out.pos hr h1 h2)]
      have hV2 : imI r.1 r.2.2 k = V := by rw [← HV.out, hk]; unfold atV; rw [HE.out, if_pos rfl, atI_place HD.out.pos hr h1 h2]
      obtain ⟨g1, g2, g3, g4, -, -⟩ := gd_iff.mp (HD.out.all r (List.mem_of_getElem? hr))
      have HIm := Lib.hid fun W => ref_image r.1 r.2.1 r.2.2 k W (by unfold big; unfold ml at *; omega) (by unfold big; unfold ml at *; omega)
      rw [hV2] at HIm
      have hil := glt hr
      have i1 : (i : Int) < (L.length : Int) := by omega
      have i2 : (0 : Int) ≤ (i : Int) := by omega
      obtain ⟨b, off, hA0, hb, e0, e1, e2⟩ := rd_at (HA.out.on HB2.out) hr
      subst hA0
      clear hr h1 h2 hk hV2 g1 g2 g3 g4 hil
      go_wp2_with fail
      refine (HIm.out _).mono ?_
      rintro e w3 ⟨rfl, hb3⟩
      go_wp2_with fail
      go_ret2
      exact ⟨rfl, bstep HB2.out hb3⟩
  · obtain ⟨z1, z2⟩ := ne_tests hz
    obtain rfl : eC L = E := by rw [← HE.out]; unfold atE; rw [if_neg hz]
    obtain rfl : V = 0 := by rw [← HV.out]; unfold atV; rw [HE.out, if_neg hz]
    clear hz
    go_wp2_with fail
    go_ret2
    exact ⟨rfl, HB1.out⟩

theorem neq_run (x y : Rn) (w : World) : (binOp .neq 48 (.agg #[.int .i64 x.1, .int .i64 x.2.1, .bool x.2.2]) (.agg #[.int .i64 y.1, .int .i64 y.2.1, .bool y.2.2])).run Try.prog w = .ok (.bool !(decide (x = y))) w := by
  have u3 := Try.underlying3
  have a3 := Try.isAgg3
  have z3 := Try.sizeOf3
  have u4 := Try.underlying4
  have a4 := Try.isAgg4
  have z4 := Try.sizeOf4
  have hS : Try.prog.underlying 48 = some (.struct (Try.prog.fieldsOf 48)) := by kernel_rfl
  have hp : Try.prog.stoodInHeld 48 = false := by kernel_rfl
  rw [run_neq_struct, show (10000 : Nat) = 9999 + 1 from rfl, run_equalIn_agg w 9999 48 _ _ hS hp]
  simp only [Program.fieldsOf, Try.underlying48]
  go_simp
  obtain ⟨a, n, b⟩ := x
  obtain ⟨a', n', b'⟩ := y
  by_cases h1 : a = a' <;> by_cases h2 : n = n' <;> cases b <;> cases b' <;> simp [h1, h2]
set_option maxHeartbeats 800000 in
theorem ref_Same (L M : List Rn) (A B : Option Addr) (c d : Nat) (w : World) (ha : Rns w A L) (hb : Rns w B M) (hm : L.length ≤ 9223372036854775807) (hm2 : M.length ≤ 9223372036854775807) :
    Calls Try.prog 24 #[.slice A L.length c, .slice B M.length d] w fun e w' => e = .returned (.bool (decide (L = M))) ∧ Below w.heap.size w w' := by
  have HA := Lib.hid ha
  have HB := Lib.hid hb
  clear ha hb
  by_cases hl : L.length = M.length
  · have HL := Lib.hid hl
    have hl' : ((L.length : Int) == (M.length : Int)) = true := by simp [hl]
    have hl2 : ((L.length : Int) != (M.length : Int)) = false := by simp [hl]
    clear hl
    go_enter Try.func24, Try.ntmps24
    go_wp2_with fail
    go_loopw [5] (fun i wr => ∃ k : Nat, k ≤ L.length ∧ i = .int .i64 k ∧ (∀ j s t, j < k → L[j]? = some s → M[j]? = some t → s = t) ∧ Below w.heap.size w wr) (fun i _ => L.length - (intOf i).toNat)
    case atStart => exact ⟨0, Nat.zero_le _, rfl, fun j s t h => absurd h (by omega), Below.refl _ _⟩
    case round =>
      obtain ⟨k, hk, rfl, hv, hbel⟩ := hrel
      have HV := Lib.hid hv
      have HW := Lib.hid hbel
      clear hv hbel
      rcases Nat.lt_or_ge k L.length with hlt | hge
      · have hlt2 : k < M.length := by have := HL.out; omega
        obtain ⟨s, hs⟩ := get_lt hlt
        obtain ⟨t, ht⟩ := get_lt hlt2
        obtain ⟨b1, off1, hA0, hb1, h0, h1, h2⟩ := rd_at (HA.out.on HW.out) hs
        obtain ⟨b2, off2, hB0, hb2, h3, h4, h5⟩ := rd_at (HB.out.on HW.out) ht
        subst hA0
        subst hB0
        have HS := Lib.hid hs
        have HT := Lib.hid ht
        have i1 : (k : Int) < (L.length : Int) := by omega
        have i2 : (0 : Int) ≤ (k : Int) := by omega
        have i3 : (k : Int) < (M.length : Int) := by omega
        clear hs ht
        have hq := neq_run s t
        by_cases e : s = t
        · have hq2 : (!(decide (s = t))) = false := by rw [decide_eq_true e]; rfl
          have E := Lib.hid e
          rw [hq2] at hq
          clear hq2 e
          go_wp2_with fail
          go_quiet (fail)
          go_wp2_with fail
          go_roundw
          case rel =>
            refine ⟨k + 1, by omega, by go_num, ?_, below_drewN HW.out _⟩
            intro j u v hj hu hv
            rcases Nat.lt_or_eq_of_le (Nat.le_of_lt_succ hj) with h | h
            · exact HV.out j u v h hu hv
            · subst h
              have e1 := HS.out
              have e2 := HT.out
              rw [hu] at e1; rw [hv] at e2; cases e1; cases e2; exact E.out
          case measure => simp [intOf]; omega
        · have hq2 : (!(decide (s = t))) = true := by rw [decide_eq_false e]; rfl
          have E : Hid (decide (L = M) = false) := decide_eq_false fun h => by
            subst h
            have e1 := HS.out
            rw [HT.out] at e1; exact e (Option.some.inj e1).symm
          rw [hq2] at hq
          clear hq2 e
          go_wp2_with fail
          go_quiet (fail)
          go_wp2_with fail
          go_ret
          exact ⟨ret_bool E.out.symm, below_drewN HW.out _⟩
      · obtain rfl : k = L.length := by omega
        have E : Hid (decide (L = M) = true) := decide_eq_true (by
          apply List.ext_getElem HL.out
          intro j h1 h2
          exact HV.out j _ _ h1 (List.getElem?_eq_getElem h1) (List.getElem?_eq_getElem h2))
        go_wp2_with fail
        go_ret
        exact ⟨ret_bool E.out.symm, HW.out⟩
  · have hl' : ((L.length : Int) == (M.length : Int)) = false := beq_false_of_ne (by omega)
    have hl2 : ((L.length : Int) != (M.length : Int)) = true := by simp; omega
    have E : Hid (decide (L = M) = false) := decide_eq_false fun h => hl (by rw [h])
    clear hl
    go_enter Try.func24, Try.ntmps24
    go_wp2_with fail
    go_ret
    exact ⟨ret_bool E.out.symm, Below.refl _ _⟩
#print axioms ref_place
#print axioms ref_At
#print axioms ref_Same
end Go.Proofs.Ytnblpooimgpgoaa.Iso
