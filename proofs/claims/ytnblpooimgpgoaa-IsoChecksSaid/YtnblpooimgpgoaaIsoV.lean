/- all, Norm, Reverse of the reference. -/
import Derived.Test.YtnblpooimgpgoaaIsoU
import Derived.Test.YtnblpooimgpgoaaIsoQ
import Derived.Deep.RegionHeld3
namespace Go.Proofs.Ytnblpooimgpgoaa.Iso
open Go.ChangeShapes Go.WideShapes Go.RowKit Go.Lib Go.Proofs.Ytnblpooimgpgoaa.Rw
set_option linter.unusedVariables false
set_option maxRecDepth 100000

theorem ex_take {L : List Rn} {k : Nat} {r : Rn} (h : L[k]? = some r) : ex (L.take (k + 1)) = ex (L.take k) ++ exR r := by rw [take_snoc_of h, ex_append, ex_one]
theorem ex_lim {L : List Rn} (hg : ∀ r ∈ L, gd r = true) (hm : L.length ≤ 600) (k : Nat) : (∀ x ∈ ex (L.take k), 0 ≤ x ∧ x < ml) ∧ ((ex (L.take k)).length : Int) ≤ 1108307720798208 ∧ (nfL (ex (L.take k))).length ≤ 600 := by
  have h1 := gd_take hg k
  have h2 := lenM_lim (fun r hr => gd_lim (hg r hr)) hm k
  have h3 := nfL_len (m := L.take k) fun r hr => gd_pos (h1 r hr)
  refine ⟨ex_range h1, by rw [ex_len fun r hr => gd_pos (h1 r hr)]; omega, ?_⟩
  rw [List.length_take] at h3; omega
set_option maxHeartbeats 800000 in
theorem ref_all (L : List Rn) (A : Option Addr) (c : Nat) (w : World) (ha : Rns w A L) (hg : ∀ r ∈ L, gd r = true) (hm : L.length ≤ 600) :
    Calls Try.prog 52 #[.slice A L.length c] w (Res1 (nfL (ex L)) w) := by
  have HA := Lib.hid ha
  have HG := Lib.hid hg
  have HLim := Lib.hid (ex_lim hg hm)
  clear ha hg
  go_enter Try.func52, Try.ntmps52
  go_wp2_with fail
  go_loopw [4, 3] (fun i v wr => ∃ (k : Nat) (A' : Option Addr) (n' c' : Nat), k ≤ L.length ∧ i = .int .i64 k ∧ v = .slice A' n' c' ∧ (nfL (ex (L.take k))).length = n' ∧ n' ≤ c' ∧ Rns wr A' (nfL (ex (L.take k))) ∧ Below w.heap.size w wr) (fun i v _ => L.length - (intOf i).toNat)
  case atStart => exact ⟨0, none, 0, 0, Nat.zero_le _, rfl, rfl, rfl, Nat.le_refl _, Rd.nil _ _ _ _, Below.refl _ _⟩
  case round =>
    obtain ⟨k, A', n', c', hk, rfl, rfl, hn, hc, hrd, hbel⟩ := hrel
    have HN := Lib.hid hn
    have HC := Lib.hid hc
    have HR := Lib.hid hrd
    have HB := Lib.hid hbel
    clear hc hrd hbel
    rcases Nat.lt_or_ge k L.length with hlt | hge
    · obtain ⟨r, hr⟩ := get_lt hlt
      have HGr := HG.out r (List.mem_of_getElem? hr)
      obtain ⟨b, off, hA0, hb, d0, d1, d2⟩ := rd_at (HA.out.on HB.out) hr
      subst hA0
      have HMo := Lib.hid fun W (h : Rns W A' (nfL (ex (L.take k)))) => ref_more (ex (L.take k)) A' c' r W h (by have := (HLim.out k).2.2; omega) (HLim.out k).1 (HLim.out k).2.1 HGr
      have HT := Lib.hid (ex_take hr)
      rw [hn] at HMo
      have i1 : (k : Int) < (L.length : Int) := by omega
      have i2 : (0 : Int) ≤ (k : Int) := by omega
      clear hr hn HGr
      go_wp2_with fail
      refine (HMo.out wr HR.out).mono ?_
      rintro e w1 ⟨A1, c1, rfl, hr1, hb1⟩
      rw [← HT.out] at hr1 ⊢
      have HR1 := Lib.hid hr1
      have HB1 := Lib.hid (bstep HB.out hb1)
      obtain ⟨N1, hN1⟩ : ∃ N, (nfL (ex (L.take (k + 1)))).length = N := ⟨_, rfl⟩
      rw [hN1]
      have HN1 := Lib.hid hN1
      clear hr1 hb1 hN1
      go_wp2_with fail
      go_roundw
      case rel => exact ⟨k + 1, A1, N1, c1, by omega, by go_num, rfl, HN1.out, HN1.out ▸ HR1.out.2, HR1.out.1, HB1.out⟩
      case measure => simp [intOf]; omega
    · obtain rfl : k = L.length := by omega
      clear hn
      have hn := HN.out
      have hr := HR.out
      rw [List.take_length] at hn hr
      have HN2 := Lib.hid hn
      have HR2 := Lib.hid hr
      clear hn hr
      go_wp2_with fail
      go_ret
      exact ⟨A', c', ret_sl HN2.out.symm, ⟨HR2.out, by rw [HN2.out]; exact HC.out⟩, HB.out⟩
set_option maxHeartbeats 800000 in
theorem ref_Norm (L : List Rn) (A : Option Addr) (c : Nat) (w : World) (ha : Rns w A L) (hm : L.length ≤ 9223372036854775807) :
    Calls Try.prog 23 #[.slice A L.length c] w (Res (nrmL L) (eC L) w) := by
  have HA := Lib.hid ha
  clear ha
  go_enter Try.func23, Try.ntmps23
  go_wp2_with fail
  refine (ref_Check L A c w HA.out hm).mono ?_
  rintro e w1 ⟨rfl, hb1⟩
  have HB1 := Lib.hid hb1
  clear hb1
  by_cases hz : eC L = 0
  · have HV := Lib.hid (Vd.ofE hz)
    have HE : Hid (nrmL L = nfL (ex L)) := if_pos hz
    rw [hz]
    have HZ := Lib.hid hz
    clear hz
    go_wp2_with fail
    refine (ref_all L A c w1 (HA.out.on HB1.out) HV.out.all (by have := HV.out.n; omega)).mono ?_
    rintro e w2 ⟨A2, c2, rfl, hr2, hb2⟩
    have HR2 := Lib.hid hr2
    have HB2 := Lib.hid (bstep HB1.out hb2)
    clear hr2 hb2
    obtain ⟨N, hN⟩ : ∃ N, (nfL (ex L)).length = N := ⟨_, rfl⟩
    rw [hN]
    have HN := Lib.hid hN
    clear hN
    go_wp2_with fail
    go_ret2
    exact ⟨A2, c2, ret_map (by rw [HE.out, HN.out]) HZ.out.symm, by rw [HE.out]; exact HR2.out, HB2.out⟩
  · obtain ⟨z1, z2⟩ := ne_tests hz
    have HE : Hid (nrmL L = []) := if_neg hz
    clear hz
    go_wp2_with fail
    go_ret2
    rw [HE.out]
    exact Res.err HB1.out

theorem rev_at {L : List Rn} {k : Nat} {r : Rn} (hk : k < L.length) (h : L[L.length - 1 - k]? = some r) : (L.reverse.map revR)[k]? = some (revR r) := by
  rw [List.getElem?_map, List.getElem?_reverse hk, h]; rfl
set_option maxHeartbeats 3200000 in
theorem ref_Reverse (L : List Rn) (A : Option Addr) (c : Nat) (w : World) (ha : Rns w A L) (hm : L.length ≤ 9223372036854775807) :
    Calls Try.prog 37 #[.slice A L.length c] w (Res (revL L) (eC L) w) := by
  have HA := Lib.hid ha
  clear ha
  go_enter Try.func37, Try.ntmps37
  go_wp2_with fail
  refine (ref_Check L A c w HA.out hm).mono ?_
  rintro e w1 ⟨rfl, hb1⟩
  have HB1 := Lib.hid hb1
  clear hb1
  by_cases hz : eC L = 0
  · have HV := Lib.hid (Vd.ofE hz)
    have HE : Hid (revL L = nfL (ex L).reverse) := if_pos hz
    rw [hz]
    have HZ := Lib.hid hz
    clear hz
    have hl256 := HV.out.n
    obtain ⟨K, hK⟩ : ∃ K, L.length = K := ⟨_, rfl⟩
    have HK := Lib.hid hK
    have HGv : Hid (∀ r ∈ L.reverse.map revR, gd r = true) := fun r hr => by
      obtain ⟨s, hs, rfl⟩ := List.mem_map.mp hr
      exact gd_rev (HV.out.all s (List.mem_reverse.mp hs))
    have HLim := Lib.hid (ex_lim HGv.out (by rw [List.length_map, List.length_reverse]; omega))
    have HEx : Hid (ex ((L.reverse.map revR).take K) = (ex L).reverse) := by rw [List.take_of_length_le (by rw [List.length_map, List.length_reverse]; omega)]; exact ex_rev HV.out.pos
    have wk : IntKind.i64.wrap ((K : Int) - 1) = (K : Int) - 1 := wrap_id (by omega)
    rw [hK] at hl256 ⊢
    clear hK
    go_wp2_with fail
    go_loopw [5, 6] (fun v i wr => ∃ (k : Nat) (z : Int) (A' : Option Addr) (n' c' : Nat), k ≤ K ∧ i = .int .i64 z ∧ z = (K : Int) - 1 - k ∧ v = .slice A' n' c' ∧ (nfL (ex ((L.reverse.map revR).take k))).length = n' ∧ n' ≤ c' ∧ Rns wr A' (nfL (ex ((L.reverse.map revR).take k))) ∧ Below w.heap.size w wr) (fun v i _ => (intOf i + 1).toNat)
    case atStart => exact ⟨0, _, none, 0, 0, Nat.zero_le _, rfl, by simp, rfl, rfl, Nat.le_refl _, Rd.nil _ _ _ _, HB1.out⟩
    case round =>
      obtain ⟨k, z, A', n', c', hk, rfl, hzz, rfl, hn, hc, hrd, hbel⟩ := hrel
      have HN := Lib.hid hn
      have HC := Lib.hid hc
      have HR := Lib.hid hrd
      have HB := Lib.hid hbel
      clear hc hrd hbel
      rcases Nat.lt_or_ge k K with hlt | hge
      · obtain ⟨J, hJ⟩ : ∃ J, K - 1 - k = J := ⟨_, rfl⟩
        obtain rfl : z = (J : Int) := by omega
        have HJ := Lib.hid hJ
        have hJl : J < K := by omega
        obtain ⟨r, hr⟩ := get_lt (L := L) (k := J) (by rw [HK.out]; exact hJl)
        have HGr := HV.out.all r (List.mem_of_getElem? hr)
        have HRv : Hid ((L.reverse.map revR)[k]? = some (revR r)) := rev_at (by rw [HK.out]; exact hlt) (by rw [HK.out, HJ.out]; exact hr)
        have HGn : gd (nrmR (revR r)) = true := gd_nrm (gd_rev HGr)
        obtain ⟨b, off, hA0, hb, d0, d1, d2⟩ := rd_at (HA.out.on HB.out) hr
        subst hA0
        have HMo := Lib.hid fun W (h : Rns W A' (nfL (ex ((L.reverse.map revR).take k)))) => ref_more (ex ((L.reverse.map revR).take k)) A' c' (nrmR (revR r)) W h (by have := (HLim.out k).2.2; omega) (HLim.out k).1 (HLim.out k).2.1 HGn
        have HT : Hid (ex ((L.reverse.map revR).take (k + 1)) = ex ((L.reverse.map revR).take k) ++ exR (nrmR (revR r))) := by rw [ex_take HRv.out, nrmR_ex]; exact Lib.hid rfl
        rw [hn] at HMo
        obtain ⟨g1, g2, g3, g4, -, -⟩ := gd_iff.mp HGr
        have HIm := Lib.hid fun W => ref_image r.1 r.2.1 r.2.2 (r.2.1 - 1) W (by unfold big; unfold ml at *; omega) (by unfold big; unfold ml at *; omega)
        rw [imI_las r g1] at HIm
        have i1 : (J : Int) < (K : Int) := by omega
        have i2 : (0 : Int) ≤ (J : Int) := by omega
        have w1' : IntKind.i64.wrap (r.2.1 - 1) = r.2.1 - 1 := wrap_id (by unfold ml at *; omega)
        have w2' : IntKind.i64.wrap ((J : Int) - 1) = (J : Int) - 1 := wrap_id (by omega)
        have HSS := Lib.hid fun (W : World) (hbw : Below wr.heap.size wr W) => (⟨(hbw.cell (p := ⟨b, off + J * 3, none⟩) hb).trans d0, (hbw.cell (p := ⟨b, off + J * 3 + 1, none⟩) hb).trans d1, (hbw.cell (p := ⟨b, off + J * 3 + 2, none⟩) hb).trans d2⟩ : W.cell? ⟨b, off + J * 3, none⟩ = some (.int .i64 r.1) ∧ W.cell? ⟨b, off + J * 3 + 1, none⟩ = some (.int .i64 r.2.1) ∧ W.cell? ⟨b, off + J * 3 + 2, none⟩ = some (.bool r.2.2))
        have HRl : Hid (∀ W, Below wr.heap.size wr W → Rns W A' (nfL (ex ((L.reverse.map revR).take k)))) := fun W h => HR.out.on h
        obtain ⟨la, hla⟩ : ∃ la, las r = la := ⟨_, rfl⟩
        rw [hla] at HIm
        obtain ⟨bk, hbk⟩ : ∃ bk, r.2.2 = bk := ⟨_, rfl⟩
        obtain ⟨bn, hbn⟩ : ∃ bn, (!bk && decide (1 < r.2.1)) = bn := ⟨_, rfl⟩
        have HMo2 : Hid (∀ W, Rns W A' (nfL (ex ((L.reverse.map revR).take k))) → Calls Try.prog 62 #[.slice A' n' c', .agg #[.int .i64 la, .int .i64 r.2.1, .bool bn]] W (Res1 (nfL (ex ((L.reverse.map revR).take (k + 1)))) W)) := fun W h => by
          have h2 := HMo.out W h
          rw [← HT.out] at h2
          have e : nrmR (revR r) = (la, r.2.1, bn) := by rw [← hbn, ← hbk, ← hla]; rfl
          rw [e] at h2
          exact h2
        rw [hbk] at d2 HIm HSS
        clear hr hn HGr HGn g1 g2 g3 g4 hla hbk hJ hJl HMo hzz
        obtain ⟨N1, hN1⟩ : ∃ N, (nfL (ex ((L.reverse.map revR).take (k + 1)))).length = N := ⟨_, rfl⟩
        have HN1 := Lib.hid hN1
        have HFin : Hid (∀ W' : World, Below w.heap.size w W' → True) := fun _ _ => trivial
        clear hN1 HFin
        go_upto_region 8 with fail
        cases bk with
        | true =>
          obtain rfl : bn = false := by rw [← hbn]; rfl
          clear hbn
          -- [region 8
          refine wp_region_held_drew (S := (fun W' => W'.cell? ⟨b, off + J * 3, none⟩ = some (.int .i64 r.1) ∧ W'.cell? ⟨b, off + J * 3 + 1, none⟩ = some (.int .i64 r.2.1) ∧ W'.cell? ⟨b, off + J * 3 + 2, none⟩ = some (.bool true))) (by kernel_rfl) (HSS.out _ (drew_below _)) (fun hHeld => ?_)
          refine wpAnyH_take (i := 0) (oi := { dst := some 19, op := Op.move (Operand.tmp 5), type := 22, pos := "ref.go:214", after := #[], guard := none }) (v := ?_) rfl (by kernel_rfl) (by kernel_rfl) (by kernel_rfl) (fun _ _ _ h => h) (Or.inl ⟨by rfl, ?_⟩) (by assumption) ?_
          rotate_left
          · intro w hSw
            (try dsimp only at hSw)
            go_simp
            try with_reducible rfl
          try simp only [Act.put, List.setIfInBounds_toArray, List.set_cons_zero, List.set_cons_succ]
          refine wpAnyH_take (i := 1) (oi := { dst := some 20, op := Op.move (Operand.tmp 0), type := 22, pos := "ref.go:214", after := #[], guard := none }) (v := ?_) rfl (by kernel_rfl) (by kernel_rfl) (by kernel_rfl) (fun _ _ _ h => h) (Or.inl ⟨by rfl, ?_⟩) (by assumption) ?_
          rotate_left
          · intro w hSw
            (try dsimp only at hSw)
            go_simp
            try with_reducible rfl
          try simp only [Act.put, List.setIfInBounds_toArray, List.set_cons_zero, List.set_cons_succ]
          refine wpAnyH_take (i := 2) (oi := { dst := some 21, op := Op.move (Operand.tmp 6), type := 3, pos := "ref.go:214", after := #[], guard := none }) (v := ?_) rfl (by kernel_rfl) (by kernel_rfl) (by kernel_rfl) (fun _ _ _ h => h) (Or.inl ⟨by rfl, ?_⟩) (by assumption) ?_
          rotate_left
          · intro w hSw
            (try dsimp only at hSw)
            go_simp
            try with_reducible rfl
          try simp only [Act.put, List.setIfInBounds_toArray, List.set_cons_zero, List.set_cons_succ]
          refine wpAnyH_take (i := 3) (oi := { dst := some 22, op := Op.indexAddr 22 (Operand.tmp 20) (Operand.tmp 21), type := 0, pos := "ref.go:214", after := #[{ on := 1, ground := Ground.data }, { on := 2, ground := Ground.data }], guard := none }) (v := ?_) rfl (by kernel_rfl) (by kernel_rfl) (by kernel_rfl) (fun _ _ _ h => h) (Or.inl ⟨by rfl, ?_⟩) (by assumption) ?_
          rotate_left
          · intro w hSw
            (try dsimp only at hSw)
            go_simp
            try with_reducible rfl
          try simp only [Act.put, List.setIfInBounds_toArray, List.set_cons_zero, List.set_cons_succ]
          refine wpAnyH_take (i := 4) (oi := { dst := some 23, op := Op.load 48 (Operand.tmp 22), type := 48, pos := "ref.go:214", after := #[{ on := 3, ground := Ground.data }], guard := none }) (v := ?_) rfl (by kernel_rfl) (by kernel_rfl) (by kernel_rfl) (fun _ _ _ h => h) (Or.inl ⟨by rfl, ?_⟩) (by assumption) ?_
          rotate_left
          · intro w hSw
            (try dsimp only at hSw)
            go_simp
            try with_reducible rfl
          try simp only [Act.put, List.setIfInBounds_toArray, List.set_cons_zero, List.set_cons_succ]
          refine wpAnyH_take (i := 5) (oi := { dst := some 24, op := Op.move (Operand.tmp 0), type := 22, pos := "ref.go:214", after := #[], guard := none }) (v := ?_) rfl (by kernel_rfl) (by kernel_rfl) (by kernel_rfl) (fun _ _ _ h => h) (Or.inl ⟨by rfl, ?_⟩) (by assumption) ?_
          rotate_left
          · intro w hSw
            (try dsimp only at hSw)
            go_simp
            try with_reducible rfl
          try simp only [Act.put, List.setIfInBounds_toArray, List.set_cons_zero, List.set_cons_succ]
          refine wpAnyH_take (i := 6) (oi := { dst := some 25, op := Op.move (Operand.tmp 6), type := 3, pos := "ref.go:214", after := #[], guard := none }) (v := ?_) rfl (by kernel_rfl) (by kernel_rfl) (by kernel_rfl) (fun _ _ _ h => h) (Or.inl ⟨by rfl, ?_⟩) (by assumption) ?_
          rotate_left
          · intro w hSw
            (try dsimp only at hSw)
            go_simp
            try with_reducible rfl
          try simp only [Act.put, List.setIfInBounds_toArray, List.set_cons_zero, List.set_cons_succ]
          refine wpAnyH_take (i := 7) (oi := { dst := some 26, op := Op.indexAddr 22 (Operand.tmp 24) (Operand.tmp 25), type := 0, pos := "ref.go:214", after := #[{ on := 5, ground := Ground.data }, { on := 6, ground := Ground.data }], guard := none }) (v := ?_) rfl (by kernel_rfl) (by kernel_rfl) (by kernel_rfl) (fun _ _ _ h => h) (Or.inl ⟨by rfl, ?_⟩) (by assumption) ?_
          rotate_left
          · intro w hSw
            (try dsimp only at hSw)
            go_simp
            try with_reducible rfl
          try simp only [Act.put, List.setIfInBounds_toArray, List.set_cons_zero, List.set_cons_succ]
          refine wpAnyH_take (i := 8) (oi := { dst := some 27, op := Op.fieldAddr 48 (Operand.tmp 26) 1, type := 0, pos := "ref.go:214", after := #[{ on := 7, ground := Ground.data }], guard := none }) (v := ?_) rfl (by kernel_rfl) (by kernel_rfl) (by kernel_rfl) (fun _ _ _ h => h) (Or.inl ⟨by rfl, ?_⟩) (by assumption) ?_
          rotate_left
          · intro w hSw
            (try dsimp only at hSw)
            go_simp
            try with_reducible rfl
          try simp only [Act.put, List.setIfInBounds_toArray, List.set_cons_zero, List.set_cons_succ]
          refine wpAnyH_take (i := 9) (oi := { dst := some 28, op := Op.load 3 (Operand.tmp 27), type := 3, pos := "ref.go:214", after := #[{ on := 8, ground := Ground.data }], guard := none }) (v := ?_) rfl (by kernel_rfl) (by kernel_rfl) (by kernel_rfl) (fun _ _ _ h => h) (Or.inl ⟨by rfl, ?_⟩) (by assumption) ?_
          rotate_left
          · intro w hSw
            (try dsimp only at hSw)
            go_simp
            try with_reducible rfl
          try simp only [Act.put, List.setIfInBounds_toArray, List.set_cons_zero, List.set_cons_succ]
          refine wpAnyH_take (i := 10) (oi := { dst := some 29, op := Op.binOp BinOp.sub 3 (Operand.tmp 28) (Operand.const (Value.int IntKind.i64 1)) 3, type := 3, pos := "ref.go:214", after := #[{ on := 9, ground := Ground.data }], guard := none }) (v := ?_) rfl (by kernel_rfl) (by kernel_rfl) (by kernel_rfl) (fun _ _ _ h => h) (Or.inl ⟨by rfl, ?_⟩) (by assumption) ?_
          rotate_left
          · intro w hSw
            (try dsimp only at hSw)
            go_simp
            try with_reducible rfl
          try simp only [Act.put, List.setIfInBounds_toArray, List.set_cons_zero, List.set_cons_succ]
          refine wpAnyH_take (i := 12) (oi := { dst := some 31, op := Op.move (Operand.tmp 0), type := 22, pos := "ref.go:214", after := #[], guard := none }) (v := ?_) rfl (by kernel_rfl) (by kernel_rfl) (by kernel_rfl) (fun _ _ _ h => h) (Or.inl ⟨by rfl, ?_⟩) (by assumption) ?_
          rotate_left
          · intro w hSw
            (try dsimp only at hSw)
            go_simp
            try with_reducible rfl
          try simp only [Act.put, List.setIfInBounds_toArray, List.set_cons_zero, List.set_cons_succ]
          refine wpAnyH_take (i := 13) (oi := { dst := some 32, op := Op.move (Operand.tmp 6), type := 3, pos := "ref.go:214", after := #[], guard := none }) (v := ?_) rfl (by kernel_rfl) (by kernel_rfl) (by kernel_rfl) (fun _ _ _ h => h) (Or.inl ⟨by rfl, ?_⟩) (by assumption) ?_
          rotate_left
          · intro w hSw
            (try dsimp only at hSw)
            go_simp
            try with_reducible rfl
          try simp only [Act.put, List.setIfInBounds_toArray, List.set_cons_zero, List.set_cons_succ]
          refine wpAnyH_take (i := 14) (oi := { dst := some 33, op := Op.indexAddr 22 (Operand.tmp 31) (Operand.tmp 32), type := 0, pos := "ref.go:214", after := #[{ on := 12, ground := Ground.data }, { on := 13, ground := Ground.data }], guard := none }) (v := ?_) rfl (by kernel_rfl) (by kernel_rfl) (by kernel_rfl) (fun _ _ _ h => h) (Or.inl ⟨by rfl, ?_⟩) (by assumption) ?_
          rotate_left
          · intro w hSw
            (try dsimp only at hSw)
            go_simp
            try with_reducible rfl
          try simp only [Act.put, List.setIfInBounds_toArray, List.set_cons_zero, List.set_cons_succ]
          refine wpAnyH_take (i := 15) (oi := { dst := some 34, op := Op.fieldAddr 48 (Operand.tmp 33) 1, type := 0, pos := "ref.go:214", after := #[{ on := 14, ground := Ground.data }], guard := none }) (v := ?_) rfl (by kernel_rfl) (by kernel_rfl) (by kernel_rfl) (fun _ _ _ h => h) (Or.inl ⟨by rfl, ?_⟩) (by assumption) ?_
          rotate_left
          · intro w hSw
            (try dsimp only at hSw)
            go_simp
            try with_reducible rfl
          try simp only [Act.put, List.setIfInBounds_toArray, List.set_cons_zero, List.set_cons_succ]
          refine wpAnyH_take (i := 16) (oi := { dst := some 35, op := Op.load 3 (Operand.tmp 34), type := 3, pos := "ref.go:214", after := #[{ on := 15, ground := Ground.data }], guard := none }) (v := ?_) rfl (by kernel_rfl) (by kernel_rfl) (by kernel_rfl) (fun _ _ _ h => h) (Or.inl ⟨by rfl, ?_⟩) (by assumption) ?_
          rotate_left
          · intro w hSw
            (try dsimp only at hSw)
            go_simp
            try with_reducible rfl
          try simp only [Act.put, List.setIfInBounds_toArray, List.set_cons_zero, List.set_cons_succ]
          refine wpAnyH_take (i := 17) (oi := { dst := some 36, op := Op.move (Operand.tmp 0), type := 22, pos := "ref.go:214", after := #[], guard := none }) (v := ?_) rfl (by kernel_rfl) (by kernel_rfl) (by kernel_rfl) (fun _ _ _ h => h) (Or.inl ⟨by rfl, ?_⟩) (by assumption) ?_
          rotate_left
          · intro w hSw
            (try dsimp only at hSw)
            go_simp
            try with_reducible rfl
          try simp only [Act.put, List.setIfInBounds_toArray, List.set_cons_zero, List.set_cons_succ]
          refine wpAnyH_take (i := 18) (oi := { dst := some 37, op := Op.move (Operand.tmp 6), type := 3, pos := "ref.go:214", after := #[], guard := none }) (v := ?_) rfl (by kernel_rfl) (by kernel_rfl) (by kernel_rfl) (fun _ _ _ h => h) (Or.inl ⟨by rfl, ?_⟩) (by assumption) ?_
          rotate_left
          · intro w hSw
            (try dsimp only at hSw)
            go_simp
            try with_reducible rfl
          try simp only [Act.put, List.setIfInBounds_toArray, List.set_cons_zero, List.set_cons_succ]
          refine wpAnyH_take (i := 19) (oi := { dst := some 38, op := Op.indexAddr 22 (Operand.tmp 36) (Operand.tmp 37), type := 0, pos := "ref.go:214", after := #[{ on := 17, ground := Ground.data }, { on := 18, ground := Ground.data }], guard := none }) (v := ?_) rfl (by kernel_rfl) (by kernel_rfl) (by kernel_rfl) (fun _ _ _ h => h) (Or.inl ⟨by rfl, ?_⟩) (by assumption) ?_
          rotate_left
          · intro w hSw
            (try dsimp only at hSw)
            go_simp
            try with_reducible rfl
          try simp only [Act.put, List.setIfInBounds_toArray, List.set_cons_zero, List.set_cons_succ]
          refine wpAnyH_take (i := 20) (oi := { dst := some 39, op := Op.fieldAddr 48 (Operand.tmp 38) 2, type := 0, pos := "ref.go:214", after := #[{ on := 19, ground := Ground.data }], guard := none }) (v := ?_) rfl (by kernel_rfl) (by kernel_rfl) (by kernel_rfl) (fun _ _ _ h => h) (Or.inl ⟨by rfl, ?_⟩) (by assumption) ?_
          rotate_left
          · intro w hSw
            (try dsimp only at hSw)
            go_simp
            try with_reducible rfl
          try simp only [Act.put, List.setIfInBounds_toArray, List.set_cons_zero, List.set_cons_succ]
          refine wpAnyH_take (i := 21) (oi := { dst := some 40, op := Op.load 4 (Operand.tmp 39), type := 4, pos := "ref.go:214", after := #[{ on := 20, ground := Ground.data }], guard := none }) (v := ?_) rfl (by kernel_rfl) (by kernel_rfl) (by kernel_rfl) (fun _ _ _ h => h) (Or.inl ⟨by rfl, ?_⟩) (by assumption) ?_
          rotate_left
          · intro w hSw
            (try dsimp only at hSw)
            go_simp
            try with_reducible rfl
          try simp only [Act.put, List.setIfInBounds_toArray, List.set_cons_zero, List.set_cons_succ]
          refine wpAnyH_take (i := 22) (oi := { dst := some 41, op := Op.unOp UnOp.not 4 (Operand.tmp 40), type := 4, pos := "ref.go:214", after := #[{ on := 21, ground := Ground.data }], guard := none }) (v := ?_) rfl (by kernel_rfl) (by kernel_rfl) (by kernel_rfl) (fun _ _ _ h => h) (Or.inl ⟨by rfl, ?_⟩) (by assumption) ?_
          rotate_left
          · intro w hSw
            (try dsimp only at hSw)
            go_simp
            try with_reducible rfl
          try simp only [Act.put, List.setIfInBounds_toArray, List.set_cons_zero, List.set_cons_succ]
          refine wpAnyH_ready (rs := [11]) (by kernel_rfl) (by simp) ?_
          refine AllReadyH.cons (o := { dst := some 30, op := Op.call { callee := Callee.value (Operand.func 50), args := #[Operand.tmp 23, Operand.tmp 29], argTypes := #[48, 3] }, type := 3, pos := "ref.go:214", after := #[{ on := 4, ground := Ground.data }, { on := 10, ground := Ground.data }], guard := none }) rfl (fun K hK => ?_) AllReadyH.nil
          go_simp
          go_at_call 50
          (refine (HIm.out _).mono ?_)
          rintro e w3 ⟨rfl, hb3⟩
          go_wp2_with fail
          refine hK.out _ _ ?_ (fun hHeld => ?_)
          · (try dsimp only)
            exact HSS.out _ (bstep (drew_below _) hb3)
          clear hK K
          try simp only [Act.put, List.setIfInBounds_toArray, List.set_cons_zero, List.set_cons_succ]
          refine wpAnyH_take (i := 23) (oi := { dst := some 42, op := Op.move (Operand.tmp 41), type := 4, pos := "ref.go:214", after := #[{ on := 22, ground := Ground.data }, { on := 11, ground := Ground.chain }], guard := none }) (v := ?_) rfl (by kernel_rfl) (by kernel_rfl) (by kernel_rfl) (fun _ _ _ h => h) (Or.inl ⟨by rfl, ?_⟩) (by assumption) ?_
          rotate_left
          · intro w hSw
            (try dsimp only at hSw)
            go_simp
            try with_reducible rfl
          try simp only [Act.put, List.setIfInBounds_toArray, List.set_cons_zero, List.set_cons_succ]
          refine wpAnyH_take (i := 24) (oi := { dst := some 43, op := Op.move (Operand.tmp 0), type := 22, pos := "ref.go:214", after := #[{ on := 23, ground := Ground.guard }], guard := some (23, true) }) (v := undef) rfl (by kernel_rfl) (by kernel_rfl) (by kernel_rfl) (fun _ _ _ h => h) (Or.inr ⟨by kernel_rfl, rfl⟩) (by assumption) ?_
          try simp only [Act.put, List.setIfInBounds_toArray, List.set_cons_zero, List.set_cons_succ]
          refine wpAnyH_take (i := 25) (oi := { dst := some 44, op := Op.move (Operand.tmp 6), type := 3, pos := "ref.go:214", after := #[{ on := 23, ground := Ground.guard }], guard := some (23, true) }) (v := undef) rfl (by kernel_rfl) (by kernel_rfl) (by kernel_rfl) (fun _ _ _ h => h) (Or.inr ⟨by kernel_rfl, rfl⟩) (by assumption) ?_
          try simp only [Act.put, List.setIfInBounds_toArray, List.set_cons_zero, List.set_cons_succ]
          refine wpAnyH_take (i := 26) (oi := { dst := some 45, op := Op.indexAddr 22 (Operand.tmp 43) (Operand.tmp 44), type := 0, pos := "ref.go:214", after := #[{ on := 24, ground := Ground.data }, { on := 25, ground := Ground.data }, { on := 23, ground := Ground.guard }], guard := some (23, true) }) (v := undef) rfl (by kernel_rfl) (by kernel_rfl) (by kernel_rfl) (fun _ _ _ h => h) (Or.inr ⟨by kernel_rfl, rfl⟩) (by assumption) ?_
          try simp only [Act.put, List.setIfInBounds_toArray, List.set_cons_zero, List.set_cons_succ]
          refine wpAnyH_take (i := 27) (oi := { dst := some 46, op := Op.fieldAddr 48 (Operand.tmp 45) 1, type := 0, pos := "ref.go:214", after := #[{ on := 26, ground := Ground.data }, { on := 23, ground := Ground.guard }], guard := some (23, true) }) (v := undef) rfl (by kernel_rfl) (by kernel_rfl) (by kernel_rfl) (fun _ _ _ h => h) (Or.inr ⟨by kernel_rfl, rfl⟩) (by assumption) ?_
          try simp only [Act.put, List.setIfInBounds_toArray, List.set_cons_zero, List.set_cons_succ]
          refine wpAnyH_take (i := 28) (oi := { dst := some 47, op := Op.load 3 (Operand.tmp 46), type := 3, pos := "ref.go:214", after := #[{ on := 27, ground := Ground.data }, { on := 23, ground := Ground.guard }], guard := some (23, true) }) (v := undef) rfl (by kernel_rfl) (by kernel_rfl) (by kernel_rfl) (fun _ _ _ h => h) (Or.inr ⟨by kernel_rfl, rfl⟩) (by assumption) ?_
          try simp only [Act.put, List.setIfInBounds_toArray, List.set_cons_zero, List.set_cons_succ]
          refine wpAnyH_take (i := 29) (oi := { dst := some 48, op := Op.binOp BinOp.gtr 3 (Operand.tmp 47) (Operand.const (Value.int IntKind.i64 1)) 3, type := 4, pos := "ref.go:214", after := #[{ on := 28, ground := Ground.data }, { on := 23, ground := Ground.guard }], guard := some (23, true) }) (v := undef) rfl (by kernel_rfl) (by kernel_rfl) (by kernel_rfl) (fun _ _ _ h => h) (Or.inr ⟨by kernel_rfl, rfl⟩) (by assumption) ?_
          try simp only [Act.put, List.setIfInBounds_toArray, List.set_cons_zero, List.set_cons_succ]
          refine wpAnyH_take (i := 30) (oi := { dst := some 49, op := Op.pick (Operand.tmp 42) (Operand.tmp 48) (Operand.const (Value.bool false)), type := 4, pos := "ref.go:214", after := #[{ on := 23, ground := Ground.data }, { on := 29, ground := Ground.data }], guard := none }) (v := ?_) rfl (by kernel_rfl) (by kernel_rfl) (by kernel_rfl) (fun _ _ _ h => h) (Or.inl ⟨by rfl, ?_⟩) (by assumption) ?_
          rotate_left
          · intro w hSw
            (try dsimp only at hSw)
            go_simp
            try with_reducible rfl
          try simp only [Act.put, List.setIfInBounds_toArray, List.set_cons_zero, List.set_cons_succ]
          refine wpAnyH_take (i := 31) (oi := { dst := some 50, op := Op.build 48 #[(0, Operand.tmp 30), (1, Operand.tmp 35), (2, Operand.tmp 49)], type := 48, pos := "ref.go:214", after := #[{ on := 11, ground := Ground.data }, { on := 16, ground := Ground.data }, { on := 30, ground := Ground.data }], guard := none }) (v := ?_) rfl (by kernel_rfl) (by kernel_rfl) (by kernel_rfl) (fun _ _ _ h => h) (Or.inl ⟨by rfl, ?_⟩) (by assumption) ?_
          rotate_left
          · intro w hSw
            (try dsimp only at hSw)
            go_simp
            try with_reducible rfl
          try simp only [Act.put, List.setIfInBounds_toArray, List.set_cons_zero, List.set_cons_succ]
          refine wpAnyH_ready (rs := [32]) (by kernel_rfl) (by simp) ?_
          refine AllReadyH.cons (o := { dst := some 51, op := Op.call { callee := Callee.value (Operand.func 62), args := #[Operand.tmp 19, Operand.tmp 50], argTypes := #[22, 48] }, type := 22, pos := "ref.go:214", after := #[{ on := 0, ground := Ground.data }, { on := 31, ground := Ground.data }, { on := 23, ground := Ground.chain }], guard := none }) rfl (fun K hK => ?_) AllReadyH.nil
          go_simp
          go_at_call 62
          (refine (HMo2.out _ (HRl.out _ (bstep (drew_below _) hb3))).mono ?_)
          rintro e w4 ⟨A4, c4, rfl, hr4, hb4⟩
          rw [HN1.out]
          go_wp2_with fail
          refine hK.out _ _ ?_ (fun hHeld => ?_)
          · (try dsimp only)
            exact HSS.out _ (bstep (bstep (drew_below _) hb3) hb4)
          clear hK K
          try simp only [Act.put, List.setIfInBounds_toArray, List.set_cons_zero, List.set_cons_succ]
          refine wpAnyH_take (i := 33) (oi := { dst := some 5, op := Op.assign (Operand.tmp 51), type := 22, pos := "ref.go:214", after := #[{ on := 32, ground := Ground.data }, { on := 32, ground := Ground.chain }, { on := 0, ground := Ground.phase }, { on := 1, ground := Ground.phase }, { on := 2, ground := Ground.phase }, { on := 3, ground := Ground.phase }, { on := 4, ground := Ground.phase }, { on := 5, ground := Ground.phase }, { on := 6, ground := Ground.phase }, { on := 7, ground := Ground.phase }, { on := 8, ground := Ground.phase }, { on := 9, ground := Ground.phase }, { on := 10, ground := Ground.phase }, { on := 11, ground := Ground.phase }, { on := 12, ground := Ground.phase }, { on := 13, ground := Ground.phase }, { on := 14, ground := Ground.phase }, { on := 15, ground := Ground.phase }, { on := 16, ground := Ground.phase }, { on := 17, ground := Ground.phase }, { on := 18, ground := Ground.phase }, { on := 19, ground := Ground.phase }, { on := 20, ground := Ground.phase }, { on := 21, ground := Ground.phase }, { on := 22, ground := Ground.phase }, { on := 23, ground := Ground.phase }, { on := 24, ground := Ground.phase }, { on := 25, ground := Ground.phase }, { on := 26, ground := Ground.phase }, { on := 27, ground := Ground.phase }, { on := 28, ground := Ground.phase }, { on := 29, ground := Ground.phase }, { on := 30, ground := Ground.phase }, { on := 31, ground := Ground.phase }, { on := 32, ground := Ground.phase }], guard := none }) (v := ?_) rfl (by kernel_rfl) (by kernel_rfl) (by kernel_rfl) (fun _ _ _ h => h) (Or.inl ⟨by rfl, ?_⟩) (by assumption) ?_
          rotate_left
          · intro w hSw
            (try dsimp only at hSw)
            go_simp
            try with_reducible rfl
          try simp only [Act.put, List.setIfInBounds_toArray, List.set_cons_zero, List.set_cons_succ]
          refine wpAnyH_done (by kernel_rfl) ?_ _
          -- region 8]
          all_goals
            have HR4 := Lib.hid hr4
            have HB4 := Lib.hid (bstep (bstep (bstep HB.out (drew_below _)) hb3) hb4)
            clear hr4 hb3 hb4
            go_wp2_with fail
            go_roundw
            case rel => exact ⟨k + 1, _, A4, N1, c4, by omega, rfl, by have := HJ.out; omega, rfl, HN1.out, HN1.out ▸ HR4.out.2, HR4.out.1, HB4.out⟩
            case measure => simp [intOf]
        | false =>
          have hbn' : decide (1 < r.2.1) = bn := by rw [← hbn]; rfl
          clear hbn
          first | (go_region_held_law (fun W' => W'.cell? ⟨b, off + J * 3, none⟩ = some (.int .i64 r.1) ∧ W'.cell? ⟨b, off + J * 3 + 1, none⟩ = some (.int .i64 r.2.1) ∧ W'.cell? ⟨b, off + J * 3 + 2, none⟩ = some (.bool false))
            (first | exact HSS.out _ (Below.refl _ _) | exact HSS.out _ (drew_below _) | exact HSS.out _ (bstep (drew_below _) hb3) | exact HSS.out _ (bstep (bstep (drew_below _) hb3) hb4))
            ((first | (go_at_call 50; (refine (HIm.out _).mono ?_); rintro e w3 ⟨rfl, hb3⟩) | (go_at_call 62; (refine (HMo2.out _ (HRl.out _ (bstep (drew_below _) hb3))).mono ?_); rintro e w4 ⟨A4, c4, rfl, hr4, hb4⟩; rw [HN1.out])))) | fail
          all_goals
            have HR4 := Lib.hid hr4
            have HB4 := Lib.hid (bstep (bstep (bstep HB.out (drew_below _)) hb3) hb4)
            clear hr4 hb3 hb4
            go_wp2_with fail
            go_roundw
            case rel => exact ⟨k + 1, _, A4, N1, c4, by omega, rfl, by have := HJ.out; omega, rfl, HN1.out, HN1.out ▸ HR4.out.2, HR4.out.1, HB4.out⟩
            case measure => simp [intOf]
      · obtain rfl : k = K := by omega
        obtain rfl : z = -1 := by omega
        clear hn
        have hn := HN.out
        have hr := HR.out
        rw [HEx.out] at hn hr
        have HN2 := Lib.hid hn
        have HR2 := Lib.hid hr
        clear hn hr hzz
        go_wp2_with fail
        go_ret2
        exact ⟨A', c', ret_map (by rw [HE.out, HN2.out]) HZ.out.symm, by rw [HE.out]; exact ⟨HR2.out, by rw [HN2.out]; exact HC.out⟩, HB.out⟩
  · obtain ⟨z1, z2⟩ := ne_tests hz
    have HE : Hid (revL L = []) := if_neg hz
    clear hz
    go_wp2_with fail
    go_ret2
    rw [HE.out]
    exact Res.err HB1.out
#print axioms ref_all
#print axioms ref_Norm
#print axioms ref_Reverse
end Go.Proofs.Ytnblpooimgpgoaa.Iso
