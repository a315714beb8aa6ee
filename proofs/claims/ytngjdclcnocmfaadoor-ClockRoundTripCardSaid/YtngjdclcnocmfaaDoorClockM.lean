/- Contract of Parse of the reference. -/
import Derived.Test.YtngjdclcnocmfaaDoorClockK
import Derived.Test.YtngjdclcnocmfaaDoorClockL
namespace Go.Proofs.YtngjdclcnocmfaaDoor.Clock
open Go.ChangeShapes Go.WideShapes Go.RowKit
set_option linter.unusedVariables false
set_option maxRecDepth 100000

theorem ParR.no {L : List UInt8} (h : ∀ t : Nat, t ≤ 2147483647 → fmtL t ≠ L) : ParR L 0 3 := Or.inr ⟨rfl, rfl, h⟩
theorem ParR.long {L : List UInt8} (h : 20 < L.length) : ParR L 0 3 := ParR.no fun t ht e => by
  have := fmtL_length ht
  rw [e] at this; omega
theorem ParR.stop {L : List UInt8} (h : prun RS.zero L = none) : ParR L 0 3 := ParR.no fun t ht e => by
  subst e
  rw [(read_fmt ht).2] at h; cases h
theorem ParR.bad {L : List UInt8} {rs : RS} (h : prun RS.zero L = some rs) (hb : 24855 < rs.a ∨ 23 < rs.b ∨ 59 < rs.c ∨ 59 < rs.d) : ParR L 0 3 := ParR.no fun t ht e => by
  subst e
  rw [(read_fmt ht).2] at h
  cases h
  simp only [RS.of] at hb
  omega
theorem ParR.form {L : List UInt8} {rs : RS} (h : prun RS.zero L = some rs) (hb : mom rs.sum = false ∨ fmtL rs.sum.toNat ≠ L) : ParR L 0 3 := ParR.no fun t ht e => by
  subst e
  rw [(read_fmt ht).2] at h
  cases h
  rw [of_sum] at hb
  rcases hb with hb | hb
  · rw [mom_iff.mpr ⟨by omega, by omega⟩] at hb; cases hb
  · exact hb rfl
theorem ParR.yes {L : List UInt8} {x : Int} (hm : mom x = true) (hf : fmtL x.toNat = L) : ParR L x 0 := Or.inl ⟨rfl, hm, hf⟩
theorem pstep_mark_over {s : RS} {x : UInt8} (h : x.toNat = 32 ∨ x.toNat = 58) (hf : 3 < s.f + 1) : pstep s x = none := by unfold pstep; rw [if_pos h, if_pos hf]
theorem pstep_mark_next {s : RS} {x : UInt8} (h : x.toNat = 32 ∨ x.toNat = 58) (hf : ¬ 3 < s.f + 1) : pstep s x = some s.next := by unfold pstep; rw [if_pos h, if_neg hf]
theorem pstep_bad {s : RS} {x : UInt8} (h : ¬ (x.toNat = 32 ∨ x.toNat = 58)) (hb : ¬ (isD x = true ∧ s.get ≤ 2147483647)) : pstep s x = none := by unfold pstep; rw [if_neg h, if_neg hb]
theorem pstep_dig {s : RS} {x : UInt8} (h : ¬ (x.toNat = 32 ∨ x.toNat = 58)) (hb : isD x = true ∧ s.get ≤ 2147483647) : pstep s x = some (s.dig x) := by unfold pstep; rw [if_neg h, if_pos hb]

set_option maxHeartbeats 1600000 in
theorem ref_Parse (s : ByteArray) (w : World) (hm : s.size ≤ 9223372036854775807) : Calls Tryd.prog 17 #[.string s] w (PrsRes s w) := by
  have HL := Lib.hid (str_len s)
  rcases Nat.lt_or_ge 20 s.size with hbig | hsm
  · have i1 : (20 : Int) < (s.size : Int) := by omega
    have HP := Lib.hid (ParR.long (L := s.data.toList) (by rw [HL.out]; exact hbig))
    clear hbig
    go_enter Tryd.func17, Tryd.ntmps17
    go_wp2_with fail
    go_ret2
    exact ⟨0, 3, rfl, HP.out, Below.refl _ _⟩
  · have i1 : decide ((20 : Int) < (s.size : Int)) = false := decide_eq_false (by omega)
    have HN := Lib.hid (IntsB.new w [0, 0, 0, 0] 3)
    go_enter Tryd.func17, Tryd.ntmps17
    go_wp2_with fail
    go_loopw [5, 6] (fun v i wr => ∃ (k : Nat) (rs : RS), k ≤ s.size ∧ prun RS.zero (s.data.toList.take k) = some rs ∧ v = .int .i64 (rs.f : Int) ∧ i = .int .i64 (k : Int) ∧ IntsB wr w.heap.size rs.list ∧ Below w.heap.size w wr) (fun _ i _ => s.size - (intOf i).toNat)
    case atStart => exact ⟨0, RS.zero, Nat.zero_le _, rfl, rfl, rfl, HN.out, below_alloc _ _⟩
    case round =>
      obtain ⟨k, rs, hk, hpr, rfl, rfl, hblk, hbel⟩ := hrel
      have HK := Lib.hid hblk
      have HB := Lib.hid hbel
      obtain ⟨hf, hok⟩ := prun_inv hpr (by decide) RS.Ok.zero
      have HPR := Lib.hid hpr
      clear hblk hbel hpr
      rcases Nat.lt_or_ge k s.size with hlt | hge
      · have hkl : (k : Int) < (s.size : Int) := by omega
        by_cases c1 : s[k].toNat = 32
        · have e1 : (((s[k].toNat : Nat) : Int) == 32) = true := by rw [c1]; rfl
          have hmk : s[k].toNat = 32 ∨ s[k].toNat = 58 := Or.inl c1
          clear c1
          rcases Nat.lt_or_ge 2 rs.f with h3 | h3
          · have i3 : (3 : Int) < ((rs.f : Nat) : Int) + 1 := by omega
            have HP := Lib.hid (ParR.stop (L := s.data.toList) (prun_none (k := k + 1) (by rw [take_snoc_of (str_get? s hlt), prun_snoc HPR.out, pstep_mark_over hmk (by omega)])))
            clear hmk h3 hok
            go_wp2_with fail
            go_ret2
            exact ⟨0, 3, rfl, HP.out, HB.out⟩
          · have i3 : decide ((3 : Int) < ((rs.f : Nat) : Int) + 1) = false := decide_eq_false (by omega)
            have HP := Lib.hid (show prun RS.zero (s.data.toList.take (k + 1)) = some rs.next by rw [take_snoc_of (str_get? s hlt), prun_snoc HPR.out, pstep_mark_next hmk (by omega)])
            clear hmk h3 hok
            go_wp2_with fail
            go_roundw
            case rel => exact ⟨k + 1, rs.next, by omega, HP.out, by show _ = Value.int .i64 ((rs.f + 1 : Nat) : Int); go_num, by go_num, HK.out, HB.out⟩
            case measure => simp [intOf]; omega
        · have e1 : (((s[k].toNat : Nat) : Int) == 32) = false := beq_false_of_ne (by omega)
          by_cases c2 : s[k].toNat = 58
          · have e2 : (((s[k].toNat : Nat) : Int) == 58) = true := by rw [c2]; rfl
            have hmk : s[k].toNat = 32 ∨ s[k].toNat = 58 := Or.inr c2
            clear c1 c2
            rcases Nat.lt_or_ge 2 rs.f with h3 | h3
            · have i3 : (3 : Int) < ((rs.f : Nat) : Int) + 1 := by omega
              have HP := Lib.hid (ParR.stop (L := s.data.toList) (prun_none (k := k + 1) (by rw [take_snoc_of (str_get? s hlt), prun_snoc HPR.out, pstep_mark_over hmk (by omega)])))
              clear hmk h3 hok
              go_wp2_with fail
              go_ret2
              exact ⟨0, 3, rfl, HP.out, HB.out⟩
            · have i3 : decide ((3 : Int) < ((rs.f : Nat) : Int) + 1) = false := decide_eq_false (by omega)
              have HP := Lib.hid (show prun RS.zero (s.data.toList.take (k + 1)) = some rs.next by rw [take_snoc_of (str_get? s hlt), prun_snoc HPR.out, pstep_mark_next hmk (by omega)])
              clear hmk h3 hok
              go_wp2_with fail
              go_roundw
              case rel => exact ⟨k + 1, rs.next, by omega, HP.out, by show _ = Value.int .i64 ((rs.f + 1 : Nat) : Int); go_num, by go_num, HK.out, HB.out⟩
              case measure => simp [intOf]; omega
          · have e2 : (((s[k].toNat : Nat) : Int) == 58) = false := beq_false_of_ne (by omega)
            have hnm : ¬ (s[k].toNat = 32 ∨ s[k].toNat = 58) := by omega
            clear c1 c2
            rcases Nat.lt_or_ge s[k].toNat 48 with h1 | h1
            · have hi : ((s[k].toNat : Nat) : Int) < 48 := by omega
              have HP := Lib.hid (ParR.stop (L := s.data.toList) (prun_none (k := k + 1) (by rw [take_snoc_of (str_get? s hlt), prun_snoc HPR.out, pstep_bad hnm (fun q => by have := isD_no (Or.inl h1); rw [q.1] at this; cases this)])))
              clear hnm hok h1
              go_wp2_with fail
              go_ret2
              exact ⟨0, 3, rfl, HP.out, HB.out⟩
            · have hi : decide (((s[k].toNat : Nat) : Int) < 48) = false := decide_eq_false (by omega)
              rcases Nat.lt_or_ge 57 s[k].toNat with h2 | h2
              · have hi2 : (57 : Int) < ((s[k].toNat : Nat) : Int) := by omega
                have HP := Lib.hid (ParR.stop (L := s.data.toList) (prun_none (k := k + 1) (by rw [take_snoc_of (str_get? s hlt), prun_snoc HPR.out, pstep_bad hnm (fun q => by have := isD_no (Or.inr h2); rw [q.1] at this; cases this)])))
                clear hnm hok h1 h2
                go_wp2_with fail
                go_ret2
                exact ⟨0, 3, rfl, HP.out, HB.out⟩
              · have hi2 : decide ((57 : Int) < ((s[k].toNat : Nat) : Int)) = false := decide_eq_false (by omega)
                have HDG := Lib.hid (isD_iff.mpr ⟨h1, h2⟩)
                have h4 : rs.f < 4 := by omega
                have hi3 : ((rs.f : Nat) : Int) < 4 := by omega
                have hc := HK.out.cell (RS.at_ h4)
                have hcf := hc.2
                replace hc := hc.1
                have hgb := hok.get
                have HPUT := Lib.hid (RS.set_ (s := rs) h4)
                have hi4 : (0 : Int) ≤ ((rs.f : Nat) : Int) := by omega
                obtain ⟨g, hg⟩ : ∃ g, g = rs.get := ⟨_, rfl⟩
                obtain ⟨fd, hfd⟩ : ∃ fd, fd = rs.f := ⟨_, rfl⟩
                rw [← hg] at hc hgb
                rw [← hfd] at hi3 hi4 hc hcf hf h4 HPUT
                rw [← hfd]
                have HG := Lib.hid hg
                have HFD := Lib.hid hfd
                clear hg hfd
                rcases Int.lt_or_le 2147483647 g with h5 | h5
                · have HP := Lib.hid (ParR.stop (L := s.data.toList) (prun_none (k := k + 1) (by rw [take_snoc_of (str_get? s hlt), prun_snoc HPR.out, pstep_bad hnm (fun q => by have := q.2; rw [← HG.out] at this; omega)])))
                  clear hnm hok h1 h2 h4
                  go_wp2_with fail
                  go_ret2
                  exact ⟨0, 3, rfl, HP.out, HB.out⟩
                · have hi5 : decide (2147483647 < g) = false := decide_eq_false (by omega)
                  have HP := Lib.hid (show prun RS.zero (s.data.toList.take (k + 1)) = some (rs.dig s[k]) by rw [take_snoc_of (str_get? s hlt), prun_snoc HPR.out, pstep_dig hnm ⟨HDG.out, by rw [← HG.out]; exact h5⟩])
                  have d1 : (48 : Int) ≤ (s[k].toNat : Int) := by omega
                  have d2 : (s[k].toNat : Int) ≤ 57 := by omega
                  have w1' : IntKind.i64.wrap (10 * g) = 10 * g := wrap_id (by omega) (by omega)
                  have w2' : IntKind.u8.wrap ((s[k].toNat : Int) - 48) = (s[k].toNat : Int) - 48 := by rw [IntKind.wrap_u8]; omega
                  have w3' : IntKind.i64.wrap ((s[k].toNat : Int) - 48) = (s[k].toNat : Int) - 48 := wrap_id (by omega) (by omega)
                  have w4' : IntKind.i64.wrap (10 * g + ((s[k].toNat : Int) - 48)) = 10 * g + ((s[k].toNat : Int) - 48) := wrap_id (by omega) (by omega)
                  clear h1 h2 h4 hnm hok
                  go_wp2_with fail
                  go_still_tail 13, (by kernel_rfl)
                  change wpList _ _ _ _ _ wr.drew
                  have hc2 : wr.drew.cell? ⟨w.heap.size, fd, none⟩ = some (.int .i64 g) := hc
                  have hf2 : wr.drew.frozen? ⟨w.heap.size, fd, none⟩ = false := hcf
                  have HK2 : Hid (IntsB (wr.drew.setCell ⟨w.heap.size, fd, none⟩ (.int .i64 (10 * g + ((s[k].toNat : Int) - 48)))) w.heap.size (rs.dig s[k]).list) := by
                    unfold RS.dig
                    rw [← HG.out, ← HPUT.out]
                    exact IntsB.store (w := wr.drew) (HK.out.keep rfl) fd _
                  have HB2 : Hid (Below w.heap.size w (wr.drew.setCell ⟨w.heap.size, fd, none⟩ (.int .i64 (10 * g + ((s[k].toNat : Int) - 48))))) := (HB.out.drew).setCell (Nat.le_refl _) _
                  have HFF := Lib.hid (put_f rs (10 * rs.get + ((s[k].toNat : Int) - 48)))
                  clear hc hcf
                  go_wp2_with fail
                  go_roundw
                  case rel => exact ⟨k + 1, rs.dig s[k], by omega, HP.out, by unfold RS.dig; rw [HFF.out, HFD.out], by go_num, HK2.out, HB2.out⟩
                  case measure => simp [intOf]; omega
      · obtain rfl : k = s.size := by omega
        have hpe := HPR.out
        rw [← HL.out, List.take_length] at hpe
        have HPE := Lib.hid hpe
        obtain ⟨f, a, b, c, d⟩ := rs
        obtain ⟨a0, a1, b0, b1, c0, c1, d0, d1⟩ := hok
        simp only at a0 a1 b0 b1 c0 c1 d0 d1 hf
        have k0 := (HK.out.cell (k := 0) rfl).1
        have k1 := (HK.out.cell (k := 1) rfl).1
        have k2 := (HK.out.cell (k := 2) rfl).1
        have k3 := (HK.out.cell (k := 3) rfl).1
        clear hpe
        rcases Int.lt_or_le 24855 a with ha | ha
        · have HP := Lib.hid (ParR.bad HPE.out (Or.inl ha))
          go_wp2_with fail
          go_ret2
          exact ⟨0, 3, rfl, HP.out, HB.out⟩
        · have ea : decide (24855 < a) = false := decide_eq_false (by omega)
          rcases Int.lt_or_le 23 b with hb | hb
          · have HP := Lib.hid (ParR.bad HPE.out (Or.inr (Or.inl hb)))
            go_wp2_with fail
            go_ret2
            exact ⟨0, 3, rfl, HP.out, HB.out⟩
          · have eb : decide (23 < b) = false := decide_eq_false (by omega)
            rcases Int.lt_or_le 59 c with hc | hc
            · have HP := Lib.hid (ParR.bad HPE.out (Or.inr (Or.inr (Or.inl hc))))
              go_wp2_with fail
              go_ret2
              exact ⟨0, 3, rfl, HP.out, HB.out⟩
            · have ec : decide (59 < c) = false := decide_eq_false (by omega)
              rcases Int.lt_or_le 59 d with hd | hd
              · have HP := Lib.hid (ParR.bad HPE.out (Or.inr (Or.inr (Or.inr hd))))
                go_wp2_with fail
                go_ret2
                exact ⟨0, 3, rfl, HP.out, HB.out⟩
              · have ed : decide (59 < d) = false := decide_eq_false (by omega)
                have x1 : IntKind.i64.wrap (a * 86400) = a * 86400 := wrap_id (by omega) (by omega)
                have x2 : IntKind.i64.wrap (b * 3600) = b * 3600 := wrap_id (by omega) (by omega)
                have x3 : IntKind.i64.wrap (c * 60) = c * 60 := wrap_id (by omega) (by omega)
                have x4 : IntKind.i64.wrap (a * 86400 + b * 3600) = a * 86400 + b * 3600 := wrap_id (by omega) (by omega)
                have x5 : IntKind.i64.wrap (a * 86400 + b * 3600 + c * 60) = a * 86400 + b * 3600 + c * 60 := wrap_id (by omega) (by omega)
                have x6 : IntKind.i64.wrap (a * 86400 + b * 3600 + c * 60 + d) = a * 86400 + b * 3600 + c * 60 + d := wrap_id (by omega) (by omega)
                obtain ⟨x, hx⟩ : ∃ x, x = a * 86400 + b * 3600 + c * 60 + d := ⟨_, rfl⟩
                have hs : a * 86400 + b * 3600 + c * 60 + d = x := hx.symm
                have HXS := Lib.hid (show (RS.mk f a b c d).sum = x by rw [hx]; simp only [RS.sum]; omega)
                obtain ⟨F, hF⟩ : ∃ F, F = fmtS x := ⟨_, rfl⟩
                have HF := Lib.hid hF
                clear hx hF
                cases h : mom x with
                | false =>
                  have HP := Lib.hid (ParR.form HPE.out (Or.inl (by rw [HXS.out]; exact h)))
                  have H := Lib.hid (rngE_no h)
                  clear h
                  go_wp2_with fail
                  go_quiet (fail)
                  go_wp2_with fail
                  refine (ref_Format x _).mono ?_
                  rintro e w' ⟨rfl, rfl⟩
                  rw [H.out, ← HF.out]
                  go_wp2_with fail
                  go_ret2
                  exact ⟨0, 3, rfl, HP.out, below_drewN HB.out _⟩
                | true =>
                  have H := Lib.hid (rngE_yes h)
                  obtain ⟨n, hn, hn2⟩ := mom_nat h
                  by_cases he : F = s
                  · have q : (F.toList == s.toList) = true := by rw [he]; exact beq_self_eq_true _
                    have HP : Hid (ParR s.data.toList x 0) := ParR.yes h (by rw [hn]; exact (fmtS_eq hn2 s).mp (by rw [← hn, ← HF.out, he]))
                    clear he hn hn2 h
                    go_wp2_with fail
                    go_quiet (fail)
                    go_wp2_with fail
                    refine (ref_Format x _).mono ?_
                    rintro e w' ⟨rfl, rfl⟩
                    rw [H.out, ← HF.out]
                    go_wp2_with fail
                    go_ret2
                    exact ⟨x, 0, rfl, HP.out, below_drewN HB.out _⟩
                  · have q : (F.toList == s.toList) = false := by
                      rw [beq_eq_false_iff_ne]
                      intro k
                      rw [ByteArray.toList_eq, ByteArray.toList_eq] at k
                      exact he (ByteArray.ext (Array.toList_inj.mp k))
                    have HP : Hid (ParR s.data.toList 0 3) := by
                      refine ParR.form HPE.out (Or.inr ?_)
                      rw [HXS.out, hn]
                      intro k
                      exact he (by rw [HF.out, hn]; exact (fmtS_eq hn2 s).mpr k)
                    clear he hn hn2 h
                    go_wp2_with fail
                    go_quiet (fail)
                    go_wp2_with fail
                    refine (ref_Format x _).mono ?_
                    rintro e w' ⟨rfl, rfl⟩
                    rw [H.out, ← HF.out]
                    go_wp2_with fail
                    go_ret2
                    exact ⟨0, 3, rfl, HP.out, below_drewN HB.out _⟩
#print axioms ref_Parse
end Go.Proofs.YtngjdclcnocmfaaDoor.Clock
