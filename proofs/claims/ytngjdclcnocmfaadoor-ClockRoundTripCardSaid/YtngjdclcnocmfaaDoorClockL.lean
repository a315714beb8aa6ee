/- Contracts of read and Parse of the program. -/
import Derived.Test.YtngjdclcnocmfaaDoorClockJ
import Derived.StillTailTactics
namespace Go.Proofs.YtngjdclcnocmfaaDoor.Clock
open Go.ChangeShapes Go.WideShapes Go.RowKit
set_option linter.unusedVariables false
set_option maxRecDepth 100000

theorem str_get? (s : ByteArray) {k : Nat} (h : k < s.size) : s.data.toList[k]? = some s[k] := by
  rw [Array.getElem?_toList]
  exact Array.getElem?_eq_getElem h
theorem str_len (s : ByteArray) : s.data.toList.length = s.size := by rw [Array.length_toList]; rfl
theorem take_snoc_of {α : Type} {l : List α} {k : Nat} {z : α} (h : l[k]? = some z) : l.take (k + 1) = l.take k ++ [z] := by
  rw [List.take_add_one, h]; rfl
theorem isD_no {b : UInt8} (h : b.toNat < 48 ∨ 57 < b.toNat) : isD b = false := by
  unfold isD
  rcases h with h | h
  · rw [decide_eq_false (by omega)]; rfl
  · rw [decide_eq_false (p := b.toNat ≤ 57) (by omega), Bool.and_false]
def RS.list (s : RS) : List Int := [s.a, s.b, s.c, s.d]
theorem RS.at_ {s : RS} (h : s.f < 4) : s.list[s.f]? = some s.get := by
  obtain ⟨f, a, b, c, d⟩ := s
  simp only at h
  have : f = 0 ∨ f = 1 ∨ f = 2 ∨ f = 3 := by omega
  rcases this with rfl | rfl | rfl | rfl <;> rfl
theorem RS.set_ {s : RS} (h : s.f < 4) (x : Int) : s.list.set s.f x = (s.put x).list := by
  obtain ⟨f, a, b, c, d⟩ := s
  simp only at h
  have : f = 0 ∨ f = 1 ∨ f = 2 ∨ f = 3 := by omega
  rcases this with rfl | rfl | rfl | rfl <;> rfl
theorem rstep_no {s : RS} {x : UInt8} (h : isD x = false) : rstep s x = s.next := by unfold rstep; rw [if_neg (by rw [h]; decide)]
theorem rstep_stay {s : RS} {x : UInt8} (h : isD x = true) (hn : ¬ (s.f < 4 ∧ s.get ≤ 2147483647)) : rstep s x = s := by unfold rstep; rw [if_pos h, if_neg hn]
theorem rstep_dig {s : RS} {x : UInt8} (h : isD x = true) (hn : s.f < 4 ∧ s.get ≤ 2147483647) : rstep s x = s.dig x := by unfold rstep; rw [if_pos h, if_pos hn]

set_option maxHeartbeats 1600000 in
theorem clock_read (s : ByteArray) (w : World) (hm : s.size ≤ 9223372036854775807) (hu : Uni w) : Calls Tryd.prog 34 #[.string s] w fun e w' => e = .returned (.int .i64 (readS s.data.toList).sum) ∧ Below w.heap.size w w' := by
  have HL := Lib.hid (str_len s)
  have HU := Lib.hid hu
  have HN := Lib.hid (IntsB.new w [0, 0, 0, 0] 49)
  clear hu
  go_enter Tryd.func34, Tryd.ntmps34
  go_wp2_with fail
  go_loopw [4, 11] (fun v i wr => ∃ (k : Nat) (rs : RS), k ≤ s.size ∧ rs = readS (s.data.toList.take k) ∧ v = .int .i64 (rs.f : Int) ∧ i = .int .i64 (k : Int) ∧ IntsB wr w.heap.size rs.list ∧ Below w.heap.size w wr) (fun _ i _ => s.size - (intOf i).toNat)
  case atStart => exact ⟨0, RS.zero, Nat.zero_le _, rfl, rfl, rfl, HN.out, below_alloc _ _⟩
  case round =>
    obtain ⟨k, rs, hk, hrs, rfl, rfl, hblk, hbel⟩ := hrel
    have HK := Lib.hid hblk
    have HB := Lib.hid hbel
    have hok : rs.Ok := by rw [hrs]; exact readS_ok _
    have hf : rs.f ≤ k := by rw [hrs]; exact Nat.le_trans (readS_f _) (List.length_take_le _ _)
    have HRS := Lib.hid hrs
    clear hblk hbel hrs
    rcases Nat.lt_or_ge k s.size with hlt | hge
    · have hst : readS (s.data.toList.take (k + 1)) = rstep rs s[k] := by rw [take_snoc_of (str_get? s hlt), readS_snoc, HRS.out]
      have HST := Lib.hid hst
      clear hst
      have hkl : (k : Int) < (s.size : Int) := by omega
      rcases Nat.lt_or_ge s[k].toNat 48 with h1 | h1
      · have hi : ((s[k].toNat : Nat) : Int) < 48 := by omega
        have HX := Lib.hid (rstep_no (s := rs) (isD_no (Or.inl h1)))
        have HOK := Lib.hid hok
        clear hok h1
        go_wp2_with fail
        go_roundw
        case rel => exact ⟨k + 1, rs.next, by omega, by rw [HST.out, HX.out], by show _ = Value.int .i64 ((rs.f + 1 : Nat) : Int); go_num, by go_num, HK.out, HB.out⟩
        case measure => simp [intOf]; omega
      · have hi : decide (((s[k].toNat : Nat) : Int) < 48) = false := decide_eq_false (by omega)
        rcases Nat.lt_or_ge 57 s[k].toNat with h2 | h2
        · have hi2 : (57 : Int) < ((s[k].toNat : Nat) : Int) := by omega
          have HX := Lib.hid (rstep_no (s := rs) (isD_no (Or.inr h2)))
          have HOK := Lib.hid hok
          clear hok h1 h2
          go_wp2_with fail
          go_roundw
          case rel => exact ⟨k + 1, rs.next, by omega, by rw [HST.out, HX.out], by show _ = Value.int .i64 ((rs.f + 1 : Nat) : Int); go_num, by go_num, HK.out, HB.out⟩
          case measure => simp [intOf]; omega
        · have hi2 : decide ((57 : Int) < ((s[k].toNat : Nat) : Int)) = false := decide_eq_false (by omega)
          have HDG := Lib.hid (isD_iff.mpr ⟨h1, h2⟩)
          rcases Nat.lt_or_ge rs.f 4 with h4 | h4
          · have hi3 : ((rs.f : Nat) : Int) < 4 := by omega
            have hc := HK.out.cell (RS.at_ h4)
            have hcf := hc.2
            replace hc := hc.1
            have hgb := hok.get
            have HPUT := Lib.hid (RS.set_ (s := rs) h4)
            have hi4 : (0 : Int) ≤ ((rs.f : Nat) : Int) := by omega
            obtain ⟨g, hg⟩ : ∃ g, g = rs.get := ⟨_, rfl⟩
            obtain ⟨fd, hfd⟩ : ∃ fd, fd = rs.f := ⟨_, rfl⟩
            rw [← hg] at hc hgb
            rw [← hfd] at hi3 hi4 hc hcf hf h4 HPUT
            rw [← hfd]
            have HG := Lib.hid hg
            have HFD := Lib.hid hfd
            have HOK := Lib.hid hok
            clear hg hfd hok
            rcases Int.lt_or_le 2147483647 g with h5 | h5
            · have hi5 : decide (g ≤ 2147483647) = false := decide_eq_false (by omega)
              have HX := Lib.hid (rstep_stay (s := rs) HDG.out (fun k => by have := k.2; rw [← HG.out] at this; omega))
              clear h1 h2 h4 h5
              go_wp2_with fail
              go_roundw
              case rel => exact ⟨k + 1, rs, by omega, by rw [HST.out, HX.out], by rw [HFD.out], by go_num, HK.out, HB.out⟩
              case measure => simp [intOf]; omega
            · have HX := Lib.hid (rstep_dig (s := rs) HDG.out ⟨by rw [← HFD.out]; exact h4, by rw [← HG.out]; exact h5⟩)
              have d1 : (48 : Int) ≤ (s[k].toNat : Int) := by omega
              have d2 : (s[k].toNat : Int) ≤ 57 := by omega
              have w1' : IntKind.i64.wrap (10 * g) = 10 * g := wrap_id (by omega) (by omega)
              have w2' : IntKind.u8.wrap ((s[k].toNat : Int) - 48) = (s[k].toNat : Int) - 48 := by rw [IntKind.wrap_u8]; omega
              have w3' : IntKind.i64.wrap ((s[k].toNat : Int) - 48) = (s[k].toNat : Int) - 48 := wrap_id (by omega) (by omega)
              have w4' : IntKind.i64.wrap (10 * g + ((s[k].toNat : Int) - 48)) = 10 * g + ((s[k].toNat : Int) - 48) := wrap_id (by omega) (by omega)
              clear h1 h2 h4
              go_wp2_with fail
              go_still_tail 11, (by kernel_rfl)
              change wpList _ _ _ _ _ wr.drew
              have hc2 : wr.drew.cell? ⟨w.heap.size, fd, none⟩ = some (.int .i64 g) := hc
              have hf2 : wr.drew.frozen? ⟨w.heap.size, fd, none⟩ = false := hcf
              have HK2 : Hid (IntsB (wr.drew.setCell ⟨w.heap.size, fd, none⟩ (.int .i64 (10 * g + ((s[k].toNat : Int) - 48)))) w.heap.size (rs.dig s[k]).list) := by
                unfold RS.dig
                rw [← HG.out, ← HPUT.out]
                exact IntsB.store (w := wr.drew) (HK.out.keep rfl) fd _
              have HB2 : Hid (Below w.heap.size w (wr.drew.setCell ⟨w.heap.size, fd, none⟩ (.int .i64 (10 * g + ((s[k].toNat : Int) - 48))))) := (HB.out.drew).setCell (Nat.le_refl _) _
              have HFF := Lib.hid (put_f rs (10 * rs.get + ((s[k].toNat : Int) - 48)))
              clear hc hcf
              go_wp2_with fail
              go_roundw
              case rel => exact ⟨k + 1, rs.dig s[k], by omega, by rw [HST.out, HX.out], by unfold RS.dig; rw [HFF.out, HFD.out], by go_num, HK2.out, HB2.out⟩
              case measure => simp [intOf]; omega
          · have hi3 : decide (((rs.f : Nat) : Int) < 4) = false := decide_eq_false (by omega)
            have HX := Lib.hid (rstep_stay (s := rs) HDG.out (fun k => by have := k.1; omega))
            have HOK := Lib.hid hok
            clear h1 h2 hok
            go_wp2_with fail
            go_roundw
            case rel => exact ⟨k + 1, rs, by omega, by rw [HST.out, HX.out], rfl, by go_num, HK.out, HB.out⟩
            case measure => simp [intOf]; omega
    · obtain rfl : k = s.size := by omega
      have hre : readS s.data.toList = rs := by rw [HRS.out, ← HL.out, List.take_length]
      obtain ⟨f, a, b, c, d⟩ := rs
      obtain ⟨a0, a1, b0, b1, c0, c1, d0, d1⟩ := hok
      simp only at a0 a1 b0 b1 c0 c1 d0 d1 hf
      have HRE : Hid ((readS s.data.toList).sum = 86400 * a + 3600 * b + 60 * c + d) := by rw [hre]; rfl
      have k0 := (HK.out.cell (k := 0) rfl).1
      have k1 := (HK.out.cell (k := 1) rfl).1
      have k2 := (HK.out.cell (k := 2) rfl).1
      have k3 := (HK.out.cell (k := 3) rfl).1
      obtain ⟨u0, u1, u2, u3⟩ := (HU.out.on HB.out).cells
      clear hre
      go_wp2_with fail
      clear u0 u1 u2 u3
      have i0 : ∀ w : World, (Instr.index 49 (.agg #[.int .i64 86400, .int .i64 3600, .int .i64 60, .int .i64 1]) (.int .i64 0)).run Tryd.prog w = .ok (.int .i64 86400) w := fun _ => by kernel_rfl
      have i1 : ∀ w : World, (Instr.index 49 (.agg #[.int .i64 86400, .int .i64 3600, .int .i64 60, .int .i64 1]) (.int .i64 1)).run Tryd.prog w = .ok (.int .i64 3600) w := fun _ => by kernel_rfl
      have i2 : ∀ w : World, (Instr.index 49 (.agg #[.int .i64 86400, .int .i64 3600, .int .i64 60, .int .i64 1]) (.int .i64 2)).run Tryd.prog w = .ok (.int .i64 60) w := fun _ => by kernel_rfl
      have i3 : ∀ w : World, (Instr.index 49 (.agg #[.int .i64 86400, .int .i64 3600, .int .i64 60, .int .i64 1]) (.int .i64 3)).run Tryd.prog w = .ok (.int .i64 1) w := fun _ => by kernel_rfl
      go_rounds 5
      go_ret
      exact ⟨ret_int (by rw [HRE.out]), HB.out⟩
theorem fmtS_eq {n : Nat} (hn : n ≤ 2147483647) (s : ByteArray) : fmtS (n : Int) = s ↔ fmtL n = s.data.toList := by
  rw [fmtS_yes hn]
  constructor
  · intro h; rw [← h]
  · intro h; rw [h]
def PrsRes (s : ByteArray) (w : World) (e : Ending) (w' : World) : Prop := ∃ x er, e = .returned (.tuple #[.int .i64 x, .int .i64 er]) ∧ ParR s.data.toList x er ∧ Below w.heap.size w w'
set_option maxHeartbeats 1600000 in
theorem clock_Parse (s : ByteArray) (w : World) (hm : s.size ≤ 9223372036854775807) (hl : Laid w) : Calls Tryd.prog 16 #[.string s] w (PrsRes s w) := by
  have HL := Lib.hid hl
  have HR := Lib.hid (clock_read s w hm hl.2)
  obtain ⟨x, hx⟩ : ∃ x, x = (readS s.data.toList).sum := ⟨_, rfl⟩
  rw [← hx] at HR
  have HX := Lib.hid hx
  clear hl hx
  cases h : mom x with
  | false =>
    have HN := Lib.hid (ParR.read_no (L := s.data.toList) (Or.inl (by rw [← HX.out]; exact h)))
    have H := Lib.hid (rngE_no h)
    clear h
    go_enter Tryd.func16, Tryd.ntmps16
    go_wp2_with fail
    refine HR.out.mono ?_
    rintro e w1 ⟨rfl, hb⟩
    have HB := Lib.hid hb
    have HL1 := Lib.hid (HL.out.on hb)
    clear hb
    go_wp2_with fail
    refine (clock_Format x w1 HL1.out).mono ?_
    rintro e w2 ⟨rfl, hb⟩
    have HB2 := Lib.hid (bstep HB.out hb)
    clear hb
    rw [H.out]
    go_wp2_with fail
    go_ret2
    exact ⟨0, 3, rfl, HN.out, HB2.out⟩
  | true =>
    have H := Lib.hid (rngE_yes h)
    have HH := Lib.hid h
    obtain ⟨F, hF⟩ : ∃ F, F = fmtS x := ⟨_, rfl⟩
    have HF := Lib.hid hF
    clear h hF
    obtain ⟨n, hn, hn2⟩ := mom_nat HH.out
    by_cases he : F = s
    · have q : (F.toList == s.toList) = true := by rw [he]; exact beq_self_eq_true _
      have HP : Hid (ParR s.data.toList x 0) := by
        have := ParR.read_yes (L := s.data.toList) (by rw [← HX.out]; exact HH.out) (by rw [← HX.out, hn]; exact (fmtS_eq hn2 s).mp (by rw [← hn, ← HF.out, he]))
        rw [← HX.out] at this
        exact this
      clear he hn hn2
      go_enter Tryd.func16, Tryd.ntmps16
      go_wp2_with fail
      refine HR.out.mono ?_
      rintro e w1 ⟨rfl, hb⟩
      have HB := Lib.hid hb
      have HL1 := Lib.hid (HL.out.on hb)
      clear hb
      go_wp2_with fail
      refine (clock_Format x w1 HL1.out).mono ?_
      rintro e w2 ⟨rfl, hb⟩
      have HB2 := Lib.hid (bstep HB.out hb)
      clear hb
      rw [H.out, ← HF.out]
      go_wp2_with fail
      go_ret2
      exact ⟨x, 0, rfl, HP.out, HB2.out⟩
    · have q : (F.toList == s.toList) = false := by
        rw [beq_eq_false_iff_ne]
        intro k
        rw [ByteArray.toList_eq, ByteArray.toList_eq] at k
        exact he (ByteArray.ext (Array.toList_inj.mp k))
      have HP : Hid (ParR s.data.toList 0 3) := by
        refine ParR.read_no (Or.inr ?_)
        rw [← HX.out, hn]
        intro k
        exact he (by rw [HF.out, hn]; exact (fmtS_eq hn2 s).mpr k)
      clear he hn hn2
      go_enter Tryd.func16, Tryd.ntmps16
      go_wp2_with fail
      refine HR.out.mono ?_
      rintro e w1 ⟨rfl, hb⟩
      have HB := Lib.hid hb
      have HL1 := Lib.hid (HL.out.on hb)
      clear hb
      go_wp2_with fail
      refine (clock_Format x w1 HL1.out).mono ?_
      rintro e w2 ⟨rfl, hb⟩
      have HB2 := Lib.hid (bstep HB.out hb)
      clear hb
      rw [H.out, ← HF.out]
      go_wp2_with fail
      go_ret2
      exact ⟨0, 3, rfl, HP.out, HB2.out⟩
#print axioms clock_Parse
#print axioms clock_read
end Go.Proofs.YtngjdclcnocmfaaDoor.Clock
