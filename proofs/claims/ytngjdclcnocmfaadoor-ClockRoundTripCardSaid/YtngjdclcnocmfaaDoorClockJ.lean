/- The listed tables; contracts of split, twoDigits, Format. -/
import Derived.Test.YtngjdclcnocmfaaDoorClockF
import Derived.Test.YtngjdclcnocmfaaDoorShelf
import Derived.Deep.RegionHeld3
import Derived.Lib.ItoaNum
import Derived.Lib.ItoaLen
import Derived.Lib.AppendIntMem
namespace Go.Proofs.YtngjdclcnocmfaaDoor.Clock
open Go.ChangeShapes Go.WideShapes Go.RowKit
set_option linter.unusedVariables false
set_option maxRecDepth 100000

/-- The table of powers of ten reads as it was laid. -/
def Tab (w : World) : Prop := Lib.TabBelow Tryd.prog w.heap.size w "internal/strconv.uint64pow10" .u64 Lib.pow10Tab
theorem Tab.on {w w' : World} (h : Tab w) (hb : Below w.heap.size w w') : Tab w' := fun w2 h2 => h w2 (hb.trans (h2.mono hb.size))
theorem Tab.here {w : World} (h : Tab w) : Lib.TabIs Tryd.prog w "internal/strconv.uint64pow10" .u64 Lib.pow10Tab := h w (Below.refl _ _)
/-- So do the units. -/
def Uni (w : World) : Prop := Lib.TabBelow Tryd.prog w.heap.size w "papermill/clock.units" .i64 [86400, 3600, 60, 1]
theorem Uni.on {w w' : World} (h : Uni w) (hb : Below w.heap.size w w') : Uni w' := fun w2 h2 => h w2 (hb.trans (h2.mono hb.size))
theorem Uni.here {w : World} (h : Uni w) : Lib.TabIs Tryd.prog w "papermill/clock.units" .i64 [86400, 3600, 60, 1] := h w (Below.refl _ _)
def Laid (w : World) : Prop := Tab w ∧ Uni w
theorem Laid.on {w w' : World} (h : Laid w) (hb : Below w.heap.size w w') : Laid w' := ⟨h.1.on hb, h.2.on hb⟩

theorem gUni : Tryd.prog.globalNamed "papermill/clock.units" = some 0 := by kernel_rfl
theorem Uni.cells {w : World} (h : Uni w) : w.cell? ⟨0, 0, none⟩ = some (.int .i64 86400) ∧ w.cell? ⟨0, 1, none⟩ = some (.int .i64 3600) ∧ w.cell? ⟨0, 2, none⟩ = some (.int .i64 60) ∧ w.cell? ⟨0, 3, none⟩ = some (.int .i64 1) :=
  ⟨h.here.cell gUni 0 (by decide), h.here.cell gUni 1 (by decide), h.here.cell gUni 2 (by decide), h.here.cell gUni 3 (by decide)⟩

set_option maxHeartbeats 1600000 in
theorem clock_split (n : Nat) (hn : n ≤ 2147483647) (w : World) (hu : Uni w) : Calls Tryd.prog 30 #[.int .i64 (n : Int)] w fun e w' => e = .returned (.agg #[.int .i64 ((n / 86400 : Nat) : Int), .int .i64 ((n % 86400 / 3600 : Nat) : Int), .int .i64 ((n % 3600 / 60 : Nat) : Int), .int .i64 ((n % 60 : Nat) : Int)]) ∧ Below w.heap.size w w' := by
  have hu2 : Uni ((w.alloc (.cells #[.int .i64 0, .int .i64 0, .int .i64 0, .int .i64 0] 49)).alloc (.cells #[.int .i64 0, .int .i64 0, .int .i64 0, .int .i64 0] 49)) := (hu.on (below_alloc _ _)).on (below_alloc _ _)
  obtain ⟨u0, u1, u2, u3⟩ := hu2.cells
  have HU := Lib.hid hu
  clear hu hu2
  go_enter Tryd.func30, Tryd.ntmps30
  go_wp2_with fail
  clear u0 u1 u2 u3
  have i0 : ∀ w : World, (Instr.index 49 (.agg #[.int .i64 86400, .int .i64 3600, .int .i64 60, .int .i64 1]) (.int .i64 0)).run Tryd.prog w = .ok (.int .i64 86400) w := fun _ => by kernel_rfl
  have i1 : ∀ w : World, (Instr.index 49 (.agg #[.int .i64 86400, .int .i64 3600, .int .i64 60, .int .i64 1]) (.int .i64 1)).run Tryd.prog w = .ok (.int .i64 3600) w := fun _ => by kernel_rfl
  have i2 : ∀ w : World, (Instr.index 49 (.agg #[.int .i64 86400, .int .i64 3600, .int .i64 60, .int .i64 1]) (.int .i64 2)).run Tryd.prog w = .ok (.int .i64 60) w := fun _ => by kernel_rfl
  have i3 : ∀ w : World, (Instr.index 49 (.agg #[.int .i64 86400, .int .i64 3600, .int .i64 60, .int .i64 1]) (.int .i64 3)).run Tryd.prog w = .ok (.int .i64 1) w := fun _ => by kernel_rfl
  go_rounds 5
  go_returns
  exact ⟨rfl, ((Below.refl _ _).alloc (Nat.le_refl _) _).alloc (by simp) _⟩

/-- One digit; two digits. -/
def oneS (k : Nat) : ByteArray := ⟨#[UInt8.ofNat (48 + k)]⟩
def twoS (n : Nat) : ByteArray := ⟨(two n).toArray⟩
theorem oneS_size (k : Nat) : (oneS k).size = 1 := rfl
theorem twoS_size (n : Nat) : (twoS n).size = 2 := rfl
theorem twoS_eq (n : Nat) : oneS (n / 10) ++ oneS (n % 10) = twoS n := by
  unfold oneS twoS two
  rw [show (#[UInt8.ofNat (48 + n / 10)] : Array UInt8) = [UInt8.ofNat (48 + n / 10)].toArray from rfl, show (#[UInt8.ofNat (48 + n % 10)] : Array UInt8) = [UInt8.ofNat (48 + n % 10)].toArray from rfl, ByteArray.mk_append_mk]
  rfl
theorem itoa_small (k : Nat) (hk : k < 10) (w : World) : Calls Tryd.prog 31 #[.int .i64 (k : Int)] w fun e w' => e = .returned (.string (oneS k)) ∧ w = w' := by
  refine (Tryd.strconv_Itoa_small k (by omega) w).mono ?_
  rintro e w' ⟨rfl, rfl⟩
  rw [Lib.decDigits_one hk]
  exact ⟨rfl, rfl⟩
theorem grow_below (w : World) (k : Nat) (os : Array Obj) : Below w.heap.size w (Sort.grow (w.drewN k) os) := by
  refine ⟨rfl, rfl, rfl, ?_, fun i hi => ?_⟩
  · show w.heap.size ≤ (w.heap ++ os).size; rw [Array.size_append]; omega
  · show (w.heap ++ os)[i]? = _; rw [Array.getElem?_append_left hi]
theorem clock_two (n : Nat) (hn : n < 100) (w : World) : Calls Tryd.prog 32 #[.int .i64 (n : Int)] w fun e w' => e = .returned (.string (twoS n)) ∧ w = w' := by
  have H1 := Lib.hid (itoa_small (n / 10) (by omega))
  have H2 := Lib.hid (itoa_small (n % 10) (by omega))
  have s1 := oneS_size (n / 10)
  have s2 := oneS_size (n % 10)
  go_enter Tryd.func32, Tryd.ntmps32
  go_wp2_with fail
  refine (H1.out w).mono ?_
  rintro e w' ⟨rfl, rfl⟩
  go_wp2_with fail
  refine (H2.out _).mono ?_
  rintro e w' ⟨rfl, rfl⟩
  go_wp2_with fail
  go_ret
  exact ⟨by rw [← twoS_eq]; rfl, rfl⟩

/-- The digits of a day. -/
def decS (q : Nat) : ByteArray := ⟨(Lib.decDigits q).toArray⟩
theorem decS_size {q : Nat} (h : q < 100000) : (decS q).size ≤ 5 := dec5 h
theorem itoa_day (q : Nat) (hq : q < 100000) (w : World) (ht : Tab w) : Calls Tryd.prog 31 #[.int .i64 (q : Int)] w fun e w' => e = .returned (.string (decS q)) ∧ Below w.heap.size w w' := by
  refine (Tryd.strconv_Itoa q (by omega) (by omega) w ht.here).mono ?_
  rintro e w' ⟨rfl, k, os, rfl⟩
  refine ⟨?_, grow_below w k os⟩
  unfold Lib.itoa
  rw [if_neg (by omega)]; rfl
def spS : ByteArray := ⟨#[32]⟩
def coS : ByteArray := ⟨#[58]⟩
theorem fmt_eq (n : Nat) (hn : n ≤ 2147483647) : decS (n / 86400) ++ spS ++ twoS (n % 86400 / 3600) ++ coS ++ twoS (n % 3600 / 60) ++ coS ++ twoS (n % 60) = fmtS (n : Int) := by
  rw [fmtS_yes hn]
  unfold decS spS twoS coS fmtL
  rw [show (#[32] : Array UInt8) = [32].toArray from rfl, show (#[58] : Array UInt8) = [58].toArray from rfl]
  simp only [ByteArray.mk_append_mk]
  congr 2
  simp [List.append_assoc]

set_option maxHeartbeats 1600000 in
theorem clock_Format (t : Int) (w : World) (hl : Laid w) : Calls Tryd.prog 14 #[.int .i64 t] w fun e w' => e = .returned (.tuple #[.string (fmtS t), .int .i64 (rngE t)]) ∧ Below w.heap.size w w' := by
  cases h : mom t with
  | false =>
    have H := Lib.hid h
    clear h
    go_enter Tryd.func14, Tryd.ntmps14
    go_wp2_with fail
    refine (is_moment _ w).mono ?_
    rintro e w' ⟨rfl, rfl⟩
    rw [H.out]
    go_wp2_with fail
    go_ret2
    exact ⟨by rw [fmtS_no H.out, rngE_no H.out]; rfl, Below.refl _ _⟩
  | true =>
    have H := Lib.hid h
    obtain ⟨n, rfl, hn⟩ := mom_nat h
    have HL := Lib.hid hl
    have hsp := clock_split n hn w hl.2
    have hfe := fmt_eq n hn
    obtain ⟨d, hd⟩ : ∃ d, d = n / 86400 := ⟨_, rfl⟩
    obtain ⟨hh, hhh⟩ : ∃ hh, hh = n % 86400 / 3600 := ⟨_, rfl⟩
    obtain ⟨m, hm⟩ : ∃ m, m = n % 3600 / 60 := ⟨_, rfl⟩
    obtain ⟨s, hs⟩ : ∃ s, s = n % 60 := ⟨_, rfl⟩
    rw [← hd, ← hhh, ← hm, ← hs] at hsp hfe
    have HSP := Lib.hid hsp
    have HFE := Lib.hid hfe
    have HD := Lib.hid (itoa_day d (by omega))
    have HH := Lib.hid (clock_two hh (by omega))
    have HM := Lib.hid (clock_two m (by omega))
    have HS := Lib.hid (clock_two s (by omega))
    have z1 := twoS_size hh
    have z2 := twoS_size m
    have z3 := twoS_size s
    have zz : (decS d).size = 0 ∨ (decS d).size = 1 ∨ (decS d).size = 2 ∨ (decS d).size = 3 ∨ (decS d).size = 4 ∨ (decS d).size = 5 := by have := decS_size (q := d) (by omega); omega
    clear h hl hsp hfe hd hhh hm hs
    rcases zz with z0 | z0 | z0 | z0 | z0 | z0
    all_goals
      go_enter Tryd.func14, Tryd.ntmps14
      go_wp2_with fail
      refine (is_moment _ w).mono ?_
      rintro e w' ⟨rfl, rfl⟩
      rw [H.out]
      go_wp2_with fail
      refine HSP.out.mono ?_
      rintro e w1 ⟨rfl, hb1⟩
      have HB := Lib.hid (bstep hb1 (below_alloc w1 (.cells #[.int .i64 (d : Int), .int .i64 (hh : Int), .int .i64 (m : Int), .int .i64 (s : Int)] 49)))
      have HT : Hid (Tab (w1.alloc (.cells #[.int .i64 (d : Int), .int .i64 (hh : Int), .int .i64 (m : Int), .int .i64 (s : Int)] 49)).drew) := (HL.out.on (bstep HB.out ((Below.refl _ _).drew))).1
      have HBK : Hid (IntsB (w1.alloc (.cells #[.int .i64 (d : Int), .int .i64 (hh : Int), .int .i64 (m : Int), .int .i64 (s : Int)] 49)).drew w1.heap.size [(d : Int), (hh : Int), (m : Int), (s : Int)]) := (IntsB.new w1 [(d : Int), (hh : Int), (m : Int), (s : Int)] 49).keep rfl
      have KE : Hid (∀ W : World, IntsB W w1.heap.size [(d : Int), (hh : Int), (m : Int), (s : Int)] → W.cell? ⟨w1.heap.size, 0, none⟩ = some (.int .i64 (d : Int)) ∧ W.cell? ⟨w1.heap.size, 1, none⟩ = some (.int .i64 (hh : Int)) ∧ W.cell? ⟨w1.heap.size, 2, none⟩ = some (.int .i64 (m : Int)) ∧ W.cell? ⟨w1.heap.size, 3, none⟩ = some (.int .i64 (s : Int))) :=
        fun W hW => ⟨(hW.cell (k := 0) rfl).1, (hW.cell (k := 1) rfl).1, (hW.cell (k := 2) rfl).1, (hW.cell (k := 3) rfl).1⟩
      clear hb1
      go_wp2_with fail
      go_region_held3 (fun W' => W'.cell? ⟨w1.heap.size, 0, none⟩ = some (.int .i64 (d : Int)) ∧ W'.cell? ⟨w1.heap.size, 1, none⟩ = some (.int .i64 (hh : Int)) ∧ W'.cell? ⟨w1.heap.size, 2, none⟩ = some (.int .i64 (m : Int)) ∧ W'.cell? ⟨w1.heap.size, 3, none⟩ = some (.int .i64 (s : Int)))
        (first | exact KE.out _ HBK.out | exact KE.out _ (HBK.out.on hb2))
        (first | (go_at_call 31; (with_reducible refine (HD.out _ HT.out).mono ?_); rintro e w2 ⟨rfl, hb2⟩) | (go_at_call 32; (first | (with_reducible refine (HH.out _).mono ?_) | (with_reducible refine (HM.out _).mono ?_) | (with_reducible refine (HS.out _).mono ?_)); rintro e w3 ⟨rfl, rfl⟩))
      have HB3 := Lib.hid (bstep (bstep HB.out ((Below.refl _ _).drew)) hb2)
      rename_i hheld
      clear hheld hb2
      go_wp2_with fail
      go_ret2
      exact ⟨by rw [rngE_yes H.out, ← HFE.out]; rfl, HB3.out⟩
#print axioms clock_two
#print axioms clock_split
#print axioms clock_Format
end Go.Proofs.YtngjdclcnocmfaaDoor.Clock
