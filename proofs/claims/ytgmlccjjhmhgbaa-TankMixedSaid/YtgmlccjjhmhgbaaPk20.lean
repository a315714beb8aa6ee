/- Several texts in one: TankPC, TankM, TankPD, TankPE. -/
import Derived.Test.YtgmlccjjhmhgbaaPk19
import Derived.Test.YtgmlccjjhmhgbaaPk18
/- The program: changed, whatever the function that makes the parts. -/
namespace Go.Proofs.Ytgmlccjjhmhgbaa.Tank
open Go.ChangeShapes Go.WideShapes Go.RowKit Go.Lib
open Go.Proofs.Ytgmlccjjhmhgbaa.Rw (Rd Row Kd Off glt get_lt below_alloc bstep wrap_id below_drewN below_drew drew_below take_snoc_of)
set_option linter.unusedVariables false
set_option maxRecDepth 100000

/-- What the making of a part leaves: a number and an error; of what was there the blocks T alone have changed. -/
def StR (w : World) (T : Nat → Prop) (E : Int) (q : Rat) (I : World → Prop) (e : Ending) (w' : World) : Prop :=
  ∃ b A n c B m d, e = .returned (.tuple #[.agg #[.bool b, .slice A n c, .slice B m d], .int .i64 E]) ∧ OutR w' (.agg #[.bool b, .slice A n c, .slice B m d]) E q ∧ Off T w w' ∧ Kep w w' ∧ (E = 0 → I w')
/-- A function that makes parts out of parts: J k holds of the memory ahead of part k; T: the blocks that it may change, all below B. -/
structure Bcm (fn : Nat) (ba ca : Array Value) (L : List Trip) (V : List Rat) (er : Nat → Int) (B : Nat) (T : Nat → Prop) (A : Option Addr) (J : Nat → World → Prop) : Prop where
  eg : ∀ args w, (callFunc fn args).run Try.prog w = .ok (.enter fn args) w
  lt : ∀ y, T y → y < B
  rats : ∀ k W, J k W → Rats W A L
  stab : ∀ k W W', J k W → B ≤ W.heap.size → Below B W W' → Kep W W' → J k W'
  fit : ∀ k q, V[k]? = some q → er k = 0 → fitR q = true
  step : ∀ k t q W v, L[k]? = some t → V[k]? = some q → B ≤ W.heap.size → J k W → InR W v t.1 t.2.1 t.2.2 → Calls Try.prog fn (ba ++ (#[.int .i64 k, v] ++ ca)) W (StR W T (er k) q (J (k + 1)))
/-- What changed leaves. -/
def ChR (w : World) (T : Nat → Prop) (E cap : Int) (V : List Rat) (I : World → Prop) (e : Ending) (w' : World) : Prop :=
  ∃ x A n c, e = .returned (.tuple #[.agg #[.int .i64 x, .slice A n c], .int .i64 E]) ∧ Off T w w' ∧ w.heap.size ≤ w'.heap.size ∧ (¬ E = 0 → x = 0 ∧ A = none ∧ n = 0 ∧ c = 0) ∧ (E = 0 → InT w' (.agg #[.int .i64 x, .slice A n c]) cap (ts V) ∧ I w' ∧ (∀ q ∈ V, fitR q = true))
set_option maxHeartbeats 3200000 in
theorem p_changed {fn : Nat} {ba ca : Array Value} {L : List Trip} {V : List Rat} {er : Nat → Int} {T : Nat → Prop} {A : Option Addr} {J : Nat → World → Prop} {w : World}
    (hv : Bcm fn ba ca L V er w.heap.size T A J) (hV : V.length = L.length) (cap : Int) (n c : Nat) (hn : n = L.length) (hJ : J 0 w) (hm : n ≤ 8) :
    Calls Try.prog 17 #[.agg #[.int .i64 cap, .slice A n c], .func (.func fn) ba ca] w (ChR w T (fE er n) cap V (J n)) := by
  have HV := Lib.hid hv
  have eg := hv.eg
  have HN := Lib.hid (And.intro hn hV)
  have HJ0 := Lib.hid hJ
  have hmk := tk_make n (by omega)
  obtain ⟨E, hE⟩ : ∃ E, fE er n = E := ⟨_, rfl⟩
  rw [hE]
  have HE := Lib.hid hE
  have HM := Lib.hid hm
  clear hv hn hV hJ hE hm
  go_enter Try.func17, Try.ntmps17
  go_upto_region 1 with fail
  obtain ⟨w0, hw0⟩ : ∃ W, (w.alloc (.cells #[.int .i64 cap, .slice A n c] 24)).alloc (.cells #[.int .i64 0, .slice none 0 0] 24) = W := ⟨_, rfl⟩
  have C0 : Hid (Rw.Cel w0 w.heap.size [.int .i64 cap, .slice A n c]) := hw0 ▸ (Rw.Cel.new w [_, _] _).alloc _
  have R0 : Hid (Rw.Cel w0 (w.heap.size + 1) [.int .i64 0, .slice none 0 0]) := hw0 ▸ Rw.Cel.new_at _ [_, _] _ (by simp)
  have B0 : Hid (Below w.heap.size w w0) := hw0 ▸ bstep (below_alloc _ _) (below_alloc _ _)
  first | rw [hw0] | skip
  clear hw0
  obtain ⟨x0, x1⟩ := C0.out.two
  go_upto_region 2 with fail
  obtain ⟨w1, hw1⟩ : ∃ W, w0.alloc (.cells (madeCells #[.bool false, .slice none 0 0, .slice none 0 0] (n * 3)) 33) = W := ⟨_, rfl⟩
  obtain ⟨g, hg⟩ : ∃ g, w0.heap.size = g := ⟨_, rfl⟩
  have H1 : Hid (Rw.Row cR 3 TR g w1 (.slice (some ⟨g, 0, none⟩) n n) ([] ++ List.replicate (n - 0) zR)) := hw1 ▸ hg ▸ rowT_made w0 n (by have := HM.out; omega)
  have b1 : Below w0.heap.size w0 w1 := hw1 ▸ below_alloc _ _
  have B1 := Lib.hid (bstep B0.out b1)
  have C1 := Lib.hid (C0.out.on b1)
  have R1 := Lib.hid (R0.out.on b1)
  have G1 : Hid (w.heap.size + 2 ≤ g ∧ g + 1 ≤ w1.heap.size) := Lib.hid ⟨by have := R0.out.lt; omega, (H1.out.lt g rfl).2⟩
  have J1 := Lib.hid (HV.out.stab _ _ _ HJ0.out (Nat.le_refl _) B1.out (Kep.of B1.out))
  rw [hw1, hg]
  clear hw1 hg b1 hmk x0 x1
  obtain ⟨x0, x1⟩ := C1.out.two
  go_upto_region 3 with fail
  go_loopw [17, 7, 8, 9] (fun i _ _ _ wr => ∃ (k : Nat) (R : List Raw), k ≤ n ∧ i = .int .i64 k ∧ R.length = k ∧ Rw.Row cR 3 TR g wr (.slice (some ⟨g, 0, none⟩) n n) (R ++ List.replicate (n - k) zR) ∧ Ins wr R (ts (V.take k)) ∧ (∀ j, j < k → er j = 0) ∧ J k wr ∧ Rw.Cel wr w.heap.size [.int .i64 cap, .slice A n c] ∧ Rw.Cel wr (w.heap.size + 1) [.int .i64 0, .slice none 0 0] ∧ Off T w wr) (fun i _ _ _ _ => n - (RowKit.intOf i).toNat)
  case atStart => exact ⟨0, [], Nat.zero_le _, rfl, rfl, H1.out, Ins.nil _, fun j h => absurd h (by omega), J1.out, C1.out, R1.out, Off.of_below B1.out⟩
  case round =>
    obtain ⟨k, R, hk, rfl, hR, hrow, hins, her, hj, hbox, hres, hoff⟩ := hrel
    have HR := Lib.hid hR
    have HW := Lib.hid hrow
    have HI := Lib.hid hins
    have HEr := Lib.hid her
    have HJ := Lib.hid hj
    have HC := Lib.hid hbox
    have HZ := Lib.hid hres
    have HO := Lib.hid hoff
    clear hR hrow hins her hj hbox hres hoff x0 x1
    rcases Nat.lt_or_ge k n with hlt | hge
    · obtain ⟨t, ht⟩ := get_lt (L := L) (k := k) (by have := HN.out.1; omega)
      obtain ⟨q, hq⟩ := get_lt (L := V) (k := k) (by have := HN.out; omega)
      obtain ⟨b, off, A1, c1, A2, c2, hA0, hb, y0, y1, y2, hin⟩ := Rats.at_ (HV.out.rats _ _ HJ.out) ht
      subst hA0
      have HTQ := Lib.hid (And.intro ht hq)
      have HIn := Lib.hid hin
      have i1 : (k : Int) < (n : Int) := by omega
      have i2 : (0 : Int) ≤ (k : Int) := by omega
      have i3 : IntKind.i64.wrap ((k : Int) + 1) = (k : Int) + 1 := Rw.wrap_id (by have := HM.out; omega)
      obtain ⟨t0, ht0⟩ : ∃ x, t.1 = x := ⟨_, rfl⟩
      obtain ⟨p1, hp1⟩ : ∃ x, t.2.1.length = x := ⟨_, rfl⟩
      obtain ⟨p2, hp2⟩ : ∃ x, t.2.2.length = x := ⟨_, rfl⟩
      have hv1 : (Value.agg #[.bool t.1, .slice A1 t.2.1.length c1, .slice A2 t.2.2.length c2]) = .agg #[.bool t0, .slice A1 p1 c1, .slice A2 p2 c2] := by rw [ht0, hp1, hp2]
      rw [ht0] at y0
      rw [hp1] at y1
      rw [hp2] at y2
      rw [hv1] at HIn
      clear ht hq hin ht0 hp1 hp2 hv1
      obtain ⟨x0, x1⟩ := HC.out.two
      go_upto_region 5 with fail
      obtain ⟨w5, hw5⟩ : ∃ W, wr.alloc (.cells #[.bool t0, .slice A1 p1 c1, .slice A2 p2 c2] 33) = W := ⟨_, rfl⟩
      have b5 : Below wr.heap.size wr w5 := hw5 ▸ below_alloc _ _
      have D5 : Hid (Rw.Cel w5 wr.heap.size [.bool t0, .slice A1 p1 c1, .slice A2 p2 c2]) := hw5 ▸ Rw.Cel.new wr [_, _, _] _
      have C5 := Lib.hid (HC.out.on b5)
      have Z5 := Lib.hid (HZ.out.on b5)
      have W5 := Lib.hid (HW.out.on b5)
      have I5 := Lib.hid (HI.out.on b5)
      have S5 : Hid (w.heap.size ≤ wr.heap.size) := HO.out.size
      have S5' : Hid (w.heap.size ≤ w5.heap.size) := Nat.le_trans HO.out.size b5.size
      have J5 := Lib.hid (HV.out.stab _ _ _ HJ.out S5.out (b5.mono S5.out) (Kep.of b5))
      have O5 := Lib.hid (HO.out.then_below b5)
      have HIn5 := Lib.hid (HIn.out.on b5)
      have HST := Lib.hid (HV.out.step k t q w5 _ HTQ.out.1 HTQ.out.2 S5'.out J5.out HIn5.out)
      rw [hw5]
      clear hw5 b5 x0 x1 y0 y1 y2
      obtain ⟨F, hF⟩ : ∃ F, er k = F := ⟨_, rfl⟩
      rw [hF] at HST
      have HF := Lib.hid hF
      clear hF
      have HL5 : Hid ((R ++ List.replicate (n - k) zR).length = n) := fill_len HR.out (by omega)
      have HTl : Hid (∀ y, T y → y < w.heap.size) := HV.out.lt
      have HRB : Hid (∀ W, Off T w5 W → Rw.Row cR 3 TR g W (.slice (some ⟨g, 0, none⟩) n n) (R ++ List.replicate (n - k) zR) ∧ (W.cell? ⟨g, k * 3, none⟩ = some (.bool false) ∧ W.cell? ⟨g, k * 3 + 1, none⟩ = some (.slice none 0 0) ∧ W.cell? ⟨g, k * 3 + 2, none⟩ = some (.slice none 0 0)) ∧ (W.frozen? ⟨g, k * 3, none⟩ = false ∧ W.frozen? ⟨g, k * 3 + 1, none⟩ = false ∧ W.frozen? ⟨g, k * 3 + 2, none⟩ = false)) := fun W ho => by
        have hr : Rw.Row cR 3 TR g W (.slice (some ⟨g, 0, none⟩) n n) (R ++ List.replicate (n - k) zR) := W5.out.keep fun y hy => by
          cases hy
          exact ho.block g (W5.out.lt g rfl).2 fun e => by have := HTl.out _ e; have := G1.out.1; omega
        have hz : (R ++ List.replicate (n - k) zR)[k]? = some zR := by
          rw [List.getElem?_append_right (by rw [HR.out]; exact Nat.le_refl _), HR.out, Nat.sub_self, List.getElem?_replicate, if_pos (by omega)]
        exact ⟨hr, rowT_cells hr hz, rowT_frozen hr HL5.out.symm k⟩
      obtain ⟨z0, z1, z2⟩ := D5.out.three
      go_upto_region 7 with (go_at_fn fn; refine HST.out.mono ?_; rintro e w6 ⟨b6, A6, n6, c6, B6, m6, d6, rfl, ho6, hof6, hkp6, hj6⟩; have O6 := Lib.hid ho6; have X6 := Lib.hid hof6; have K6 := Lib.hid hkp6; have J6 := Lib.hid hj6; clear ho6 hof6 hkp6 hj6; obtain ⟨-, ⟨s0, s1, s2⟩, v0, v1, v2⟩ := HRB.out _ X6.out)
      obtain ⟨w7, hw7⟩ : ∃ W, ((w6.setCell ⟨g, k * 3, none⟩ (.bool b6)).setCell ⟨g, k * 3 + 1, none⟩ (.slice A6 n6 c6)).setCell ⟨g, k * 3 + 2, none⟩ (.slice B6 m6 d6) = W := ⟨_, rfl⟩
      have hrow6 := (HRB.out _ X6.out).1
      have hk6 : k < (R ++ List.replicate (n - k) zR).length := by rw [HL5.out]; exact hlt
      have W7 : Hid (Rw.Row cR 3 TR g w7 (.slice (some ⟨g, 0, none⟩) n n) ((R ++ [(b6, (A6, n6, c6), (B6, m6, d6))]) ++ List.replicate (n - (k + 1)) zR)) := Lib.hid (by
        have := rowT_put hrow6 HL5.out.symm k (b6, (A6, n6, c6), (B6, m6, d6)) hk6
        rw [fill_set _ HR.out hlt] at this
        exact hw7 ▸ this)
      have K7 : Hid (Kep w6 w7) := hw7 ▸ rowT_kep hrow6 hk6 (b6, (A6, n6, c6), (B6, m6, d6))
      have P7 : Hid (Off (fun y => y = g) w6 w7) := hw7 ▸ putT_off w6 g k (b6, (A6, n6, c6), (B6, m6, d6))
      have O7 : Hid (Off T w w7) := Lib.hid ((O5.out.trans X6.out fun y hy => Or.inl hy).trans P7.out fun y hy => Or.inr (by subst hy; have := G1.out.1; omega))
      have C7 : Hid (Rw.Cel w7 w.heap.size [.int .i64 cap, .slice (some ⟨b, off, none⟩) n c]) := Lib.hid ((C5.out.off X6.out fun e => by have := HTl.out _ e; omega).off P7.out (by have := G1.out.1; omega))
      have Z7 : Hid (Rw.Cel w7 (w.heap.size + 1) [.int .i64 0, .slice none 0 0]) := Lib.hid ((Z5.out.off X6.out fun e => by have := HTl.out _ e; omega).off P7.out (by have := G1.out.1; omega))
      rw [hw7]
      clear hrow6 hk6 hw7 s0 s1 s2 v0 v1 v2 z0 z1 z2
      by_cases hz : F = 0
      · subst hz
        have Q6 := Lib.hid (O6.out.zero rfl)
        obtain ⟨en, ip, iq⟩ := IsR.cells Q6.out
        have S6 : Hid (w.heap.size ≤ w6.heap.size) := Nat.le_trans S5'.out X6.out.size
        have J7 := Lib.hid (HV.out.stab _ _ _ (J6.out rfl) S6.out (P7.out.below S6.out fun y hy => by subst hy; have := G1.out.1; omega) K7.out)
        have FQ := Lib.hid (HV.out.fit k q HTQ.out.2 HF.out)
        have VZ : Hid (∀ u ∈ ts (V.take k), vZ u) := Lib.hid (ts_vZ fun x hx => by
          obtain ⟨j, hj⟩ := List.mem_iff_getElem?.mp hx
          rw [List.getElem?_take] at hj
          split at hj
          · exact HV.out.fit j x hj (HEr.out j (by assumption))
          · cases hj)
        have I7 : Hid (Ins w7 (R ++ [(b6, (A6, n6, c6), (B6, m6, d6))]) (ts (V.take (k + 1)))) := Lib.hid (by
          rw [ts_take_succ HTQ.out.2]
          have h1 := (I5.out.kep K6.out VZ.out).snoc (r := (b6, (A6, n6, c6), (B6, m6, d6))) (t := triR q) en ip iq
          refine h1.kep K7.out fun u hu => ?_
          rcases List.mem_append.mp hu with hu | hu
          · exact VZ.out u hu
          · simp at hu; subst hu; exact Or.inl (vT_tri FQ.out))
        have E7 : Hid (∀ j, j < k + 1 → er j = 0) := Lib.hid fun j hj => by
          rcases Nat.lt_or_eq_of_le (Nat.le_of_lt_succ hj) with h | h
          · exact HEr.out j h
          · subst h; exact HF.out
        clear en ip iq
        go_wp2_with fail
        go_roundw
        case rel => exact ⟨k + 1, _, by omega, by go_num, by rw [List.length_append, HR.out]; rfl, W7.out, I7.out, E7.out, J7.out, C7.out, Z7.out, O7.out⟩
        case measure => simp [RowKit.intOf]; omega
      · obtain ⟨z1, z2⟩ := ne_zero hz
        obtain rfl : E = F := by rw [← HE.out, ← HF.out]; exact fE_bad (by rw [HF.out]; exact hz) HEr.out hlt
        obtain ⟨u0, u1⟩ := Z7.out.two
        obtain ⟨f0, f1⟩ := Z7.out.warm2
        go_wp2_with fail
        exact bodyPost_ret (res_tank2 Try.results17 rfl (Z7.out.put2 _ _)) rfl ⟨0, none, 0, 0, rfl, O7.out.trans (Rw.off_put2 w7 _ _ _) fun y hy => Or.inr (by subst hy; omega), by have := O7.out.size; simpa using this, fun _ => ⟨rfl, rfl, rfl, rfl⟩, fun h => absurd h hz⟩
    · obtain rfl : k = n := by omega
      obtain rfl : E = 0 := by rw [← HE.out]; exact fE_ok HEr.out
      have FA : Hid (∀ q ∈ V, fitR q = true) := Lib.hid fun q hq => by
        obtain ⟨j, hj⟩ := List.mem_iff_getElem?.mp hq
        exact HV.out.fit j q hj (HEr.out j (by have := glt hj; have := HN.out; omega))
      obtain ⟨u0, u1⟩ := HZ.out.two
      obtain ⟨f0, f1⟩ := HZ.out.warm2
      obtain ⟨x0, x1⟩ := HC.out.two
      go_wp2_with fail
      have hI9 := HI.out
      rw [List.take_of_length_le (by have := HN.out; omega)] at hI9
      obtain ⟨hr9, hl9⟩ := fill_rats HW.out hI9 HR.out rfl
      have hz9 := ts_vZ FA.out
      have ht9 := Rats.tank hr9 hz9 HZ.out (.int .i64 cap) (.slice (some ⟨g, 0, none⟩) k k)
      have hj9 := HV.out.stab _ _ _ HJ.out HO.out.size (Rw.below_put2 (Below.refl _ _) (Nat.le_succ _) (.int .i64 cap) (.slice (some ⟨g, 0, none⟩) k k)) (Kep.tank HZ.out (.int .i64 cap) (.slice (some ⟨g, 0, none⟩) k k))
      have hT9 : InT ((wr.setCell ⟨w.heap.size + 1, 0, none⟩ (.int .i64 cap)).setCell ⟨w.heap.size + 1, 1, none⟩ (.slice (some ⟨g, 0, none⟩) k k)) (.agg #[.int .i64 cap, .slice (some ⟨g, 0, none⟩) k k]) cap (ts V) := ⟨_, k, by rw [← hl9], by have := HM.out; omega, ht9⟩
      exact bodyPost_ret (res_tank2 Try.results17 rfl (HZ.out.put2 _ _)) rfl ⟨cap, some ⟨g, 0, none⟩, k, k, rfl, HO.out.trans (Rw.off_put2 wr _ _ _) fun y hy => Or.inr (by subst hy; omega), by have := HO.out.size; simpa using this, fun h => absurd rfl h, fun _ => ⟨hT9, hj9, FA.out⟩⟩
end Go.Proofs.Ytgmlccjjhmhgbaa.Tank
/- Parts of the program's fibre (gen17/m.py out of FibreH). -/
namespace Go.Proofs.Ytgmlccjjhmhgbaa.Tank
open Go.ChangeShapes Go.WideShapes Go.RowKit Go.Lib
open Go.Proofs.Ytgmlccjjhmhgbaa.Mem (Cl eI Own)
open Go.Proofs.Ytgmlccjjhmhgbaa.Rw (glt get_lt ret_bool ret_int wrap_id bstep below_drewN below_drew drew_below below_alloc)
set_option linter.unusedVariables false
set_option maxRecDepth 100000

/-- The error of a number. -/
def nuE (most z : Int) : Int := if inM most z then 0 else 1
theorem nuE_ok {most z : Int} (h : inM most z = true) : nuE most z = 0 := by unfold nuE; rw [h]; rfl
theorem nuE_bad {most z : Int} (h : inM most z = false) : nuE most z = 1 := by unfold nuE; rw [h]; rfl
theorem nuE_zero {most z : Int} (h : nuE most z = 0) : inM most z = true := by
  cases hz : inM most z with
  | true => rfl
  | false => rw [nuE_bad hz] at h; cases h
theorem tp_checkNumber (z most : Int) (w : World) :
    Calls Try.prog 68 #[.int .i64 z, .int .i64 most] w fun e w' => e = .returned (.int .i64 (nuE most z)) ∧ w = w' := by
  rcases Int.lt_or_le z 0 with h0 | h0
  · have t0 : decide (z < 0) = true := decide_eq_true h0
    rw [nuE_bad (Bool.eq_false_iff.mpr fun h => by have := inM_iff.mp h; omega)]
    clear h0
    go_enter Try.func68, Try.ntmps68
    go_wp2_with fail
    go_ret
    exact ⟨rfl, rfl⟩
  have t0 : decide (z < 0) = false := decide_eq_false (by omega)
  rcases Int.lt_or_le most z with h1 | h1
  · have t1 : decide (most < z) = true := decide_eq_true h1
    rw [nuE_bad (Bool.eq_false_iff.mpr fun h => by have := inM_iff.mp h; omega)]
    clear h0 h1
    go_enter Try.func68, Try.ntmps68
    go_wp2_with fail
    go_ret
    exact ⟨rfl, rfl⟩
  have t1 : decide (most < z) = false := decide_eq_false (by omega)
  rw [nuE_ok (inM_iff.mpr ⟨h0, h1⟩)]
  clear h0 h1
  go_enter Try.func68, Try.ntmps68
  go_wp2_with fail
  go_ret
  exact ⟨rfl, rfl⟩

theorem tp_clo (b : Nat) (most z : Int) (w : World) (hc : w.cell? ⟨b, 0, none⟩ = some (.int .i64 most)) :
    Calls Try.prog 67 #[.int .i64 z, .pointer (some ⟨b, 0, none⟩)] w fun e w' => e = .returned (.int .i64 (nuE most z)) ∧ w = w' := by
  have HC := Lib.hid (tp_checkNumber z most w)
  go_enter Try.func67, Try.ntmps67
  go_wp2_with fail
  refine HC.out.mono ?_
  rintro e w' ⟨rfl, rfl⟩
  go_wp2_with fail
  go_ret
  exact ⟨rfl, rfl⟩

/-- The first error of a list. -/
def firG (g : Int → Int) : List Int → Int
  | [] => 0
  | z :: l => if g z = 0 then firG g l else g z
theorem firG_bad {g : Int → Int} : ∀ {l : List Int} {k : Nat} {z : Int}, l[k]? = some z → ¬ g z = 0 → (∀ (j : Nat) (y : Int), j < k → l[j]? = some y → g y = 0) → firG g l = g z
  | [], _, _, h, _, _ => by simp at h
  | y :: l, 0, z, h, hb, _ => by simp at h; subst h; rw [firG, if_neg hb]
  | y :: l, k + 1, z, h, hb, ha => by
    rw [List.getElem?_cons_succ] at h
    rw [firG, if_pos (ha 0 y (by omega) rfl)]
    exact firG_bad h hb fun j x hj hx => ha (j + 1) x (by omega) (by rw [List.getElem?_cons_succ]; exact hx)
theorem firG_ok {g : Int → Int} : ∀ {l : List Int}, (∀ (j : Nat) (y : Int), l[j]? = some y → g y = 0) → firG g l = 0
  | [], _ => rfl
  | y :: l, h => by
    rw [firG, if_pos (h 0 y rfl)]
    exact firG_ok fun j x hx => h (j + 1) x (by rw [List.getElem?_cons_succ]; exact hx)
theorem firG_nu {most : Int} {l : List Int} : firG (nuE most) l = if l.all (inM most) then 0 else 1 := by
  induction l with
  | nil => rfl
  | cons z l ih =>
    rw [firG, List.all_cons, ih]
    cases hz : inM most z with
    | true => rw [nuE_ok hz, if_pos rfl, Bool.true_and]
    | false => rw [nuE_bad hz, Bool.false_and]; rfl

/-- A function that answers of an integer as long as I holds of the memory. -/
structure Ans (fn : Nat) (ba ca : Array Value) (g : Int → Int) (I : World → Prop) : Prop where
  eg : ∀ args w, (callFunc fn args).run Try.prog w = .ok (.enter fn args) w
  run : ∀ z W, I W → Calls Try.prog fn (ba ++ #[.int .i64 z] ++ ca) W fun e W' => e = .returned (.int .i64 (g z)) ∧ W = W'
set_option maxHeartbeats 800000 in
theorem tvisit_int {fn : Nat} {ba ca : Array Value} {g : Int → Int} {I : World → Prop} (hv : Ans fn ba ca g I) (l : List Int) (A : Option Addr) (n c : Nat) (hn : n = l.length) (w : World) (ha : Cl eI w A l) (hI : I w) (hm : n ≤ 9223372036854775807) :
    Calls Try.prog 66 #[.slice A n c, .func (.func fn) ba ca] w fun e w' => e = .returned (.int .i64 (firG g l)) ∧ w = w' := by
  have HA := Lib.hid ha
  have HN := Lib.hid hn
  have HV := Lib.hid fun z => hv.run z w hI
  have eg := hv.eg
  obtain ⟨E, hE⟩ : ∃ E, firG g l = E := ⟨_, rfl⟩
  rw [hE]
  have HE := Lib.hid hE
  clear ha hn hv hI hE
  go_enter Try.func66, Try.ntmps66
  go_wp2_with fail
  go_loopw [10, 6, 7] (fun i _ _ wr => ∃ k : Nat, k ≤ n ∧ i = .int .i64 k ∧ (∀ (j : Nat) (y : Int), j < k → l[j]? = some y → g y = 0) ∧ wr = w) (fun i _ _ _ => n - (RowKit.intOf i).toNat)
  case atStart => exact ⟨0, Nat.zero_le _, rfl, fun j z h => absurd h (by omega), rfl⟩
  case round =>
    obtain ⟨k, hk, rfl, hg, rfl⟩ := hrel
    have HG := Lib.hid hg
    clear hg
    rcases Nat.lt_or_ge k n with hlt | hge
    · obtain ⟨z, hz⟩ := get_lt (L := l) (k := k) (by have := HN.out; omega)
      obtain ⟨b, off, rfl, hb, e0⟩ := cl_at HA.out hz
      have HZ := Lib.hid hz
      have i1 : (k : Int) < (n : Int) := by omega
      have i2 : (0 : Int) ≤ (k : Int) := by omega
      have HR := Lib.hid (HV.out z)
      obtain ⟨F, hF⟩ : ∃ F, g z = F := ⟨_, rfl⟩
      rw [hF] at HR
      have HF := Lib.hid hF
      clear hz hF
      by_cases hz : F = 0
      · subst hz
        go_wp2_with (go_at_fn fn; refine HR.out.mono ?_; rintro e w5 ⟨rfl, rfl⟩)
        go_roundw
        case rel =>
          refine ⟨k + 1, by omega, by go_num, ?_, trivial⟩
          intro j y hj hy
          rcases Nat.lt_or_eq_of_le (Nat.le_of_lt_succ hj) with h | h
          · exact HG.out j y h hy
          · subst h
            have e := HZ.out
            rw [hy] at e; cases e; exact HF.out
        case measure => simp [RowKit.intOf]; omega
      · obtain ⟨z1, z2⟩ := ne_zero hz
        obtain rfl : E = F := by rw [← HE.out, ← HF.out]; exact firG_bad HZ.out (by rw [HF.out]; exact hz) HG.out
        clear hz
        go_wp2_with (go_at_fn fn; refine HR.out.mono ?_; rintro e w5 ⟨rfl, rfl⟩)
        go_ret
        exact ⟨rfl, rfl⟩
    · obtain rfl : k = n := by omega
      obtain rfl : E = 0 := by rw [← HE.out]; exact firG_ok fun j y hy => HG.out j y (by rw [HN.out]; exact glt hy) hy
      go_wp2_with fail
      go_ret
      exact ⟨rfl, rfl⟩

set_option maxHeartbeats 800000 in
theorem tp_checkList (l : List Int) (A : Option Addr) (n c : Nat) (hn : n = l.length) (kinds most : Int) (w : World) (ha : Cl eI w A l) (hm : n ≤ 9223372036854775807) :
    Calls Try.prog 47 #[.slice A n c, .int .i64 kinds, .int .i64 most] w fun e w' => e = .returned (.int .i64 (lisE l kinds most)) ∧ Below w.heap.size w w' := by
  have HA := Lib.hid ha
  have HN := Lib.hid hn
  obtain ⟨E, hE⟩ : ∃ E, lisE l kinds most = E := ⟨_, rfl⟩
  rw [hE]
  have HE := Lib.hid hE
  clear ha
  rcases Int.lt_or_le kinds 1 with h0 | h0
  · have d0 : decide (kinds < 1) = true := decide_eq_true h0
    obtain rfl : E = 17 := by rw [← hE]; exact lisE_no (Bool.eq_false_iff.mpr fun h => by have := kiB_iff.mp h; omega)
    clear h0 hE hn
    go_enter Try.func47, Try.ntmps47
    go_wp2_with fail
    go_ret
    exact ⟨rfl, below_alloc _ _⟩
  have d0 : decide (kinds < 1) = false := decide_eq_false (by omega)
  rcases Int.lt_or_le 8 kinds with h1 | h1
  · have d1 : decide (8 < kinds) = true := decide_eq_true h1
    obtain rfl : E = 17 := by rw [← hE]; exact lisE_no (Bool.eq_false_iff.mpr fun h => by have := kiB_iff.mp h; omega)
    clear h0 h1 hE hn
    go_enter Try.func47, Try.ntmps47
    go_wp2_with fail
    go_ret
    exact ⟨rfl, below_alloc _ _⟩
  have d1 : decide (8 < kinds) = false := decide_eq_false (by omega)
  by_cases h2 : (n : Int) = kinds
  rotate_left
  · have d2 : ((n : Int) != kinds) = true := by simpa using h2
    have d3 : ((n : Int) == kinds) = false := by simpa using h2
    obtain rfl : E = 17 := by rw [← hE]; exact lisE_no (Bool.eq_false_iff.mpr fun h => by have := kiB_iff.mp h; omega)
    clear h0 h1 h2 hE hn
    go_enter Try.func47, Try.ntmps47
    go_wp2_with fail
    go_ret
    exact ⟨rfl, below_alloc _ _⟩
  have hK : kiB l kinds = true := kiB_iff.mpr ⟨h0, h1, by omega⟩
  have HF : Hid (E = firG (nuE most) l) := Lib.hid (by rw [← hE, firG_nu]; unfold lisE; rw [if_pos hK])
  have HV : Hid (Ans 67 #[] #[.pointer (some ⟨w.heap.size, 0, none⟩)] (nuE most) (fun W => W.cell? ⟨w.heap.size, 0, none⟩ = some (.int .i64 most))) := Lib.hid ⟨enters_of Try.func67 (by kernel_rfl) rfl, fun z W h => tp_clo _ _ _ _ h⟩
  subst h2
  have d2 : ((n : Int) != (n : Int)) = false := by simp
  have d3 : ((n : Int) == (n : Int)) = true := by simp
  clear h0 h1 hE hn hK
  go_enter Try.func47, Try.ntmps47
  go_upto_region 1 with fail
  generalize hw1 : w.alloc (.cells #[.int .i64 most] 3) = w1
  have HB1 : Hid (Below w.heap.size w w1) := hw1 ▸ below_alloc _ _
  have HC1 : Hid (Rw.Cel w1 w.heap.size [.int .i64 most]) := hw1 ▸ Rw.Cel.new _ [_] _
  have HVi := Lib.hid (tvisit_int HV.out l A n c HN.out w1 (HA.out.on HB1.out) (HC1.out.at_ 0 _ rfl) hm)
  clear hw1
  go_wp2_with fail
  refine HVi.out.mono ?_
  rintro e w2 ⟨rfl, rfl⟩
  go_wp2_with fail
  go_ret
  exact ⟨ret_int HF.out.symm, HB1.out⟩
theorem q_Parts (m : List Int) (A : Option Addr) (n c : Nat) (hn : n = m.length) (kinds : Int) (w : World) (ha : Cl eI w A m) (hm : n ≤ 9223372036854775807) :
    Calls Try.prog 32 #[.slice A n c, .int .i64 kinds] w fun e w' => e = .returned (.int .i64 (parE m kinds)) ∧ Below w.heap.size w w' := by
  have HL := Lib.hid (tp_checkList m A n c hn kinds MM w ha hm)
  clear ha hn
  go_enter Try.func32, Try.ntmps32
  go_wp2_with fail
  refine HL.out.mono ?_
  rintro e w1 ⟨rfl, hb⟩
  have B1 := Lib.hid hb
  clear hb
  go_wp2_with fail
  go_ret
  exact ⟨rfl, B1.out⟩
end Go.Proofs.Ytgmlccjjhmhgbaa.Tank
/- The program: New; filled, whatever the function that gives the amounts; Fill. -/
namespace Go.Proofs.Ytgmlccjjhmhgbaa.Tank
open Go.ChangeShapes Go.WideShapes Go.RowKit Go.Lib
open Go.Proofs.Ytgmlccjjhmhgbaa.Mem (Cl eI Own)
open Go.Proofs.Ytgmlccjjhmhgbaa.Rw (Rd Row Kd Off glt get_lt below_alloc bstep wrap_id below_drewN below_drew drew_below take_snoc_of)
set_option linter.unusedVariables false
set_option maxRecDepth 100000

theorem StR.of {w w' : World} {T : Nat → Prop} {E : Int} {q : Rat} {I : World → Prop} {e : Ending} (h : RRes w E q e w') (hI : Below w.heap.size w w' → E = 0 → I w') : StR w T E q I e w' := by
  obtain ⟨b, A, n, c, B, m, d, rfl, ho, hb⟩ := RRes.op h
  exact ⟨b, A, n, c, B, m, d, rfl, ho, Off.of_below hb, Kep.of hb, hI hb⟩
set_option maxHeartbeats 800000 in
theorem p_New1 (k : Int) (t : Trip) (va : Value) (w : World) (ha : InR w va t.1 t.2.1 t.2.2) : Calls Try.prog 30 #[.int .i64 k, va] w (RRes w 0 0) := by
  obtain ⟨A1, a1, B1, b1, rfl, -, -⟩ := inR_open ha
  obtain ⟨t0, ht0⟩ : ∃ x, t.1 = x := ⟨_, rfl⟩
  obtain ⟨p1, hp1⟩ : ∃ x, t.2.1.length = x := ⟨_, rfl⟩
  obtain ⟨p2, hp2⟩ : ∃ x, t.2.2.length = x := ⟨_, rfl⟩
  rw [ht0, hp1, hp2]
  have KO := Lib.hid fun W => yq_Of 0 (by decide) (by decide) W
  rw [qI_zero] at KO
  clear ha ht0 hp1 hp2
  go_enter Try.func30, Try.ntmps30
  go_upto_region 1 with fail
  obtain ⟨w0, hw0⟩ : ∃ W, (w.alloc (.cells #[.bool t0, .slice A1 p1 a1, .slice B1 p2 b1] 33)).alloc (.cells #[.bool false, .slice none 0 0, .slice none 0 0] 33) = W := ⟨_, rfl⟩
  have R0 : Hid (Rw.Cel w0 (w.heap.size + 1) [.bool false, .slice none 0 0, .slice none 0 0]) := hw0 ▸ Rw.Cel.new_at _ [_, _, _] _ (by simp)
  have B0 : Hid (Below w.heap.size w w0) := hw0 ▸ bstep (below_alloc _ _) (below_alloc _ _)
  first | rw [hw0] | skip
  clear hw0
  go_wp2_with fail
  refine (KO.out w0).mono ?_
  rintro e w1 h
  obtain ⟨b, A, n, c, B, m, d, rfl, ho, hb⟩ := h.open_
  have O1 := Lib.hid (ho.zero rfl)
  have B1' := Lib.hid (bstep B0.out hb)
  have R1 := Lib.hid (R0.out.on hb)
  clear h ho hb
  obtain ⟨u0, u1, u2⟩ := R1.out.three
  obtain ⟨v0, v1, v2⟩ := R1.out.warm3
  go_wp2_with fail
  exact bodyPost_ret (res_rat2 Try.results30 rfl (R1.out.put3 _ _ _)) rfl ⟨_, rfl, OutR.ok (InR.put3 O1.out (cel_root R1.out) _ _ _), Rw.below_put3 B1'.out (Nat.le_succ _) _ _ _⟩
theorem ts_repl (n : Nat) : ts (List.replicate n 0) = List.replicate n (triR 0) := by unfold ts; rw [List.map_replicate]
theorem fE_zero (n : Nat) : fE (fun _ => 0) n = 0 := fE_ok fun _ _ => rfl
theorem repl_at {α : Type} {n k : Nat} {x y : α} (h : (List.replicate n x)[k]? = some y) : y = x := by
  rw [List.getElem?_replicate] at h
  split at h
  · cases h; rfl
  · cases h
theorem bcm_new {B : Nat} {A : Option Addr} {n : Nat} (hA : ∀ b off, A = some ⟨b, off, none⟩ → b < B) :
    Bcm 30 #[] #[] (List.replicate n zT) (List.replicate n 0) (fun _ => 0) B (fun _ => False) A (fun _ W => Rats W A (List.replicate n zT)) where
  eg := enters_of Try.func30 (by kernel_rfl) rfl
  lt := fun y h => h.elim
  rats := fun k W h => h
  stab := fun k W W' h _ hb hk => Rats.kep h hA (fun t ht => Or.inr (by obtain ⟨j, hj⟩ := List.mem_iff_getElem?.mp ht; exact repl_at hj)) hb hk
  fit := fun k q hq _ => by rw [repl_at hq]; exact fit_zero
  step := fun k t q W v ht hq _ hJ hi => by
    rw [repl_at hq]
    exact (p_New1 k t v W hi).mono fun e w' h => StR.of h fun hb _ => Rats.on hJ hb
theorem made_rats {w : World} {n g B : Nat} (h : Rw.Row cR 3 TR B w (.slice (some ⟨g, 0, none⟩) n n) (List.replicate n zR)) : Rats w (some ⟨g, 0, none⟩) (List.replicate n zT) := by
  refine (row_rats h ⟨by simp, fun k r t hr ht => ?_⟩ (by simp)).1
  rw [repl_at hr, repl_at ht]
  exact ⟨rfl, In.nil _, In.nil _⟩
set_option maxHeartbeats 1600000 in
theorem p_New (kinds cap : Int) (w : World) : Calls Try.prog 11 #[.int .i64 kinds, .int .i64 cap] w (TRes w (nwE kinds cap) (nwC kinds cap) (nwL kinds cap)) := by
  obtain ⟨E, hE⟩ : ∃ E, nwE kinds cap = E := ⟨_, rfl⟩
  have hno := fun h => nw_no (E := E) hE h
  have K1 := Lib.hid fun W => p_isCount kinds W
  have K2 := Lib.hid fun W => p_isCapacity cap W
  cases h1 : cnB kinds with
  | false =>
    rw [h1] at K1
    obtain rfl : E = 17 := by rw [← hE]; exact if_neg fun h => by rw [cnB_iff.mpr h] at h1; cases h1
    obtain ⟨e1, e2⟩ := hno (by decide)
    rw [hE, e1, e2]
    clear hE hno h1 e1 e2 K2
    go_enter Try.func11, Try.ntmps11
    go_wp2_with fail
    refine (K1.out _).mono ?_
    rintro e w1 ⟨rfl, rfl⟩
    go_wp2_with fail
    have hc := Rw.Cel.new w [.int .i64 0, .slice none 0 0] 24
    exact bodyPost_ret (res_tank2 Try.results11 rfl hc) rfl (TRes.none_ (below_alloc _ _))
  | true =>
  rw [h1] at K1
  cases h2 : cpB cap with
  | false =>
    rw [h2] at K2
    obtain rfl : E = 1 := by rw [← hE]; unfold nwE; rw [if_pos (cnB_iff.mp h1)]; exact if_neg fun h => by rw [cpB_iff.mpr h] at h2; cases h2
    obtain ⟨e1, e2⟩ := hno (by decide)
    rw [hE, e1, e2]
    clear hE hno h1 h2 e1 e2
    go_enter Try.func11, Try.ntmps11
    go_wp2_with fail
    refine (K1.out _).mono ?_
    rintro e w1 ⟨rfl, rfl⟩
    go_wp2_with fail
    refine (K2.out _).mono ?_
    rintro e w1 ⟨rfl, rfl⟩
    go_wp2_with fail
    have hc := Rw.Cel.new w [.int .i64 0, .slice none 0 0] 24
    exact bodyPost_ret (res_tank2 Try.results11 rfl hc) rfl (TRes.none_ (below_alloc _ _))
  | true =>
  rw [h2] at K2
  have hk := cnB_iff.mp h1
  have hc := cpB_iff.mp h2
  obtain ⟨n, hn⟩ : ∃ n : Nat, kinds = (n : Int) := ⟨kinds.toNat, by omega⟩
  subst hn
  obtain rfl : E = 0 := by rw [← hE]; unfold nwE; rw [if_pos hk, if_pos hc]
  have e1 : nwC (n : Int) cap = cap := if_pos hE
  have e2 : nwL (n : Int) cap = ts (List.replicate n 0) := by rw [ts_repl]; exact if_pos hE
  rw [hE, e1, e2]
  have hn8 : n ≤ 8 := by omega
  have hmk := tk_make n (by omega)
  clear hE hno h1 h2 e1 e2 hk hc
  go_enter Try.func11, Try.ntmps11
  go_upto_region 1 with fail
  obtain ⟨w0, hw0⟩ : ∃ W, w.alloc (.cells #[.int .i64 0, .slice none 0 0] 24) = W := ⟨_, rfl⟩
  have R0 : Hid (Rw.Cel w0 w.heap.size [.int .i64 0, .slice none 0 0]) := hw0 ▸ Rw.Cel.new w [_, _] _
  have B0 : Hid (Below w.heap.size w w0) := hw0 ▸ below_alloc _ _
  rw [hw0]
  clear hw0
  go_wp2_with fail
  refine (K1.out _).mono ?_
  rintro e w1 ⟨rfl, rfl⟩
  go_wp2_with fail
  refine (K2.out _).mono ?_
  rintro e w1 ⟨rfl, rfl⟩
  go_upto_region 6 with fail
  obtain ⟨w1, hw1⟩ : ∃ W, w0.alloc (.cells (madeCells #[.bool false, .slice none 0 0, .slice none 0 0] (n * 3)) 33) = W := ⟨_, rfl⟩
  obtain ⟨g, hg⟩ : ∃ g, w0.heap.size = g := ⟨_, rfl⟩
  have M1 : Hid (Rats w1 (some ⟨g, 0, none⟩) (List.replicate n zT)) := hw1 ▸ hg ▸ made_rats (rowT_made w0 n (by omega))
  have b1 : Below w0.heap.size w0 w1 := hw1 ▸ below_alloc _ _
  have G1 : Hid (w1.heap.size = g + 1) := Lib.hid (by rw [← hw1, ← hg]; simp)
  have R1 := Lib.hid (R0.out.on b1)
  have B1 := Lib.hid (bstep B0.out b1)
  rw [hw1, hg]
  clear hw1 hg b1 hmk
  obtain ⟨w2, hw2⟩ : ∃ W, w1.alloc (.cells #[.int .i64 cap, .slice (some ⟨g, 0, none⟩) n n] 24) = W := ⟨_, rfl⟩
  have b2 : Below w1.heap.size w1 w2 := hw2 ▸ below_alloc _ _
  have C2 : Hid (Rw.Cel w2 (g + 1) [.int .i64 cap, .slice (some ⟨g, 0, none⟩) n n]) := hw2 ▸ Rw.Cel.new_at w1 [_, _] _ G1.out
  have R2 := Lib.hid (R1.out.on b2)
  have B2 := Lib.hid (bstep B1.out b2)
  have M2 := Lib.hid (Rats.on M1.out b2)
  have G2 : Hid (g < w2.heap.size) := Lib.hid (by have := G1.out; have := b2.size; omega)
  have KC := Lib.hid (p_changed (w := w2) (bcm_new (B := w2.heap.size) (A := some ⟨g, 0, none⟩) (n := n) (fun b off e => by cases e; exact G2.out)) (by simp) cap n n (by simp) M2.out hn8)
  rw [fE_zero] at KC
  rw [hw2]
  clear hw2 b2
  obtain ⟨x0, x1⟩ := C2.out.two
  go_wp2_with fail
  refine KC.out.mono ?_
  rintro e w3 ⟨x, A3, n3, c3, rfl, ho, hs, -, h0⟩
  obtain ⟨hT, -, hf⟩ := h0 rfl
  have hb := Off.below ho (Nat.le_refl _) (fun _ h => h.elim)
  have R3 := Lib.hid (R2.out.on hb)
  have B3 := Lib.hid (bstep B2.out hb)
  have T3 := Lib.hid (InT.tank hT (ts_vZ hf) R3.out (.int .i64 x) (.slice A3 n3 c3))
  clear ho hs h0 hT hf hb x0 x1
  obtain ⟨u0, u1⟩ := R3.out.two
  obtain ⟨v0, v1⟩ := R3.out.warm2
  go_wp2_with fail
  exact bodyPost_ret (res_tank2 Try.results11 rfl (R3.out.put2 _ _)) rfl ⟨_, rfl, T3.out, Rw.below_put2 B3.out (Nat.le_refl _) _ _⟩
/-! ### filled -/
/-- A function that gives amounts as long as I holds of the memory. -/
structure Amt (fn : Nat) (ba ca : Array Value) (Q : List Rat) (B : Nat) (I : World → Prop) : Prop where
  eg : ∀ args w, (callFunc fn args).run Try.prog w = .ok (.enter fn args) w
  stab : ∀ W W', I W → B ≤ W.heap.size → Below B W W' → Kep W W' → I W'
  step : ∀ (k : Nat) q W, Q[k]? = some q → B ≤ W.heap.size → I W → Calls Try.prog fn (ba ++ (#[.int .i64 k] ++ ca)) W fun e W' => ∃ b A n c B' m d, e = .returned (.agg #[.bool b, .slice A n c, .slice B' m d]) ∧ IsR W' (.agg #[.bool b, .slice A n c, .slice B' m d]) q ∧ Below W.heap.size W W'
set_option maxHeartbeats 3200000 in
theorem p_filled1 {fn : Nat} {ba ca : Array Value} {Q : List Rat} {B : Nat} {I : World → Prop} (ham : Amt fn ba ca Q B I) (k : Nat) (p q : Rat) (fp : fitR p = true) (fq : fitR q = true) (hq : Q[k]? = some q) (va : Value) (w : World) (hB : B ≤ w.heap.size) (hI : I w) (ha : IsR w va p) (gb : Nat) (hgb : w.cell? ⟨gb, 0, none⟩ = some (.func (.func fn) ba ca)) :
    Calls Try.prog 48 #[.int .i64 k, va, .pointer (some ⟨gb, 0, none⟩)] w (RRes w (okE (sumOk p q)) (p + q)) := by
  obtain ⟨A1, a1, B1, b1, rfl, -, -⟩ := inR_open ha
  obtain ⟨t0, ht0⟩ : ∃ x, negR p = x := ⟨_, rfl⟩
  obtain ⟨p1, hp1⟩ : ∃ x, (topL p).length = x := ⟨_, rfl⟩
  obtain ⟨p2, hp2⟩ : ∃ x, (botL p).length = x := ⟨_, rfl⟩
  rw [ht0, hp1, hp2] at ha
  rw [ht0, hp1, hp2]
  have KA := Lib.hid fun v u W h k => yq_Add p q fp fq v u W h k
  obtain ⟨E, hE⟩ : ∃ E, okE (sumOk p q) = E := ⟨_, rfl⟩
  obtain ⟨X, hX⟩ : ∃ X, p + q = X := ⟨_, rfl⟩
  rw [hE, hX] at KA
  rw [hE, hX]
  have HAM := Lib.hid ham
  have eg := ham.eg
  have HA := Lib.hid ha
  have HI := Lib.hid hI
  have HQ := Lib.hid hq
  have HG := Lib.hid hgb
  have HBs := Lib.hid hB
  have hgl := World.block_lt_of_cell? w _ hgb
  clear ha hI hq hgb hB ht0 hp1 hp2 hE hX ham
  go_enter Try.func48, Try.ntmps48
  go_upto_region 1 with fail
  obtain ⟨w0, hw0⟩ : ∃ W, (w.alloc (.cells #[.bool t0, .slice A1 p1 a1, .slice B1 p2 b1] 33)).alloc (.cells #[.bool false, .slice none 0 0, .slice none 0 0] 33) = W := ⟨_, rfl⟩
  have P0 : Hid (Rw.Cel w0 w.heap.size [.bool t0, .slice A1 p1 a1, .slice B1 p2 b1]) := hw0 ▸ (Rw.Cel.new w [_, _, _] _).alloc _
  have R0 : Hid (Rw.Cel w0 (w.heap.size + 1) [.bool false, .slice none 0 0, .slice none 0 0]) := hw0 ▸ Rw.Cel.new_at _ [_, _, _] _ (by simp)
  have B0 : Hid (Below w.heap.size w w0) := hw0 ▸ bstep (below_alloc _ _) (below_alloc _ _)
  first | rw [hw0] | skip
  clear hw0
  have I0 := Lib.hid (HAM.out.stab _ _ HI.out HBs.out (B0.out.mono HBs.out) (Kep.of B0.out))
  have A0 := Lib.hid (HA.out.on B0.out)
  have S0 : Hid (B ≤ w0.heap.size) := Nat.le_trans HBs.out B0.out.size
  obtain ⟨x0, x1, x2⟩ := P0.out.three
  have y0 := (B0.out.cell (p := ⟨gb, 0, none⟩) hgl).trans HG.out
  have ID := Lib.hid (HAM.out.stab _ _ I0.out S0.out ((drew_below w0).mono S0.out) (Kep.of (drew_below w0)))
  have hst := HAM.out.step k q w0.drew HQ.out S0.out ID.out
  rw [show ba ++ (#[Value.int .i64 (k : Int)] ++ ca) = ba.push (.int .i64 k) ++ ca by simp] at hst
  have HST := Lib.hid hst
  clear hst
  clear hgl
  go_region_with ((first | (go_at_call 49; have hq2 := bstep (drew_below _) hb1; (refine (KA.out _ _ _ ?_ ?_).mono ?_); (exact A0.out.on hq2); (exact HI1.out); rintro e w2 h2; obtain ⟨b2, A2, n2, c2, B2, m2, d2, rfl, ho2, hb2⟩ := h2.open_; have HO2 := Lib.hid ho2; have HB2 := Lib.hid (bstep hq2 hb2); have hr2 := Lib.hid (R0.out.on HB2.out); obtain ⟨s0, s1, s2⟩ := hr2.out.three; obtain ⟨v0, v1, v2⟩ := hr2.out.warm3; clear h2 ho2 hb2 hq2) | (go_at_fn fn; refine HST.out.mono ?_; rintro e w1 ⟨b3, A3, n3, c3, B3, m3, d3, rfl, hi1, hb1⟩; have HI1 := Lib.hid hi1; clear hi1; obtain ⟨z0, z1, z2⟩ := (P0.out.on (bstep (drew_below _) hb1)).three)))
  all_goals
    go_wp2_with fail
    exact bodyPost_ret (res_rat2 Try.results48 rfl (hr2.out.put3 _ _ _)) rfl ⟨_, rfl, OutR.put3 HO2.out (cel_root hr2.out) _ _ _, Rw.below_put3 (bstep B0.out HB2.out) (Nat.le_succ _) _ _ _⟩
end Go.Proofs.Ytgmlccjjhmhgbaa.Tank
/- The program: filled, Fill. -/
namespace Go.Proofs.Ytgmlccjjhmhgbaa.Tank
open Go.ChangeShapes Go.WideShapes Go.RowKit Go.Lib
open Go.Proofs.Ytgmlccjjhmhgbaa.Mem (Cl eI Own)
open Go.Proofs.Ytgmlccjjhmhgbaa.Rw (Rd Row Kd Off glt get_lt below_alloc bstep wrap_id below_drewN below_drew drew_below take_snoc_of)
set_option linter.unusedVariables false
set_option maxRecDepth 100000

/-- What filled leaves. -/
def FlR (w : World) (E cap : Int) (V : List Rat) (e : Ending) (w' : World) : Prop :=
  ∃ x A n c, e = .returned (.tuple #[.agg #[.int .i64 x, .slice A n c], .int .i64 E]) ∧ Below w.heap.size w w' ∧ (¬ E = 0 → x = 0 ∧ A = none ∧ n = 0 ∧ c = 0) ∧ (E = 0 → InT w' (.agg #[.int .i64 x, .slice A n c]) cap (ts V) ∧ ∀ q ∈ V, fitR q = true)
def flE (cap : Int) (P Q : List Rat) : Int := if poB P Q then ckT cap (ts (poV P Q)) else 2
theorem getD_at {P : List Rat} {k : Nat} {q : Rat} (h : P[k]? = some q) : P.getD k 0 = q := by rw [List.getD_eq_getElem?_getD, h]; rfl
/-- The error of a sum of two parts. -/
def erP (P Q : List Rat) (k : Nat) : Int := okE (sumOk (P.getD k 0) (Q.getD k 0))
theorem erP_at {P Q : List Rat} {k : Nat} {q x : Rat} (hq : P[k]? = some q) (hx : Q[k]? = some x) : erP P Q k = okE (sumOk q x) := by unfold erP; rw [getD_at hq, getD_at hx]
theorem fE_po {P Q : List Rat} (h : P.length = Q.length) : fE (erP P Q) P.length = okE (poB P Q) := by
  rcases fE_spec (erP P Q) P.length with ⟨h1, h2⟩ | ⟨k, h1, h2, h3, -⟩
  · rw [h1]
    have : poB P Q = true := poB_ok fun k q x hq hx => by
      have := h2 k (glt hq)
      rw [erP_at hq hx] at this
      exact okE_zero.mp this
    rw [this]; rfl
  · rw [h3]
    obtain ⟨q, hq⟩ := get_lt h1
    obtain ⟨x, hx⟩ := get_lt (L := Q) (k := k) (by omega)
    rw [erP_at hq hx] at h2 ⊢
    have hs : sumOk q x = false := by
      cases hh : sumOk q x with
      | false => rfl
      | true => exact absurd (okE_zero.mpr hh) h2
    rw [hs, poB_bad hq hx hs]
theorem bcm_fill {fn : Nat} {ba ca : Array Value} {Q : List Rat} {B0 B gb : Nat} {I : World → Prop} {A : Option Addr} {L : List Trip} (ham : Amt fn ba ca Q B0 I) (hB : B0 ≤ B) (hg : gb < B) (hA : ∀ b off, A = some ⟨b, off, none⟩ → b < B) (hL : ∀ t ∈ L, vT t = true) (hQ : ∀ q ∈ Q, fitR q = true) :
    Bcm 48 #[] #[.pointer (some ⟨gb, 0, none⟩)] L (poV (qs L) Q) (erP (qs L) Q) B (fun _ => False) A (fun _ W => Rats W A L ∧ I W ∧ W.cell? ⟨gb, 0, none⟩ = some (.func (.func fn) ba ca)) where
  eg := enters_of Try.func48 (by kernel_rfl) rfl
  lt := fun y h => h.elim
  rats := fun k W h => h.1
  stab := fun k W W' h hs hb hk => ⟨Rats.kep h.1 hA (fun t ht => Or.inl (hL t ht)) hb hk, ham.stab W W' h.2.1 (Nat.le_trans hB hs) (hb.mono hB) hk, (hb.cell (p := ⟨gb, 0, none⟩) hg).trans h.2.2⟩
  fit := fun k z hz he => by
    obtain ⟨q, x, hq, hx, rfl⟩ := poV_get hz
    rw [erP_at hq hx] at he
    exact fit_sum (qs_fit hL q (List.mem_of_getElem? hq)) (hQ x (List.mem_of_getElem? hx)) (okE_zero.mp he)
  step := fun k t z W v ht hz hs hJ hi => by
    obtain ⟨q, x, hq, hx, rfl⟩ := poV_get hz
    have hv := hL t (List.mem_of_getElem? ht)
    rw [qs_at ht] at hq
    cases hq
    rw [erP_at (qs_at ht) hx]
    have hi2 := trip_isR hv hi
    refine (p_filled1 ham k (rT t) x (trip_form hv).1 (hQ x (List.mem_of_getElem? hx)) hx v W (Nat.le_trans hB hs) hJ.2.1 hi2 gb hJ.2.2).mono fun e w' h => StR.of h fun hb _ => ?_
    exact ⟨Rats.on hJ.1 hb, ham.stab W w' hJ.2.1 (Nat.le_trans hB hs) (hb.mono (Nat.le_trans hB hs)) (Kep.of hb), (hb.cell (p := ⟨gb, 0, none⟩) (World.block_lt_of_cell? W _ hJ.2.2)).trans hJ.2.2⟩
set_option maxHeartbeats 3200000 in
theorem p_filled {fn : Nat} {ba ca : Array Value} {Q : List Rat} {I : World → Prop} {w : World} (ham : Amt fn ba ca Q w.heap.size I) (hI : I w) (L : List Trip) (hQ : (qs L).length = Q.length) (hfq : ∀ q ∈ Q, fitR q = true) (hL : ∀ t ∈ L, vT t = true) (cap : Int) (A : Option Addr) (n c : Nat) (hn : n = L.length) (h0 : 0 < L.length) (ha : Rats w A L) (hm : n ≤ 8) :
    Calls Try.prog 33 #[.agg #[.int .i64 cap, .slice A n c], .func (.func fn) ba ca] w (FlR w (flE cap (qs L) Q) cap (poV (qs L) Q)) := by
  have HA := Lib.hid ha
  have HAM := Lib.hid ham
  have HI := Lib.hid hI
  have HN := Lib.hid (And.intro hn (And.intro hQ hm))
  have H0 := Lib.hid h0
  have HL := Lib.hid hL
  have HFQ := Lib.hid hfq
  have hfe : fE (erP (qs L) Q) n = okE (poB (qs L) Q) := by rw [hn, ← qs_len L]; exact fE_po hQ
  obtain ⟨p, hp⟩ : ∃ p, poB (qs L) Q = p := ⟨_, rfl⟩
  have HP := Lib.hid hp
  rw [hp] at hfe
  obtain ⟨E, hE⟩ : ∃ E, flE cap (qs L) Q = E := ⟨_, rfl⟩
  have HE : Hid (E = if p then ckT cap (ts (poV (qs L) Q)) else 2) := Lib.hid (by rw [← hE, ← hp]; rfl)
  have HFE := Lib.hid hfe
  rw [hE]
  obtain ⟨V, hV⟩ : ∃ V, poV (qs L) Q = V := ⟨_, rfl⟩
  have HVV := Lib.hid hV
  rw [hV] at HE ⊢
  clear ha ham hI hn hQ hm hL hfq hfe hp hE hV h0
  go_enter Try.func33, Try.ntmps33
  go_upto_region 1 with fail
  obtain ⟨w0, hw0⟩ : ∃ W, ((w.alloc (.cells #[.int .i64 cap, .slice A n c] 24)).alloc (.cells #[.func (.func fn) ba ca] 39)).alloc (.cells #[.int .i64 0, .slice none 0 0] 24) = W := ⟨_, rfl⟩
  have C0 : Hid (Rw.Cel w0 w.heap.size [.int .i64 cap, .slice A n c]) := hw0 ▸ ((Rw.Cel.new w [_, _] _).alloc _).alloc _
  have F0 : Hid (Rw.Cel w0 (w.heap.size + 1) [.func (.func fn) ba ca]) := hw0 ▸ (Rw.Cel.new_at _ [_] _ (by simp)).alloc _
  have R0 : Hid (Rw.Cel w0 (w.heap.size + 2) [.int .i64 0, .slice none 0 0]) := hw0 ▸ Rw.Cel.new_at _ [_, _] _ (by simp)
  have B0 : Hid (Below w.heap.size w w0) := hw0 ▸ bstep (bstep (below_alloc _ _) (below_alloc _ _)) (below_alloc _ _)
  first | rw [hw0] | skip
  clear hw0
  have I0 := Lib.hid (HAM.out.stab _ _ HI.out (Nat.le_refl _) B0.out (Kep.of B0.out))
  have A0 := Lib.hid (Rats.on HA.out B0.out)
  have f0 := F0.out.at_ 0 _ rfl
  have HAB := Lib.hid (Rats.lt A0.out H0.out)
  have KC := Lib.hid (p_changed (w := w0) (bcm_fill HAM.out (B := w0.heap.size) (gb := w.heap.size + 1) (A := A) (L := L) B0.out.size F0.out.lt HAB.out HL.out HFQ.out) (by rw [poV_len HN.out.2.1, qs_len]) cap n c HN.out.1 ⟨A0.out, I0.out, f0⟩ HN.out.2.2)
  rw [HFE.out, HVV.out] at KC
  clear f0
  obtain ⟨x0, x1⟩ := C0.out.two
  go_wp2_with fail
  refine KC.out.mono ?_
  rintro e w3 ⟨x, A3, n3, c3, rfl, ho, hs, hno, hyes⟩
  have hb := Off.below ho (Nat.le_refl _) (fun _ h => h.elim)
  have R3 := Lib.hid (R0.out.on hb)
  have B3 := Lib.hid (bstep B0.out hb)
  have NO3 := Lib.hid hno
  have YES3 := Lib.hid hyes
  clear ho hs hno hyes hb x0 x1
  go_upto_region 2 with fail
  obtain ⟨w4, hw4⟩ : ∃ W, w3.alloc (.cells #[.int .i64 x, .slice A3 n3 c3] 24) = W := ⟨_, rfl⟩
  have b4 : Below w3.heap.size w3 w4 := hw4 ▸ below_alloc _ _
  have D4 : Hid (Rw.Cel w4 w3.heap.size [.int .i64 x, .slice A3 n3 c3]) := hw4 ▸ Rw.Cel.new w3 [_, _] _
  have R4 := Lib.hid (R3.out.on b4)
  have B4 := Lib.hid (bstep B3.out b4)
  have L4 := Lib.hid R3.out.lt
  have HB4 := Lib.hid b4
  rw [hw4]
  clear hw4 b4
  cases p with
  | false =>
    obtain rfl : E = 2 := HE.out
    have zz : okE false = 2 := rfl
    rw [zz]
    obtain ⟨u0, u1⟩ := R4.out.two
    obtain ⟨v0, v1⟩ := R4.out.warm2
    go_wp2_with fail
    exact bodyPost_ret (res_tank2 Try.results33 rfl (R4.out.put2 _ _)) rfl ⟨0, none, 0, 0, rfl, Rw.below_put2 B4.out (by omega) _ _, fun _ => ⟨rfl, rfl, rfl, rfl⟩, fun h => by cases h⟩
  | true =>
  have zz : okE true = 0 := rfl
  rw [zz]
  obtain ⟨hT, -, hf⟩ := YES3.out rfl
  have HF := Lib.hid hf
  have T4 := Lib.hid (InT.on hT HB4.out)
  clear hT hf
  obtain ⟨A5, c5, e5, hl5, hr5⟩ := T4.out
  have e5' : x = cap ∧ A3 = A5 ∧ n3 = (ts V).length ∧ c3 = c5 := by
    simp only [Value.agg.injEq, Array.mk.injEq, List.cons.injEq, Value.int.injEq, Value.slice.injEq, and_true, true_and] at e5
    exact e5
  obtain ⟨rfl, rfl, hn3, rfl⟩ := e5'
  have K4 := Lib.hid (p_Check x (ts V) A3 n3 c3 hn3 w4 hr5 (by omega))
  have hE := HE.out
  rw [if_pos rfl] at hE
  rw [← hE] at K4
  clear hE e5 hr5 hn3 hl5
  obtain ⟨x0, x1⟩ := D4.out.two
  by_cases hz : E = 0
  · subst hz
    go_wp2_with fail
    refine K4.out.mono ?_
    rintro e w5 ⟨rfl, hb⟩
    have R5 := Lib.hid (R4.out.on hb)
    have B5 := Lib.hid (bstep B4.out hb)
    have D5 := Lib.hid (D4.out.on hb)
    have T5 := Lib.hid (InT.tank (T4.out.on hb) (ts_vZ HF.out) R5.out (.int .i64 x) (.slice A3 n3 c3))
    clear hb x0 x1
    obtain ⟨x0, x1⟩ := D5.out.two
    obtain ⟨u0, u1⟩ := R5.out.two
    obtain ⟨v0, v1⟩ := R5.out.warm2
    go_wp2_with fail
    exact bodyPost_ret (res_tank2 Try.results33 rfl (R5.out.put2 _ _)) rfl ⟨x, A3, n3, c3, rfl, Rw.below_put2 B5.out (by omega) _ _, fun h => absurd rfl h, fun _ => ⟨T5.out, HF.out⟩⟩
  · obtain ⟨z1, z2⟩ := ne_zero hz
    go_wp2_with fail
    refine K4.out.mono ?_
    rintro e w5 ⟨rfl, hb⟩
    have R5 := Lib.hid (R4.out.on hb)
    have B5 := Lib.hid (bstep B4.out hb)
    clear hb x0 x1
    obtain ⟨u0, u1⟩ := R5.out.two
    obtain ⟨v0, v1⟩ := R5.out.warm2
    go_wp2_with fail
    exact bodyPost_ret (res_tank2 Try.results33 rfl (R5.out.put2 _ _)) rfl ⟨0, none, 0, 0, rfl, Rw.below_put2 B5.out (by omega) _ _, fun _ => ⟨rfl, rfl, rfl, rfl⟩, fun h => absurd h hz⟩
end Go.Proofs.Ytgmlccjjhmhgbaa.Tank
