/- Compose of the program. -/
import Derived.Test.YtnblpooimgpgoaaIsoQ
namespace Go.Proofs.Ytnblpooimgpgoaa.Iso
open Go.ChangeShapes Go.WideShapes Go.RowKit Go.Lib Go.Proofs.Ytnblpooimgpgoaa.Rw
set_option linter.unusedVariables false
set_option maxRecDepth 100000

/-! ### Run by run -/
section
variable {a b : List Rn} {r : Rn}
def pcC (b : List Rn) (r : Rn) : List Rn := if r.2.2 then pcs (b.reverse.map revR) (lenM b - imT r.1 r.2.1 r.2.2) (lenM b - imF r.1 r.2.1 r.2.2) else pcs b (imF r.1 r.2.1 r.2.2) (imT r.1 r.2.1 r.2.2)
def cps (a b : List Rn) : List Rn := a.flatMap (pcC b)
theorem cps_snoc (a b : List Rn) (r : Rn) : cps (a ++ [r]) b = cps a b ++ pcC b r := by simp [cps]
theorem gd_revs (h : ∀ r ∈ b, gd r = true) : ∀ r ∈ b.reverse.map revR, gd r = true := fun r hr => by
  obtain ⟨s, hs, rfl⟩ := List.mem_map.mp hr
  exact gd_rev (h s (List.mem_reverse.mp hs))
theorem pcC_gd (h : ∀ r ∈ b, gd r = true) (r : Rn) : ∀ s ∈ pcC b r, gd s = true := by
  intro s hs
  unfold pcC at hs
  split at hs
  · exact pcs_gd (gd_revs h) _ _ s hs
  · exact pcs_gd h _ _ s hs
theorem cps_gd (h : ∀ r ∈ b, gd r = true) (a : List Rn) : ∀ s ∈ cps a b, gd s = true := by
  intro s hs
  obtain ⟨r, _, hr⟩ := List.mem_flatMap.mp hs
  exact pcC_gd h r s hr
theorem pcC_len (b : List Rn) (r : Rn) : (pcC b r).length ≤ b.length := by
  unfold pcC
  split
  · have := pcs_len (b.reverse.map revR) (lenM b - imT r.1 r.2.1 r.2.2) (lenM b - imF r.1 r.2.1 r.2.2)
    rw [List.length_map, List.length_reverse] at this; exact this
  · exact pcs_len _ _ _
theorem cps_len (a b : List Rn) : (cps a b).length ≤ a.length * b.length := by
  induction a with
  | nil => simp [cps]
  | cons r a ih =>
    have := pcC_len b r
    have e : cps (r :: a) b = pcC b r ++ cps a b := by simp [cps]
    rw [e, List.length_append, List.length_cons, Nat.succ_mul]; omega
theorem pcC_comp (hb : ∀ r ∈ b, gd r = true) (hr : gd r = true) (h : imT r.1 r.2.1 r.2.2 ≤ lenM b) : comp (exR r) b = some (ex (pcC b r)) := by
  have hp : ∀ r ∈ b, 1 ≤ r.2.1 := fun r hr => gd_pos (hb r hr)
  have hl := ex_len hp
  obtain ⟨g1, g2, g3, g4, g5, g6⟩ := gd_iff.mp hr
  rw [comp_some]
  unfold pcC
  cases hbk : r.2.2 with
  | false =>
    have hT : imT r.1 r.2.1 false = r.1 + r.2.1 := rfl
    have hF : imF r.1 r.2.1 false = r.1 := rfl
    rw [hbk, hT] at h
    rw [if_neg (by simp), pcs_ex hp, hT, hF]
    refine ⟨by rw [win_len (by omega), exR_len]; omega, fun k x hx => ?_⟩
    have hk := lt_of_get hx
    rw [exR_len] at hk
    rw [exR_at hk] at hx
    have hx2 := Option.some.inj hx
    have hxe : x = r.1 + k := by rw [← hx2]; unfold im; rw [hbk]; rfl
    have hin : x.toNat < (ex b).length := by omega
    refine ⟨(ex b)[x.toNat], ?_, ?_⟩
    · rw [atM_nn (by omega), List.getElem?_eq_getElem hin]
    · rw [win_at (by omega), show r.1.toNat + k = x.toNat by omega, List.getElem?_eq_getElem hin]
  | true =>
    have hT : imT r.1 r.2.1 true = r.1 + 1 := rfl
    have hF : imF r.1 r.2.1 true = r.1 - r.2.1 + 1 := rfl
    have g5' := g5 hbk
    rw [hbk, hT] at h
    rw [if_pos rfl, pcs_ex (fun r hr => gd_pos (gd_revs hb r hr)), ex_rev hp, hT, hF]
    have hlr : (ex b).reverse.length = (ex b).length := List.length_reverse
    refine ⟨by rw [win_len (by omega), exR_len]; omega, fun k x hx => ?_⟩
    have hk := lt_of_get hx
    rw [exR_len] at hk
    rw [exR_at hk] at hx
    have hx2 := Option.some.inj hx
    have hxe : x = r.1 - k := by rw [← hx2]; unfold im; rw [hbk]; rfl
    have hin : x.toNat < (ex b).length := by omega
    refine ⟨(ex b)[x.toNat], ?_, ?_⟩
    · rw [atM_nn (by omega), List.getElem?_eq_getElem hin]
    · rw [win_at (by omega), List.getElem?_reverse (by omega), show (ex b).length - 1 - ((lenM b - (r.1 + 1)).toNat + k) = x.toNat by omega, List.getElem?_eq_getElem hin]
theorem cps_comp (hb : ∀ r ∈ b, gd r = true) : ∀ (a : List Rn), (∀ r ∈ a, gd r = true ∧ imT r.1 r.2.1 r.2.2 ≤ lenM b) → comp (ex a) b = some (ex (cps a b))
  | [], _ => rfl
  | r :: a, h => by
    have h1 := pcC_comp hb (h r (by simp)).1 (h r (by simp)).2
    have h2 := cps_comp hb a fun s hs => h s (by simp [hs])
    have e : cps (r :: a) b = pcC b r ++ cps a b := by simp [cps]
    rw [ex_cons, comp_append, h1, h2, e, ex_append]; rfl
theorem comp_out (hb : ∀ r ∈ b, gd r = true) (ha : r ∈ a) (hr : gd r = true) (h : lenM b < imT r.1 r.2.1 r.2.2) : comp (ex a) b = none := by
  obtain ⟨g1, g2, g3, g4, g5, g6⟩ := gd_iff.mp hr
  have hm : imT r.1 r.2.1 r.2.2 - 1 ∈ exR r := by
    rw [mem_exR]
    cases hbk : r.2.2 with
    | true => exact ⟨0, by omega, by unfold imT im; rw [hbk]; simp⟩
    | false => exact ⟨r.2.1.toNat - 1, by omega, by unfold imT im; rw [hbk]; simp; omega⟩
  refine comp_bad (mem_ex.mpr ⟨r, ha, hm⟩) ?_
  rw [atM_none fun s hs => gd_pos (hb s hs)]
  right; omega
end
def cmpE (a b : List Rn) : Int := if bothE a b = 0 then (match comp (ex a) b with | none => 21 | some X => fulE (nfL X)) else bothE a b
def cmpL (a b : List Rn) : List Rn := if bothE a b = 0 then (match comp (ex a) b with | none => [] | some X => fulL (nfL X)) else []
theorem img_lim {r : Rn} (h : gd r = true) : 0 ≤ imF r.1 r.2.1 r.2.2 ∧ imF r.1 r.2.1 r.2.2 ≤ imT r.1 r.2.1 r.2.2 ∧ imT r.1 r.2.1 r.2.2 ≤ 17179869184 := by
  obtain ⟨g1, g2, g3, g4, g5, g6⟩ := gd_iff.mp h
  unfold imF imT ml at *
  cases hb : r.2.2 with
  | true => have := g5 hb; simp; omega
  | false => have := g6 hb; simp; omega

theorem field_to (x y : Int) (W : World) : (Instr.field 28 (.agg #[.int .i64 x, .int .i64 y]) 1).run Try.prog W = .ok (.int .i64 y) W := by kernel_rfl
/-- No image goes beyond. -/
def Fit (a b : List Rn) (k : Nat) : Prop := ∀ (j : Nat) (r : Rn), j < k → a[j]? = some r → imT r.1 r.2.1 r.2.2 ≤ lenM b
set_option maxHeartbeats 3200000 in
theorem iso_Compose (a b : List Rn) (A B : Option Addr) (c d : Nat) (w : World) (ha : Rns w A a) (hb : Rns w B b) (hm : a.length ≤ 9223372036854775807) (hm2 : b.length ≤ 9223372036854775807) :
    Calls Try.prog 30 #[.slice A a.length c, .slice B b.length d] w (Res (cmpL a b) (cmpE a b) w) := by
  have hmf : ∀ (fn : Fn) (first cap : Array Value) (w : World), (Instr.makeFunc fn first cap).run Try.prog w = .ok (.func fn first cap) w := fun _ _ _ _ => rfl
  have HA := Lib.hid ha
  have HB := Lib.hid hb
  clear ha hb
  obtain ⟨E, hE⟩ : ∃ E, cmpE a b = E := ⟨_, rfl⟩
  obtain ⟨M, hM⟩ : ∃ M, cmpL a b = M := ⟨_, rfl⟩
  rw [hE, hM]
  have HE := Lib.hid hE
  have HM := Lib.hid hM
  clear hE hM
  have HCk : Hid (∀ W, Rns W A a → Rns W B b → Calls Try.prog 57 #[.slice A a.length c, .slice B b.length d] W fun e w' => e = .returned (.int .i64 (bothE a b)) ∧ Below W.heap.size W w') := fun W h1 h2 => iso_checkBoth a b A B c d W h1 h2 hm hm2
  clear hm hm2
  go_enter Try.func30, Try.ntmps30
  go_wp2_with fail
  refine (HCk.out w HA.out HB.out).mono ?_
  rintro e w1 ⟨rfl, hb1⟩
  have HB1 := Lib.hid hb1
  clear hb1
  by_cases hz : bothE a b = 0
  · have HV := Lib.hid (both_zero hz)
    rw [hz]
    have HZ := Lib.hid hz
    clear hz
    have hla := HV.out.1.n
    have hlb := HV.out.2.n
    obtain ⟨Q, hQ⟩ : ∃ Q, lenM b = Q := ⟨_, rfl⟩
    have hq1 : 0 ≤ Q ∧ Q ≤ 17179869184 := ⟨hQ ▸ lenM_nonneg HV.out.2.pos, hQ ▸ HV.out.2.len⟩
    have HQ := Lib.hid hQ
    have HT : Hid (∀ W, Rns W B b → Calls Try.prog 42 #[.slice B b.length d] W fun e w' => e = .returned (.int .i64 Q) ∧ Below W.heap.size W w') := fun W h => by
      rw [← hQ]; exact iso_total b B d W h (by omega) HV.out.2.lims
    have HRv : Hid (∀ W, Rns W B b → Calls Try.prog 59 #[.slice B b.length d] W (ResF (b.reverse.map revR) W)) := fun W h => iso_reversed b B d W h HV.out.2.all (by omega)
    clear hQ
    go_wp2_with fail
    refine (HT.out w1 (HB.out.on HB1.out)).mono ?_
    rintro e w2 ⟨rfl, hb2⟩
    have HB2 := Lib.hid (bstep HB1.out hb2)
    clear hb2
    go_wp2_with fail
    go_loopw [25] (fun i wr => ∃ k : Nat, k ≤ a.length ∧ i = .int .i64 k ∧ Fit a b k ∧ Below w.heap.size w wr) (fun i _ => a.length - (intOf i).toNat)
    case atStart => exact ⟨0, Nat.zero_le _, rfl, fun j r h => absurd h (by omega), HB2.out⟩
    case round =>
      obtain ⟨k, hk, rfl, hf, hbel⟩ := hrel
      have HF := Lib.hid hf
      have HBr := Lib.hid hbel
      clear hf hbel
      rcases Nat.lt_or_ge k a.length with hlt | hge
      · obtain ⟨r, hr⟩ := get_lt hlt
        have HG := Lib.hid (HV.out.1.all r (List.mem_of_getElem? hr))
        obtain ⟨b0, off, rfl, hb0, d0, d1, d2⟩ := rd_at (HA.out.on HBr.out) hr
        have HR := Lib.hid hr
        have hlim := img_lim HG.out
        obtain ⟨g1, g2, g3, g4, -, -⟩ := gd_iff.mp HG.out
        have HIm := Lib.hid fun W => iso_images r.1 r.2.1 r.2.2 W (by unfold big; unfold ml at *; omega) (by unfold big; unfold ml at *; omega)
        obtain ⟨T, hT⟩ : ∃ T, imT r.1 r.2.1 r.2.2 = T := ⟨_, rfl⟩
        rw [hT] at HIm
        have HTT := Lib.hid hT
        have hfd := field_to (imF r.1 r.2.1 r.2.2) T
        clear hr hlim g1 g2 g3 g4 hT
        go_wp2_with fail
        refine (HIm.out _).mono ?_
        rintro e w3 ⟨rfl, hb3⟩
        have HB3 := Lib.hid (bstep (HBr.out.alloc HBr.out.size _) hb3)
        clear hb3
        by_cases hbig : Q < T
        · have hn : comp (ex a) b = none := comp_out HV.out.2.all (List.mem_of_getElem? HR.out) HG.out (by rw [HTT.out, HQ.out]; exact hbig)
          obtain rfl : E = 21 := by rw [← HE.out]; unfold cmpE; rw [if_pos HZ.out, hn]
          obtain rfl : M = [] := by rw [← HM.out]; unfold cmpL; rw [if_pos HZ.out, hn]
          clear hn
          go_wp2_with fail
          go_ret2
          exact Res.err HB3.out
        · have hbig' : decide (Q < T) = false := decide_eq_false hbig
          have HLe : Hid (imT r.1 r.2.1 r.2.2 ≤ lenM b) := by rw [HTT.out, HQ.out]; unfold Hid; omega
          clear hbig
          go_wp2_with fail
          go_roundw
          case rel =>
            refine ⟨k + 1, by omega, by go_num, fun j s hj hs => ?_, HB3.out⟩
            rcases Nat.lt_or_eq_of_le (Nat.le_of_lt_succ hj) with h | h
            · exact HF.out j s h hs
            · subst h
              have e := HR.out
              rw [hs] at e; cases e; exact HLe.out
          case measure => simp [intOf]; omega
      · obtain rfl : k = a.length := by omega
        obtain ⟨wq, rfl⟩ : ∃ W, W = wr := ⟨wr, rfl⟩
        have HFit : Hid (∀ r ∈ a, gd r = true ∧ imT r.1 r.2.1 r.2.2 ≤ lenM b) := fun r hr => by
          obtain ⟨j, hj⟩ := List.mem_iff_getElem?.mp hr
          exact ⟨HV.out.1.all r hr, HF.out j r (glt hj) hj⟩
        have hX : comp (ex a) b = some (ex (cps a b)) := cps_comp HV.out.2.all a HFit.out
        have HE2 : Hid (fulE (nfL (ex (cps a b))) = E) := by rw [← HE.out]; unfold cmpE; rw [if_pos HZ.out, hX]; exact Lib.hid rfl
        have HM2 : Hid (fulL (nfL (ex (cps a b))) = M) := by rw [← HM.out]; unfold cmpL; rw [if_pos HZ.out, hX]; exact Lib.hid rfl
        have HXL := Lib.hid (comp_some.mp hX).1
        clear hX
        go_upto_region 12 with fail
        generalize hw3 : wq.alloc (.cells #[.slice none 0 0] 68) = w3
        have HN3 : Hid (Nm w3 wq.heap.size (fun y => y = wq.heap.size) []) := hw3 ▸ Nm.new wq
        have HB3 : Hid (Below w.heap.size w w3) := hw3 ▸ HBr.out.alloc HBr.out.size _
        have hg3 : wq.heap.size < w3.heap.size := HN3.out.lt _ rfl
        clear hw3
        go_wp2_with fail
        refine (HRv.out w3 (HB.out.on HB3.out)).mono ?_
        rintro e w4 ⟨At, ct, rfl, hmp4, hfr, hb4⟩
        have HAt := Lib.hid hmp4.1
        have HFr : Hid (∀ (b0 off : Nat), At = some ⟨b0, off, none⟩ → wq.heap.size < b0) := fun b0 off e => Nat.lt_of_lt_of_le hg3 (hfr b0 off e)
        have HN4 := Lib.hid (HN3.out.on hb4)
        have HB4 := Lib.hid (bstep HB3.out hb4)
        have HGw : Hid (w.heap.size ≤ wq.heap.size) := HBr.out.size
        obtain ⟨N4, hN4⟩ : ∃ N, (b.reverse.map revR).length = N := ⟨_, rfl⟩
        have hN4b : N4 = b.length := by rw [← hN4, List.length_map, List.length_reverse]
        have HGv : Hid (∀ r ∈ b.reverse.map revR, gd r = true) := gd_revs HV.out.2.all
        have HVr0 : Hid (∀ (M0 : List Rn), (∀ s ∈ M0, gd s = true) → M0.length ≤ 70000 → lenM M0 ≤ 17592186044416 → ∀ (f t : Int), (-big ≤ f ∧ f ≤ big) → (-big ≤ t ∧ t ≤ big) → ∀ (W : World) (S' : Nat → Prop), Nm W wq.heap.size S' (nfL (ex M0)) → Rns W At (b.reverse.map revR) → (∀ (k : Nat) (r : Rn), (b.reverse.map revR)[k]? = some r → ∀ (b0 off : Nat), At = some ⟨b0, off, none⟩ → ¬ S' b0) →
            Calls Try.prog 47 #[.slice At N4 ct, .agg #[.int .i64 f, .int .i64 t], .func (.func 60) #[.pointer (some ⟨wq.heap.size, 0, none⟩)] #[]] W (VisP (nmJ wq.heap.size M0) (pcs (b.reverse.map revR) f t) S' W)) :=
          fun M0 h1 h2 h3 f t hf ht W S' hj hr hn => by
            rw [← hN4]
            exact iso_visit (b.reverse.map revR) (nm_vis _ _ M0 h1 h2 h3 (by rw [List.length_map, List.length_reverse]; omega)) (by unfold nmJ; rw [List.append_nil]; exact hj) At ct hr hn HGv.out (by rw [List.length_map, List.length_reverse]; omega) f t hf ht
        have HVo0 : Hid (∀ (M0 : List Rn), (∀ s ∈ M0, gd s = true) → M0.length ≤ 70000 → lenM M0 ≤ 17592186044416 → ∀ (f t : Int), (-big ≤ f ∧ f ≤ big) → (-big ≤ t ∧ t ≤ big) → ∀ (W : World) (S' : Nat → Prop), Nm W wq.heap.size S' (nfL (ex M0)) → Rns W B b → (∀ (k : Nat) (r : Rn), b[k]? = some r → ∀ (b0 off : Nat), B = some ⟨b0, off, none⟩ → ¬ S' b0) →
            Calls Try.prog 47 #[.slice B b.length d, .agg #[.int .i64 f, .int .i64 t], .func (.func 60) #[.pointer (some ⟨wq.heap.size, 0, none⟩)] #[]] W (VisP (nmJ wq.heap.size M0) (pcs b f t) S' W)) :=
          fun M0 h1 h2 h3 f t hf ht W S' hj hr hn =>
            iso_visit b (nm_vis _ _ M0 h1 h2 h3 (by omega)) (by unfold nmJ; rw [List.append_nil]; exact hj) B d hr hn HV.out.2.all (by omega) f t hf ht
        rw [hN4]
        clear hmp4 hfr hb4 hN4 hN4b hg3
        go_wp2_with fail
        go_loopw [39] (fun i wr => ∃ (k : Nat) (S' : Nat → Prop), k ≤ a.length ∧ i = .int .i64 k ∧ Nm wr wq.heap.size S' (nfL (ex (cps (a.take k) b))) ∧ (∀ y, S' y → y = wq.heap.size ∨ w4.heap.size ≤ y) ∧ Off (fun y => y = wq.heap.size) w4 wr) (fun i _ => a.length - (intOf i).toNat)
        case atStart => exact ⟨0, _, Nat.zero_le _, rfl, HN4.out, fun y hy => Or.inl hy, Off.refl _ _⟩
        case round =>
          obtain ⟨k, S', hk, rfl, hnm, hs, hoff⟩ := hrel
          have HNl := Lib.hid hnm
          have HSl := Lib.hid hs
          have HOl := Lib.hid hoff
          clear hnm hs hoff
          rcases Nat.lt_or_ge k a.length with hlt | hge
          · obtain ⟨r, hr⟩ := get_lt hlt
            have hrm := List.mem_of_getElem? hr
            have HG := Lib.hid (HV.out.1.all r hrm)
            have HPS : Hid (cps (a.take (k + 1)) b = cps (a.take k) b ++ pcC b r) := by rw [take_snoc_of hr, cps_snoc]; exact Lib.hid rfl
            have HBl : Hid (Below w.heap.size w wr) := HB4.out.trans (HOl.out.below HB4.out.size fun y hy => by rw [hy]; exact HGw.out)
            obtain ⟨b0, off, hA0, hb0, d0, d1, d2⟩ := rd_at (HA.out.on HBl.out) hr
            subst hA0
            have hlim := img_lim HG.out
            have hfit := (HFit.out r hrm).2
            obtain ⟨g1, g2, g3, g4, -, -⟩ := gd_iff.mp HG.out
            have HIm := Lib.hid fun W => iso_images r.1 r.2.1 r.2.2 W (by unfold big; unfold ml at *; omega) (by unfold big; unfold ml at *; omega)
            obtain ⟨bk, hbk⟩ : ∃ bk, r.2.2 = bk := ⟨_, rfl⟩
            rw [hbk] at d2 HIm hlim hfit
            have HBK := Lib.hid hbk
            obtain ⟨T, hT⟩ : ∃ T, imT r.1 r.2.1 bk = T := ⟨_, rfl⟩
            obtain ⟨F, hF⟩ : ∃ F, imF r.1 r.2.1 bk = F := ⟨_, rfl⟩
            rw [hT, hF] at HIm hlim
            rw [hT, HQ.out] at hfit
            have HTT := Lib.hid hT
            have HFF := Lib.hid hF
            have e1 : IntKind.i64.wrap (Q - T) = Q - T := wrap_id (by omega)
            have e2 : IntKind.i64.wrap (Q - F) = Q - F := wrap_id (by omega)
            have hM1 : ∀ s ∈ cps (a.take k) b, gd s = true := cps_gd HV.out.2.all _
            have hM2 : (cps (a.take k) b).length ≤ 70000 := by
              have h1 := cps_len (a.take k) b
              have h2 : (a.take k).length * b.length ≤ 256 * 256 := Nat.mul_le_mul (by rw [List.length_take]; omega) hlb
              omega
            have hM3 : lenM (cps (a.take k) b) ≤ 17592186044416 := by
              have h1 := (comp_some.mp (cps_comp HV.out.2.all (a.take k) fun s hs => HFit.out s (List.mem_of_mem_take hs))).1
              have h2 := ex_len (m := cps (a.take k) b) fun s hs => gd_pos (hM1 s hs)
              have h3 := ex_len (m := a.take k) fun s hs => gd_pos (HFit.out s (List.mem_of_mem_take hs)).1
              have h4 := (lenM_le (m := a) HV.out.1.pos k).2
              have h5 := HV.out.1.len
              unfold ml at h5
              omega
            have HVr := Lib.hid (HVr0.out (cps (a.take k) b) hM1 hM2 hM3 (Q - T) (Q - F) (by unfold big; omega) (by unfold big; omega))
            have HVo := Lib.hid (HVo0.out (cps (a.take k) b) hM1 hM2 hM3 F T (by unfold big; omega) (by unfold big; omega))
            clear hr hrm hlim hfit g1 g2 g3 g4 hbk hT hF hM1 hM2 hM3
            go_upto_region 16 with fail
            generalize hw5 : wr.alloc (.cells #[.int .i64 r.1, .int .i64 r.2.1, .bool bk] 48) = w5
            have HB5 : Hid (Below wr.heap.size wr w5) := hw5 ▸ below_alloc _ _
            have HR5 : Hid (Cel w5 wr.heap.size [.int .i64 r.1, .int .i64 r.2.1, .bool bk]) := hw5 ▸ Cel.new _ _ _
            clear hw5 d0 d1 d2
            obtain ⟨r0, r1, r2⟩ := HR5.out.three
            go_wp2_with fail
            refine (HIm.out _).mono ?_
            rintro e w6' ⟨rfl, hb6⟩
            have HB6' := Lib.hid hb6
            have HR6' := Lib.hid (HR5.out.on hb6)
            clear hb6 r0 r1 r2
            go_upto_region 17 with fail
            generalize hw6 : w6'.alloc (.cells #[.int .i64 F, .int .i64 T] 28) = w6
            have HB6 : Hid (Below wr.heap.size wr w6) := hw6 ▸ bstep (bstep HB5.out HB6'.out) (below_alloc _ _)
            have HR6 : Hid (Cel w6 wr.heap.size [.int .i64 r.1, .int .i64 r.2.1, .bool bk]) := hw6 ▸ HR6'.out.alloc _
            have HX6 : Hid (Cel w6 w6'.heap.size [.int .i64 F, .int .i64 T]) := hw6 ▸ Cel.new _ _ _
            clear hw6
            have HN6 := Lib.hid (HNl.out.on HB6.out)
            have HO6 : Hid (Off (fun y => y = wq.heap.size) w4 w6) := HOl.out.then_below HB6.out
            have HAt6 : Hid (Rns w6 At (b.reverse.map revR)) := HAt.out.off HO6.out fun b1 off1 e h => by have := HFr.out b1 off1 e; omega
            have HBw6 : Hid (Rns w6 B b) := HB.out.on (bstep HBl.out HB6.out)
            have HNt : Hid (∀ (k : Nat) (r : Rn), (b.reverse.map revR)[k]? = some r → ∀ (b0 off : Nat), At = some ⟨b0, off, none⟩ → ¬ S' b0) := fun k r hr b1 off1 e h => by
              have h1 := HFr.out b1 off1 e
              have h2 := rd_old HAt.out k r hr b1 off1 e
              rcases HSl.out b1 h with h3 | h3 <;> omega
            have HNo : Hid (∀ (k : Nat) (r : Rn), b[k]? = some r → ∀ (b0 off : Nat), B = some ⟨b0, off, none⟩ → ¬ S' b0) := fun k r hr b1 off1 e h => by
              have h1 := rd_old HB.out k r hr b1 off1 e
              have h2 := HGw.out
              have h4 := HB4.out.size
              rcases HSl.out b1 h with h3 | h3 <;> omega
            obtain ⟨x0, x1⟩ := HX6.out.two
            obtain ⟨r0, r1, r2⟩ := HR6.out.three
            cases bk with
            | true =>
              have HPC : Hid (cps (a.take (k + 1)) b = cps (a.take k) b ++ pcs (b.reverse.map revR) (Q - T) (Q - F)) := HPS.out.trans (by unfold pcC; rw [HBK.out, if_pos rfl, HTT.out, HFF.out, HQ.out])
              go_wp2_with fail
              refine (HVr.out w6 S' HN6.out HAt6.out HNt.out).mono ?_
              rintro e w7 ⟨rfl, S5, hj5, hs5, ho5⟩
              have HJ5 : Hid (Nm w7 wq.heap.size S5 (nfL (ex (cps (a.take (k + 1)) b)))) := by rw [HPC.out]; exact hj5
              have HS5 := Lib.hid hs5
              have HO5 := Lib.hid ho5
              clear hj5 hs5 ho5 x0 x1 r0 r1 r2
              go_wp2_with fail
              go_roundw
              case rel =>
                refine ⟨k + 1, S5, by omega, by go_num, HJ5.out, fun y hy => ?_, HO6.out.trans HO5.out fun y hy => HSl.out y hy⟩
                rcases HS5.out y hy with h | h
                · exact HSl.out y h
                · exact Or.inr (Nat.le_trans HO6.out.size h)
              case measure => simp [intOf]; omega
            | false =>
              have HPC : Hid (cps (a.take (k + 1)) b = cps (a.take k) b ++ pcs b F T) := HPS.out.trans (by unfold pcC; rw [HBK.out, if_neg (by simp), HTT.out, HFF.out])
              go_wp2_with fail
              refine (HVo.out w6 S' HN6.out HBw6.out HNo.out).mono ?_
              rintro e w7 ⟨rfl, S5, hj5, hs5, ho5⟩
              have HJ5 : Hid (Nm w7 wq.heap.size S5 (nfL (ex (cps (a.take (k + 1)) b)))) := by rw [HPC.out]; exact hj5
              have HS5 := Lib.hid hs5
              have HO5 := Lib.hid ho5
              clear hj5 hs5 ho5 x0 x1 r0 r1 r2
              go_wp2_with fail
              go_roundw
              case rel =>
                refine ⟨k + 1, S5, by omega, by go_num, HJ5.out, fun y hy => ?_, HO6.out.trans HO5.out fun y hy => HSl.out y hy⟩
                rcases HS5.out y hy with h | h
                · exact HSl.out y h
                · exact Or.inr (Nat.le_trans HO6.out.size h)
              case measure => simp [intOf]; omega
          · obtain rfl : k = a.length := by omega
            have hn := HNl.out
            rw [List.take_length] at hn
            obtain ⟨A5, c5, q0, hrow, -, -, -⟩ := hn.reads
            obtain ⟨A6, c6, e6, hle, -, hrd, -⟩ := hrow.one cR_len
            cases e6
            have hlen : (nfL (ex (cps a b))).length ≤ 70000 := by
              have h0 := nfL_len (m := cps a b) fun s hs => gd_pos (cps_gd HV.out.2.all a s hs)
              have h1 := cps_len a b
              have h2 : a.length * b.length ≤ 256 * 256 := Nat.mul_le_mul hla hlb
              omega
            have HLi := Lib.hid (iso_limited (nfL (ex (cps a b))) A5 c5 wr hrd hle (by omega))
            rw [HE2.out, HM2.out] at HLi
            have HBl : Hid (Below w.heap.size w wr) := HB4.out.trans (HOl.out.below HB4.out.size fun y hy => by rw [hy]; exact HGw.out)
            obtain ⟨N5, hN5⟩ : ∃ N, (nfL (ex (cps a b))).length = N := ⟨_, rfl⟩
            rw [hN5] at HLi q0
            clear hn hrow hle hrd hlen hN5
            go_wp2_with fail
            refine HLi.out.mono ?_
            rintro e w8 ⟨A8, c8, rfl, hr8, hb8⟩
            have HR8 := Lib.hid hr8
            have HB8 := Lib.hid (bstep HBl.out hb8)
            obtain ⟨N8, hN8⟩ : ∃ N, M.length = N := ⟨_, rfl⟩
            rw [hN8]
            have HN8 := Lib.hid hN8
            clear hr8 hb8 hN8
            go_wp2_with fail
            go_ret2
            exact ⟨A8, c8, ret_map HN8.out.symm rfl, HR8.out, HB8.out⟩
  · obtain ⟨z1, z2⟩ := ne_tests hz
    obtain rfl : bothE a b = E := by rw [← HE.out]; unfold cmpE; rw [if_neg hz]
    obtain rfl : M = [] := by rw [← HM.out]; unfold cmpL; rw [if_neg hz]
    clear hz
    go_wp2_with fail
    go_ret2
    exact Res.err HB1.out
#print axioms iso_Compose
end Go.Proofs.Ytnblpooimgpgoaa.Iso
