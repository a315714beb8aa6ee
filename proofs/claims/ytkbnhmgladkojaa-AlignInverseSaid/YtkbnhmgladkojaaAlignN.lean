/- Cover of both. -/
import Derived.Test.YtkbnhmgladkojaaAlignK
namespace Go.Proofs.Ytkbnhmgladkojaa.Align
open Go.ChangeShapes Go.WideShapes Go.RowKit Go.Lib Go.Proofs.Ytkbnhmgladkojaa.Rw
set_option linter.unusedVariables false
set_option maxRecDepth 100000

theorem cov_bad {L : List Mk} (hz : ¬ chkA L = 0) (f t : Int) : covE L f t = chkA L ∧ covV L f t = (0, 0) := by
  have e : covE L f t = chkA L := by unfold covE; rw [if_neg hz]
  exact ⟨e, by unfold covV; rw [e, if_neg (fun h => hz h.1)]⟩
theorem cov_out {L : List Mk} {m q : Mk} {N : Nat} (hz : chkA L = 0) (h : Ac L m q N) {f t : Int} (hn : t < f ∨ (f < t ∧ (f < m.1 ∨ q.1 + 1 < t))) : covE L f t = 1 ∧ covV L f t = (0, 0) := by
  have e : covE L f t = 1 := by unfold covE; rw [if_pos hz, h.fs, h.la, if_neg (by omega)]
  exact ⟨e, by unfold covV; rw [e, if_neg (fun h => by have := h.1; omega)]⟩
theorem cov_nil {L : List Mk} (hz : chkA L = 0) (f : Int) : covE L f f = 0 ∧ covV L f f = (0, 0) := by
  have e : covE L f f = 0 := by unfold covE; rw [if_pos hz, if_pos (Or.inl rfl)]
  exact ⟨e, by unfold covV; rw [if_neg (by omega)]⟩
theorem cov_in {L : List Mk} {m q : Mk} {N : Nat} (hz : chkA L = 0) (h : Ac L m q N) {f t : Int} (h0 : f < t) (h1 : m.1 ≤ f) (h2 : t ≤ q.1 + 1) : covE L f t = 0 ∧ covV L f t = (valA L f, valA L (t - 1) + 1) := by
  have e : covE L f t = 0 := by unfold covE; rw [if_pos hz, h.fs, h.la, if_pos (Or.inr ⟨h0, h1, h2⟩)]
  exact ⟨e, by unfold covV; rw [if_pos ⟨e, h0⟩]⟩
theorem valA_lim {L : List Mk} (hz : chkA L = 0) {m q : Mk} {N : Nat} (h : Ac L m q N) {a : Int} (h0 : m.1 ≤ a) (h1 : a ≤ q.1) : 0 ≤ valA L a ∧ valA L a ≤ 17179869184 := by
  obtain ⟨m', r, rfl, hv⟩ := Va.of hz
  obtain rfl : m' = m := h.fs
  obtain rfl : end_ m' r = q := h.la
  have := hv.fwd_in h0 h1
  have hm := h.at_ h.fst
  have hq := h.at_ h.lst
  show 0 ≤ fwd m' r a ∧ fwd m' r a ≤ 17179869184
  omega
theorem res_span2 {fn : Func} {p u : Tmp} (h : fn.results = #[.cell p 31, .tmp u]) {tmps : Array Value} {w : World} {g : Nat} {x y : Int} (hp : tmps.getD p undef = .pointer (some ⟨g, 0, none⟩))
    (hc : Cel w g [.int .i64 x, .int .i64 y]) : (results fn tmps).run Try.prog w = .ok (.tuple #[.agg #[.int .i64 x, .int .i64 y], tmps.getD u undef]) w := by
  have hp' : tmps[p]?.getD undef = .pointer (some ⟨g, 0, none⟩) := by simpa using hp
  obtain ⟨h0, h1⟩ := hc.two
  simp [results, h, hp', go_sem, h0, h1]
/-- A span and an error. -/
def CovP (x y E : Int) (w : World) (e : Ending) (w' : World) : Prop := e = .returned (.tuple #[.agg #[.int .i64 x, .int .i64 y], .int .i64 E]) ∧ Below w.heap.size w w'

set_option maxHeartbeats 3200000 in
theorem align_Cover (L : List Mk) (A : Option Addr) (c : Nat) (f t : Int) (w : World) (ha : Mks w A L) (hm : L.length ≤ 9223372036854775807) (hcap : L.length ≤ c) (hf : -9223372036854775808 ≤ f ∧ f ≤ 9223372036854775807) (ht : -9223372036854775808 ≤ t ∧ t ≤ 9223372036854775807) :
    Calls Try.prog 19 #[.slice A L.length c, .agg #[.int .i64 f, .int .i64 t]] w (CovP (covV L f t).1 (covV L f t).2 (covE L f t) w) := by
  have HA := Lib.hid ha
  have HF := Lib.hid fun (x : Int) (W : World) (h : Mks W A L) => align_Forward L A c x W h hm hcap
  clear ha
  obtain ⟨E, hE⟩ : ∃ E, covE L f t = E := ⟨_, rfl⟩
  obtain ⟨lo, hi, hV⟩ : ∃ lo hi, covV L f t = (lo, hi) := ⟨_, _, rfl⟩
  rw [hV, hE]
  have HV := Lib.hid hV
  have HE := Lib.hid hE
  have HCk := Lib.hid fun (W : World) (h : Mks W A L) => align_Check L A c W h hm hcap
  clear hV hE
  go_enter Try.func19, Try.ntmps19
  go_upto_region 1 with fail
  obtain ⟨w0, hw0⟩ : ∃ W, (w.alloc (.cells #[.int .i64 f, .int .i64 t] 31)).alloc (.cells #[.int .i64 0, .int .i64 0] 31) = W := ⟨_, rfl⟩
  have H0 : Hid (Cel w0 w.heap.size [.int .i64 f, .int .i64 t]) := hw0 ▸ (Cel.new w [.int .i64 f, .int .i64 t] _).alloc _
  have R0 : Hid (Cel w0 (w.heap.size + 1) [.int .i64 0, .int .i64 0]) := hw0 ▸ Cel.new_at _ [.int .i64 0, .int .i64 0] _ (by simp)
  have HB0 : Hid (Below w.heap.size w w0) := hw0 ▸ bstep (below_alloc _ _) (below_alloc _ _)
  rw [hw0]
  clear hw0
  go_wp2_with fail
  refine (HCk.out w0 (HA.out.on HB0.out)).mono ?_
  rintro e w1 ⟨rfl, hb1⟩
  have HB1 := Lib.hid (bstep HB0.out hb1)
  have H1 := Lib.hid (H0.out.on hb1)
  have R1 := Lib.hid (R0.out.on hb1)
  clear hb1 HCk H0 R0
  obtain ⟨x0, x1⟩ := H1.out.two
  obtain ⟨y0, y1⟩ := R1.out.two
  obtain ⟨z0, z1⟩ := R1.out.warm2
  by_cases hz : chkA L = 0
  · obtain ⟨m, q, N, hac⟩ := Ac.of hz
    have HZ := Lib.hid hz
    have HC := Lib.hid hac
    have hml := hac.at_ hac.fst
    have hql := hac.at_ hac.lst
    rw [hz]
    clear hz
    rcases Int.lt_or_le t f with h0 | h0
    · have d0 : decide (t < f) = true := decide_eq_true h0
      obtain ⟨e1, e2⟩ := cov_out HZ.out hac (Or.inl h0)
      obtain rfl : E = 1 := by rw [← HE.out]; exact e1
      obtain ⟨rfl, rfl⟩ : 0 = lo ∧ 0 = hi := by rw [HV.out] at e2; exact ⟨(congrArg Prod.fst e2).symm, (congrArg Prod.snd e2).symm⟩
      clear e1 e2
      clear h0 hac
      go_wp2_with fail
      exact bodyPost_ret (res_span2 Try.results19 rfl (R1.out.put2 _ _)) rfl ⟨rfl, below_put2 HB1.out (by omega) _ _⟩
    have d0 : decide (t < f) = false := decide_eq_false (by omega)
    by_cases h1 : f = t
    · subst h1
      have d1 : decide (f = f) = true := decide_eq_true rfl
      obtain ⟨e1, e2⟩ := cov_nil HZ.out f
      obtain rfl : E = 0 := by rw [← HE.out]; exact e1
      obtain ⟨rfl, rfl⟩ : 0 = lo ∧ 0 = hi := by rw [HV.out] at e2; exact ⟨(congrArg Prod.fst e2).symm, (congrArg Prod.snd e2).symm⟩
      clear e1 e2
      clear h0 hac
      go_wp2_with fail
      exact bodyPost_ret (res_span2 Try.results19 rfl (R1.out.put2 _ _)) rfl ⟨rfl, below_put2 HB1.out (by omega) _ _⟩
    have d1 : (f == t) = false := beq_false_of_ne h1
    have wt : IntKind.i64.wrap (t - 1) = t - 1 := wrap_id (by omega)
    obtain ⟨T, hT⟩ : ∃ T, t - 1 = T := ⟨_, rfl⟩
    rw [hT] at wt
    by_cases h2 : m.1 ≤ f ∧ f ≤ q.1
    · obtain ⟨g1, g2⟩ := fwdE_in HZ.out hac h2.1 h2.2
      have HC1 := HF.out f
      rw [g1, g2] at HC1
      by_cases h3 : m.1 ≤ T ∧ T ≤ q.1
      · obtain ⟨g3, g4⟩ := fwdE_in HZ.out hac h3.1 h3.2
        have HC2 := HF.out T
        rw [g3, g4] at HC2
        have hl := valA_lim HZ.out hac h3.1 h3.2
        obtain ⟨e1, e2⟩ := cov_in HZ.out hac (show f < t by omega) h2.1 (by omega)
        obtain rfl : E = 0 := by rw [← HE.out]; exact e1
        obtain ⟨hX, hYh⟩ : valA L f = lo ∧ valA L (t - 1) + 1 = hi := by rw [HV.out] at e2; exact ⟨(congrArg Prod.fst e2).symm, (congrArg Prod.snd e2).symm⟩
        clear e1 e2
        rw [hT] at hYh
        obtain ⟨Y, hY⟩ : ∃ Y, valA L T = Y := ⟨_, rfl⟩
        rw [hX] at HC1
        rw [hY] at HC2 hl hYh
        have wy : IntKind.i64.wrap hi = hi := wrap_id (by omega)
        replace HC1 := Lib.hid HC1
        replace HC2 := Lib.hid HC2
        clear hX hY hl h0 h1 h2 h3 hac g1 g2 g3 g4 hml hql
        go_wp2_with fail
        refine (HC1.out w1 (HA.out.on HB1.out)).mono ?_
        rintro e w2 ⟨rfl, hb2⟩
        have HB2 := Lib.hid (bstep HB1.out hb2)
        have H2 := Lib.hid (H1.out.on hb2)
        have R2 := Lib.hid (R1.out.on hb2)
        clear hb2 x0 x1 y0 y1 z0 z1
        obtain ⟨x0, x1⟩ := H2.out.two
        obtain ⟨y0, y1⟩ := R2.out.two
        obtain ⟨z0, z1⟩ := R2.out.warm2
        go_wp2_with fail
        refine (HC2.out w2 (HA.out.on HB2.out)).mono ?_
        rintro e w3 ⟨rfl, hb3⟩
        have HB3 := Lib.hid (bstep HB2.out hb3)
        have R3 := Lib.hid (R2.out.on hb3)
        clear hb3 x0 x1 y0 y1 z0 z1
        obtain ⟨y0, y1⟩ := R3.out.two
        obtain ⟨z0, z1⟩ := R3.out.warm2
        go_wp2_with fail
        exact bodyPost_ret (res_span2 Try.results19 rfl (R3.out.put2 _ _)) rfl ⟨rfl, below_put2 HB3.out (by omega) _ _⟩
      · obtain ⟨g3, g4⟩ := fwdE_out HZ.out hac (show T < m.1 ∨ q.1 < T by omega)
        have HC2 := HF.out T
        rw [g3, g4] at HC2
        obtain ⟨e1, e2⟩ := cov_out HZ.out hac (show t < f ∨ (f < t ∧ (f < m.1 ∨ q.1 + 1 < t)) by omega)
        obtain rfl : E = 1 := by rw [← HE.out]; exact e1
        obtain ⟨rfl, rfl⟩ : 0 = lo ∧ 0 = hi := by rw [HV.out] at e2; exact ⟨(congrArg Prod.fst e2).symm, (congrArg Prod.snd e2).symm⟩
        clear e1 e2
        obtain ⟨X, hX⟩ : ∃ X, valA L f = X := ⟨_, rfl⟩
        rw [hX] at HC1
        replace HC1 := Lib.hid HC1
        replace HC2 := Lib.hid HC2
        clear hX h0 h1 h2 h3 hac g1 g2 g3 g4 hml hql
        go_wp2_with fail
        refine (HC1.out w1 (HA.out.on HB1.out)).mono ?_
        rintro e w2 ⟨rfl, hb2⟩
        have HB2 := Lib.hid (bstep HB1.out hb2)
        have H2 := Lib.hid (H1.out.on hb2)
        have R2 := Lib.hid (R1.out.on hb2)
        clear hb2 x0 x1 y0 y1 z0 z1
        obtain ⟨x0, x1⟩ := H2.out.two
        obtain ⟨y0, y1⟩ := R2.out.two
        obtain ⟨z0, z1⟩ := R2.out.warm2
        go_wp2_with fail
        refine (HC2.out w2 (HA.out.on HB2.out)).mono ?_
        rintro e w3 ⟨rfl, hb3⟩
        have HB3 := Lib.hid (bstep HB2.out hb3)
        have R3 := Lib.hid (R2.out.on hb3)
        clear hb3 x0 x1 y0 y1 z0 z1
        obtain ⟨y0, y1⟩ := R3.out.two
        obtain ⟨z0, z1⟩ := R3.out.warm2
        go_wp2_with fail
        exact bodyPost_ret (res_span2 Try.results19 rfl (R3.out.put2 _ _)) rfl ⟨rfl, below_put2 HB3.out (by omega) _ _⟩
    · obtain ⟨g1, g2⟩ := fwdE_out HZ.out hac (show f < m.1 ∨ q.1 < f by omega)
      have HC1 := HF.out f
      rw [g1, g2] at HC1
      replace HC1 := Lib.hid HC1
      obtain ⟨e1, e2⟩ := cov_out HZ.out hac (show t < f ∨ (f < t ∧ (f < m.1 ∨ q.1 + 1 < t)) by omega)
      obtain rfl : E = 1 := by rw [← HE.out]; exact e1
      obtain ⟨rfl, rfl⟩ : 0 = lo ∧ 0 = hi := by rw [HV.out] at e2; exact ⟨(congrArg Prod.fst e2).symm, (congrArg Prod.snd e2).symm⟩
      clear e1 e2
      clear h0 h1 h2 hac g1 g2 hml hql
      go_wp2_with fail
      refine (HC1.out w1 (HA.out.on HB1.out)).mono ?_
      rintro e w2 ⟨rfl, hb2⟩
      have HB2 := Lib.hid (bstep HB1.out hb2)
      have H2 := Lib.hid (H1.out.on hb2)
      have R2 := Lib.hid (R1.out.on hb2)
      clear hb2 x0 x1 y0 y1 z0 z1
      obtain ⟨x0, x1⟩ := H2.out.two
      obtain ⟨y0, y1⟩ := R2.out.two
      obtain ⟨z0, z1⟩ := R2.out.warm2
      go_wp2_with fail
      exact bodyPost_ret (res_span2 Try.results19 rfl (R2.out.put2 _ _)) rfl ⟨rfl, below_put2 HB2.out (by omega) _ _⟩
  · obtain ⟨z2, z3⟩ := ne_tests hz
    obtain ⟨e1, e2⟩ := cov_bad hz f t
    obtain rfl : chkA L = E := by rw [← HE.out]; exact e1.symm
    obtain ⟨rfl, rfl⟩ : 0 = lo ∧ 0 = hi := by rw [HV.out] at e2; exact ⟨(congrArg Prod.fst e2).symm, (congrArg Prod.snd e2).symm⟩
    clear e1 e2
    clear hz
    go_wp2_with fail
    exact bodyPost_ret (res_span2 Try.results19 rfl (R1.out.put2 _ _)) rfl ⟨rfl, below_put2 HB1.out (by omega) _ _⟩

set_option maxHeartbeats 3200000 in
theorem ref_Cover (L : List Mk) (A : Option Addr) (c : Nat) (f t : Int) (w : World) (ha : Mks w A L) (hm : L.length ≤ 9223372036854775807) :
    Calls Try.prog 20 #[.slice A L.length c, .agg #[.int .i64 f, .int .i64 t]] w (CovP (covV L f t).1 (covV L f t).2 (covE L f t) w) := by
  have HA := Lib.hid ha
  have HF := Lib.hid fun (x : Int) (W : World) (h : Mks W A L) => ref_Forward L A c x W h hm
  clear ha
  obtain ⟨E, hE⟩ : ∃ E, covE L f t = E := ⟨_, rfl⟩
  obtain ⟨lo, hi, hV⟩ : ∃ lo hi, covV L f t = (lo, hi) := ⟨_, _, rfl⟩
  rw [hV, hE]
  have HV := Lib.hid hV
  have HE := Lib.hid hE
  have HCk := Lib.hid fun (W : World) (h : Mks W A L) => ref_Check L A c W h hm
  clear hV hE
  go_enter Try.func20, Try.ntmps20
  go_upto_region 1 with fail
  obtain ⟨w0, hw0⟩ : ∃ W, (w.alloc (.cells #[.int .i64 f, .int .i64 t] 31)).alloc (.cells #[.int .i64 0, .int .i64 0] 31) = W := ⟨_, rfl⟩
  have H0 : Hid (Cel w0 w.heap.size [.int .i64 f, .int .i64 t]) := hw0 ▸ (Cel.new w [.int .i64 f, .int .i64 t] _).alloc _
  have R0 : Hid (Cel w0 (w.heap.size + 1) [.int .i64 0, .int .i64 0]) := hw0 ▸ Cel.new_at _ [.int .i64 0, .int .i64 0] _ (by simp)
  have HB0 : Hid (Below w.heap.size w w0) := hw0 ▸ bstep (below_alloc _ _) (below_alloc _ _)
  rw [hw0]
  clear hw0
  go_wp2_with fail
  refine (HCk.out w0 (HA.out.on HB0.out)).mono ?_
  rintro e w1 ⟨rfl, hb1⟩
  have HB1 := Lib.hid (bstep HB0.out hb1)
  have H1 := Lib.hid (H0.out.on hb1)
  have R1 := Lib.hid (R0.out.on hb1)
  clear hb1 HCk H0 R0
  obtain ⟨x0, x1⟩ := H1.out.two
  obtain ⟨y0, y1⟩ := R1.out.two
  obtain ⟨z0, z1⟩ := R1.out.warm2
  by_cases hz : chkA L = 0
  · obtain ⟨m, q, N, hac⟩ := Ac.of hz
    have HZ := Lib.hid hz
    have HC := Lib.hid hac
    have hml := hac.at_ hac.fst
    have hql := hac.at_ hac.lst
    have hN := hac.len
    have h1N := hac.two
    have hNf := hac.few
    obtain ⟨b, off, rfl, hb⟩ := rd_ne (HA.out.on HB1.out) (show 0 < L.length by omega)
    obtain ⟨c0, c1⟩ := at_k (HA.out.on HB1.out) hac.fst
    obtain ⟨c2, c3⟩ := at_k (HA.out.on HB1.out) hac.lst
    rw [Nat.zero_mul, Nat.add_zero] at c0 c1
    have wN : IntKind.i64.wrap (N : Int) = (N : Int) := wrap_id (by omega)
    have i0 : (0 : Int) < (N : Int) + 1 := by omega
    have i1 : (N : Int) < (N : Int) + 1 := by omega
    have wq : IntKind.i64.wrap (q.1 + 1) = q.1 + 1 := wrap_id (by omega)
    rw [hz]
    clear hz
    rcases Int.lt_or_le t f with h0 | h0
    · have d0 : decide (t < f) = true := decide_eq_true h0
      obtain ⟨e1, e2⟩ := cov_out HZ.out hac (Or.inl h0)
      obtain rfl : E = 1 := by rw [← HE.out]; exact e1
      obtain ⟨rfl, rfl⟩ : 0 = lo ∧ 0 = hi := by rw [HV.out] at e2; exact ⟨(congrArg Prod.fst e2).symm, (congrArg Prod.snd e2).symm⟩
      clear e1 e2
      clear h0 hac hml hql
      go_wp2_with fail
      go_quiet (fail)
      have HBq := Lib.hid (below_drewN HB1.out nq)
      have Hq : Hid (Cel (w1.drewN nq) w.heap.size [.int .i64 f, .int .i64 t]) := H1.out.on (below_drewN (Below.refl _ _) nq)
      have Rq : Hid (Cel (w1.drewN nq) (w.heap.size + 1) [.int .i64 0, .int .i64 0]) := R1.out.on (below_drewN (Below.refl _ _) nq)
      generalize hwq : w1.drewN nq = wq' at HBq Hq Rq
      clear hwq x0 x1 y0 y1 z0 z1 c0 c1 c2 c3
      obtain ⟨x0, x1⟩ := Hq.out.two
      obtain ⟨y0, y1⟩ := Rq.out.two
      obtain ⟨z0, z1⟩ := Rq.out.warm2
      go_wp2_with fail
      exact bodyPost_ret (res_span2 Try.results20 rfl (Rq.out.put2 _ _)) rfl ⟨rfl, below_put2 HBq.out (by omega) _ _⟩
    have d0 : decide (t < f) = false := decide_eq_false (by omega)
    by_cases h1 : f = t
    · subst h1
      have d1 : decide (f < f) = false := decide_eq_false (by omega)
      obtain ⟨e1, e2⟩ := cov_nil HZ.out f
      obtain rfl : E = 0 := by rw [← HE.out]; exact e1
      obtain ⟨rfl, rfl⟩ : 0 = lo ∧ 0 = hi := by rw [HV.out] at e2; exact ⟨(congrArg Prod.fst e2).symm, (congrArg Prod.snd e2).symm⟩
      clear e1 e2
      clear h0 hac hml hql
      go_wp2_with fail
      go_quiet (fail)
      have HBq := Lib.hid (below_drewN HB1.out nq)
      have Hq : Hid (Cel (w1.drewN nq) w.heap.size [.int .i64 f, .int .i64 f]) := H1.out.on (below_drewN (Below.refl _ _) nq)
      have Rq : Hid (Cel (w1.drewN nq) (w.heap.size + 1) [.int .i64 0, .int .i64 0]) := R1.out.on (below_drewN (Below.refl _ _) nq)
      generalize hwq : w1.drewN nq = wq' at HBq Hq Rq
      clear hwq x0 x1 y0 y1 z0 z1 c0 c1 c2 c3
      obtain ⟨x0, x1⟩ := Hq.out.two
      obtain ⟨y0, y1⟩ := Rq.out.two
      obtain ⟨z0, z1⟩ := Rq.out.warm2
      go_wp2_with fail
      exact bodyPost_ret (res_span2 Try.results20 rfl (Rq.out.put2 _ _)) rfl ⟨rfl, below_put2 HBq.out (by omega) _ _⟩
    have d1 : decide (f < t) = true := decide_eq_true (by omega)
    have d1' : (f == t) = false := beq_false_of_ne h1
    rcases Int.lt_or_le f m.1 with h2 | h2
    · have d2 : decide (f < m.1) = true := decide_eq_true h2
      obtain ⟨e1, e2⟩ := cov_out HZ.out hac (show t < f ∨ (f < t ∧ (f < m.1 ∨ q.1 + 1 < t)) by omega)
      obtain rfl : E = 1 := by rw [← HE.out]; exact e1
      obtain ⟨rfl, rfl⟩ : 0 = lo ∧ 0 = hi := by rw [HV.out] at e2; exact ⟨(congrArg Prod.fst e2).symm, (congrArg Prod.snd e2).symm⟩
      clear e1 e2
      clear h0 h1 h2 hac hml hql
      go_wp2_with fail
      go_quiet (fail)
      have HBq := Lib.hid (below_drewN HB1.out nq)
      have Hq : Hid (Cel (w1.drewN nq) w.heap.size [.int .i64 f, .int .i64 t]) := H1.out.on (below_drewN (Below.refl _ _) nq)
      have Rq : Hid (Cel (w1.drewN nq) (w.heap.size + 1) [.int .i64 0, .int .i64 0]) := R1.out.on (below_drewN (Below.refl _ _) nq)
      generalize hwq : w1.drewN nq = wq' at HBq Hq Rq
      clear hwq x0 x1 y0 y1 z0 z1 c0 c1 c2 c3
      obtain ⟨x0, x1⟩ := Hq.out.two
      obtain ⟨y0, y1⟩ := Rq.out.two
      obtain ⟨z0, z1⟩ := Rq.out.warm2
      go_wp2_with fail
      exact bodyPost_ret (res_span2 Try.results20 rfl (Rq.out.put2 _ _)) rfl ⟨rfl, below_put2 HBq.out (by omega) _ _⟩
    have d2 : decide (f < m.1) = false := decide_eq_false (by omega)
    rcases Int.lt_or_le (q.1 + 1) t with h3 | h3
    · have d3 : decide (q.1 + 1 < t) = true := decide_eq_true h3
      obtain ⟨e1, e2⟩ := cov_out HZ.out hac (show t < f ∨ (f < t ∧ (f < m.1 ∨ q.1 + 1 < t)) by omega)
      obtain rfl : E = 1 := by rw [← HE.out]; exact e1
      obtain ⟨rfl, rfl⟩ : 0 = lo ∧ 0 = hi := by rw [HV.out] at e2; exact ⟨(congrArg Prod.fst e2).symm, (congrArg Prod.snd e2).symm⟩
      clear e1 e2
      clear h0 h1 h2 h3 hac hml hql
      go_wp2_with fail
      go_quiet (fail)
      have HBq := Lib.hid (below_drewN HB1.out nq)
      have Hq : Hid (Cel (w1.drewN nq) w.heap.size [.int .i64 f, .int .i64 t]) := H1.out.on (below_drewN (Below.refl _ _) nq)
      have Rq : Hid (Cel (w1.drewN nq) (w.heap.size + 1) [.int .i64 0, .int .i64 0]) := R1.out.on (below_drewN (Below.refl _ _) nq)
      generalize hwq : w1.drewN nq = wq' at HBq Hq Rq
      clear hwq x0 x1 y0 y1 z0 z1 c0 c1 c2 c3
      obtain ⟨x0, x1⟩ := Hq.out.two
      obtain ⟨y0, y1⟩ := Rq.out.two
      obtain ⟨z0, z1⟩ := Rq.out.warm2
      go_wp2_with fail
      exact bodyPost_ret (res_span2 Try.results20 rfl (Rq.out.put2 _ _)) rfl ⟨rfl, below_put2 HBq.out (by omega) _ _⟩
    have d3 : decide (q.1 + 1 < t) = false := decide_eq_false (by omega)
    have wt : IntKind.i64.wrap (t - 1) = t - 1 := wrap_id (by omega)
    obtain ⟨T, hT⟩ : ∃ T, t - 1 = T := ⟨_, rfl⟩
    rw [hT] at wt
    obtain ⟨g1, g2⟩ := fwdE_in HZ.out hac h2 (show f ≤ q.1 by omega)
    have HC1 := HF.out f
    rw [g1, g2, hN] at HC1
    obtain ⟨g3, g4⟩ := fwdE_in HZ.out hac (show m.1 ≤ T by omega) (show T ≤ q.1 by omega)
    have HC2 := HF.out T
    rw [g3, g4, hN] at HC2
    have hl := valA_lim HZ.out hac (show m.1 ≤ T by omega) (show T ≤ q.1 by omega)
    obtain ⟨e1, e2⟩ := cov_in HZ.out hac (show f < t by omega) h2 (by omega)
    obtain rfl : E = 0 := by rw [← HE.out]; exact e1
    obtain ⟨hX, hYh⟩ : valA L f = lo ∧ valA L (t - 1) + 1 = hi := by rw [HV.out] at e2; exact ⟨(congrArg Prod.fst e2).symm, (congrArg Prod.snd e2).symm⟩
    clear e1 e2
    rw [hT] at hYh
    obtain ⟨Y, hY⟩ : ∃ Y, valA L T = Y := ⟨_, rfl⟩
    rw [hX] at HC1
    rw [hY] at HC2 hl hYh
    have wy : IntKind.i64.wrap hi = hi := wrap_id (by omega)
    replace HC1 := Lib.hid HC1
    replace HC2 := Lib.hid HC2
    clear hX hY hl h0 h1 h2 h3 hac g1 g2 g3 g4 hml hql
    go_wp2_with fail
    go_quiet (fail)
    have HBq := Lib.hid (below_drewN HB1.out nq)
    have Hq : Hid (Cel (w1.drewN nq) w.heap.size [.int .i64 f, .int .i64 t]) := H1.out.on (below_drewN (Below.refl _ _) nq)
    have Rq : Hid (Cel (w1.drewN nq) (w.heap.size + 1) [.int .i64 0, .int .i64 0]) := R1.out.on (below_drewN (Below.refl _ _) nq)
    generalize hwq : w1.drewN nq = wq' at HBq Hq Rq
    clear hwq x0 x1 y0 y1 z0 z1 c0 c1 c2 c3
    obtain ⟨x0, x1⟩ := Hq.out.two
    obtain ⟨y0, y1⟩ := Rq.out.two
    obtain ⟨z0, z1⟩ := Rq.out.warm2
    go_wp2_with fail
    refine (HC1.out wq' (HA.out.on HBq.out)).mono ?_
    rintro e w2 ⟨rfl, hb2⟩
    have HB2 := Lib.hid (bstep HBq.out hb2)
    have H2 := Lib.hid (Hq.out.on hb2)
    have R2 := Lib.hid (Rq.out.on hb2)
    clear hb2 x0 x1 y0 y1 z0 z1
    obtain ⟨x0, x1⟩ := H2.out.two
    obtain ⟨y0, y1⟩ := R2.out.two
    obtain ⟨z0, z1⟩ := R2.out.warm2
    go_wp2_with fail
    refine (HC2.out w2 (HA.out.on HB2.out)).mono ?_
    rintro e w3 ⟨rfl, hb3⟩
    have HB3 := Lib.hid (bstep HB2.out hb3)
    have R3 := Lib.hid (R2.out.on hb3)
    clear hb3 x0 x1 y0 y1 z0 z1
    obtain ⟨y0, y1⟩ := R3.out.two
    obtain ⟨z0, z1⟩ := R3.out.warm2
    go_wp2_with fail
    exact bodyPost_ret (res_span2 Try.results20 rfl (R3.out.put2 _ _)) rfl ⟨rfl, below_put2 HB3.out (by omega) _ _⟩
  · obtain ⟨z2, z3⟩ := ne_tests hz
    obtain ⟨e1, e2⟩ := cov_bad hz f t
    obtain rfl : chkA L = E := by rw [← HE.out]; exact e1.symm
    obtain ⟨rfl, rfl⟩ : 0 = lo ∧ 0 = hi := by rw [HV.out] at e2; exact ⟨(congrArg Prod.fst e2).symm, (congrArg Prod.snd e2).symm⟩
    clear e1 e2
    clear hz
    go_wp2_with fail
    exact bodyPost_ret (res_span2 Try.results20 rfl (R1.out.put2 _ _)) rfl ⟨rfl, below_put2 HB1.out (by omega) _ _⟩
#print axioms align_Cover
#print axioms ref_Cover
end Go.Proofs.Ytkbnhmgladkojaa.Align
