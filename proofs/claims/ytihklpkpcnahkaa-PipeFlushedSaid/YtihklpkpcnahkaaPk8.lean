/- Several texts in one: PipeD, FibreV, FibreC, PipeE, PipeF, PipeG. -/
import Derived.Test.YtihklpkpcnahkaaPk7
import Derived.Test.YtihklpkpcnahkaaPk6
import Derived.Test.YtihklpkpcnahkaaPk1
import Derived.OpenShut
/- Pipes: errors and results of the chapter's functions (pure). -/
namespace Go.Proofs.Ytihklpkpcnahkaa.Pipe
open Go.Proofs.Ytihklpkpcnahkaa.Vec (sumZ plusL lessL plus_at less_at plus_len less_len vec_ext plus_get less_get sumZ_less sumZ_plus sumZ_nonneg le_sum sumZ_cons sumZ_nil sumZ_append zero_of_sum sumZ_zeros zero_plus plus_zero plus_assoc plus_comm less_plus parts_sum parts_part glt get_lt)
open Go.Proofs.Ytihklpkpcnahkaa.Share (partsL partsL_len)
open Go.Proofs.Ytihklpkpcnahkaa.Fibre (MM)
set_option linter.unusedVariables false

/-! ### Check -/
def plE (kinds : Int) (l : List Int) : Int := if Fibre.parE l kinds = 0 then (if sumZ l = 0 then 10 else 0) else Fibre.parE l kinds
def fsE (kinds : Int) : List (List Int) → Int
  | [] => 0
  | l :: P => if plE kinds l = 0 then fsE kinds P else plE kinds l
theorem fsE_bad {kinds : Int} : ∀ {P : List (List Int)} {k : Nat} {l : List Int}, P[k]? = some l → ¬ plE kinds l = 0 → (∀ (j : Nat) (u : List Int), j < k → P[j]? = some u → plE kinds u = 0) → fsE kinds P = plE kinds l
  | [], _, _, h, _, _ => by simp at h
  | u :: P, 0, l, h, hb, _ => by simp at h; subst h; rw [fsE, if_neg hb]
  | u :: P, k + 1, l, h, hb, ha => by
    rw [List.getElem?_cons_succ] at h
    rw [fsE, if_pos (ha 0 u (by omega) rfl)]
    exact fsE_bad h hb fun j x hj hx => ha (j + 1) x (by omega) (by rw [List.getElem?_cons_succ]; exact hx)
theorem fsE_ok {kinds : Int} : ∀ {P : List (List Int)}, (∀ (j : Nat) (u : List Int), P[j]? = some u → plE kinds u = 0) → fsE kinds P = 0
  | [], _ => rfl
  | u :: P, h => by
    rw [fsE, if_pos (h 0 u rfl)]
    exact fsE_ok fun j x hx => h (j + 1) x (by rw [List.getElem?_cons_succ]; exact hx)
theorem fsE_of {kinds : Int} : ∀ {P : List (List Int)}, fsE kinds P = 0 → ∀ l ∈ P, plE kinds l = 0
  | [], _, l, hl => by simp at hl
  | u :: P, h, l, hl => by
    rw [fsE] at h
    by_cases h1 : plE kinds u = 0
    · rw [if_pos h1] at h
      rcases List.mem_cons.mp hl with rfl | hl
      · exact h1
      · exact fsE_of h l hl
    · rw [if_neg h1] at h; exact absurd h h1
theorem plE_of {kinds : Nat} {l : List Int} (h : plE (kinds : Int) l = 0) : Pg kinds l ∧ 1 ≤ kinds ∧ kinds ≤ 8 := by
  unfold plE at h
  by_cases h1 : Fibre.parE l (kinds : Int) = 0
  · rw [if_pos h1] at h
    obtain ⟨h2, h3, h4, h5⟩ := Fibre.lisE_of h1
    have h6 := sumZ_nonneg fun z hz => (h5 z hz).1
    by_cases h7 : sumZ l = 0
    · rw [if_pos h7] at h; cases h
    · exact ⟨⟨by omega, h5, by omega⟩, by omega, by omega⟩
  · rw [if_neg h1] at h; exact absurd h h1
theorem Pg.err {kinds : Nat} {l : List Int} (h : Pg kinds l) (h1 : 1 ≤ kinds) (h8 : kinds ≤ 8) : Fibre.parE l (kinds : Int) = 0 ∧ plE (kinds : Int) l = 0 := by
  have hp : Fibre.parE l (kinds : Int) = 0 := Fibre.lisE_mk (by omega) (by omega) (by rw [h.len]) h.all
  exact ⟨hp, by unfold plE; rw [if_pos hp, if_neg (by have := h.pos; omega)]⟩
/-- The number of masses of the first plug. -/
def kin (P : List (List Int)) : Nat := (P.headD []).length
def ckP (hold : Int) (P : List (List Int)) : Int :=
  if 1 ≤ hold ∧ hold ≤ MM then (if P.length = 0 then 10 else if 256 < P.length then 8 else if fsE (kin P : Int) P = 0 then (if tot P = hold then 0 else 39) else fsE (kin P : Int) P) else 1
/-- A sound pipe. -/
structure POk (hold : Int) (P : List (List Int)) (kinds : Nat) : Prop where
  h1 : 1 ≤ hold
  h2 : hold ≤ MM
  n1 : 1 ≤ P.length
  n2 : P.length ≤ 256
  k1 : 1 ≤ kinds
  k8 : kinds ≤ 8
  kin : kin P = kinds
  all : Pgs kinds P
  sum : tot P = hold
theorem kin_at {P : List (List Int)} (h : 1 ≤ P.length) : P[0]? = some (P.headD []) := by
  cases P with
  | nil => simp at h
  | cons l P => rfl
section
variable {hold : Int} {P : List (List Int)} {kinds : Nat}
theorem ckP_hold (h : ¬ (1 ≤ hold ∧ hold ≤ MM)) : ckP hold P = 1 := if_neg h
theorem ckP_none (h : 1 ≤ hold ∧ hold ≤ MM) (h2 : P.length = 0) : ckP hold P = 10 := by unfold ckP; rw [if_pos h, if_pos h2]
theorem ckP_many (h : 1 ≤ hold ∧ hold ≤ MM) (h2 : 256 < P.length) : ckP hold P = 8 := by unfold ckP; rw [if_pos h, if_neg (by omega), if_pos h2]
theorem ckP_bad (h : 1 ≤ hold ∧ hold ≤ MM) (h1 : 1 ≤ P.length) (h2 : P.length ≤ 256) {k : Nat} {l : List Int} (hl : P[k]? = some l) (hb : ¬ plE (kin P : Int) l = 0) (ha : ∀ (j : Nat) (u : List Int), j < k → P[j]? = some u → plE (kin P : Int) u = 0) : ckP hold P = plE (kin P : Int) l := by
  have he := fsE_bad hl hb ha
  unfold ckP
  rw [if_pos h, if_neg (by omega), if_neg (by omega), he, if_neg hb]
theorem ckP_end (h : 1 ≤ hold ∧ hold ≤ MM) (h1 : 1 ≤ P.length) (h2 : P.length ≤ 256) (ha : ∀ (j : Nat) (u : List Int), P[j]? = some u → plE (kin P : Int) u = 0) : ckP hold P = if tot P = hold then 0 else 39 := by
  unfold ckP
  rw [if_pos h, if_neg (by omega), if_neg (by omega), if_pos (fsE_ok ha)]
theorem ckP_of (h : ckP hold P = 0) : POk hold P (kin P) := by
  unfold ckP at h
  by_cases h1 : 1 ≤ hold ∧ hold ≤ MM
  rotate_left
  · rw [if_neg h1] at h; cases h
  rw [if_pos h1] at h
  by_cases h2 : P.length = 0
  · rw [if_pos h2] at h; cases h
  rw [if_neg h2] at h
  by_cases h3 : 256 < P.length
  · rw [if_pos h3] at h; cases h
  rw [if_neg h3] at h
  by_cases h4 : fsE (kin P : Int) P = 0
  rotate_left
  · rw [if_neg h4] at h; exact absurd h h4
  rw [if_pos h4] at h
  by_cases h5 : tot P = hold
  rotate_left
  · rw [if_neg h5] at h; cases h
  have h6 := fsE_of h4
  have h7 := plE_of (h6 _ (List.mem_of_getElem? (kin_at (by omega))))
  exact ⟨h1.1, h1.2, by omega, by omega, h7.2.1, h7.2.2, rfl, fun l hl => (plE_of (h6 l hl)).1, h5⟩
theorem POk.err (h : POk hold P kinds) : ckP hold P = 0 := by
  rw [ckP_end ⟨h.h1, h.h2⟩ h.n1 h.n2 fun j u hu => by rw [h.kin]; exact ((h.all u (List.mem_of_getElem? hu)).err h.k1 h.k8).2, if_pos h.sum]
end
/-! ### New, Content, Age -/
def nwE (m : List Int) : Int := if Fibre.totE m = 0 then (if Fibre.totV m = 0 then 10 else if MM < Fibre.totV m then 1 else 0) else Fibre.totE m
def nwH (m : List Int) : Int := if nwE m = 0 then Fibre.totV m else 0
def nwP (m : List Int) : List (List Int) := if nwE m = 0 then [m] else []
def coL (hold : Int) (P : List (List Int)) : List Int := if ckP hold P = 0 then cont (kin P) P else []
def agE (hold : Int) (P : List (List Int)) (k : Int) : Int := if ckP hold P = 0 then (if 0 ≤ k ∧ k < (P.length : Int) then 0 else 7) else ckP hold P
def agV (hold : Int) (P : List (List Int)) (k : Int) : Int := if agE hold P k = 0 then tot (P.take (k.toNat + 1)) else 0
/-! ### Push -/
def newP (P : List (List Int)) (m : List Int) : List (List Int) := rmnP (sumZ m) P ++ (if 0 < sumZ m then [m] else [])
def puE (hold : Int) (P : List (List Int)) (m : List Int) : Int :=
  if ckP hold P = 0 then (if Fibre.parE m (kin P : Int) = 0 then (if hold < sumZ m then 8 else if 256 < (newP P m).length then 8 else 0) else Fibre.parE m (kin P : Int)) else ckP hold P
def puH (hold : Int) (P : List (List Int)) (m : List Int) : Int := if puE hold P m = 0 then hold else 0
def puP (hold : Int) (P : List (List Int)) (m : List Int) : List (List Int) := if puE hold P m = 0 then newP P m else []
def puO (hold : Int) (P : List (List Int)) (m : List Int) : List Int := if puE hold P m = 0 then outP (kin P) (sumZ m) P else []
/-- What leaves of one plug. -/
def gon (s : Int) (l : List Int) : List Int := if sumZ l ≤ s then l else if 0 < s then partsL s l else List.replicate l.length 0
section
variable {kinds : Nat} {s : Int} {P : List (List Int)} {l : List Int}
theorem out_zero : ∀ {P : List (List Int)}, Pgs kinds P → outP kinds 0 P = List.replicate kinds 0
  | [], _ => rfl
  | l :: P, h => by
    have := h.head.pos
    show (if sumZ l ≤ 0 then _ else if (0 : Int) < 0 then _ else List.replicate kinds 0) = _
    rw [if_neg (by omega), if_neg (by omega)]
theorem rmn_zero : ∀ {P : List (List Int)}, Pgs kinds P → rmnP 0 P = P
  | [], _ => rfl
  | l :: P, h => by
    have := h.head.pos
    show (if sumZ l ≤ 0 then _ else if (0 : Int) < 0 then _ else l :: P) = _
    rw [if_neg (by omega), if_neg (by omega)]
theorem less_self (l : List Int) : lessL l l = List.replicate l.length 0 := by
  refine vec_ext (by rw [less_len rfl, List.length_replicate]) fun i x y hx hy => ?_
  obtain ⟨u, v, hu, hv, rfl⟩ := less_get rfl hx
  rw [hu] at hv
  cases hv
  rw [List.eq_of_mem_replicate (List.mem_of_getElem? hy)]; omega
theorem less_zero (l : List Int) : lessL l (List.replicate l.length 0) = l := by
  have hr : (List.replicate l.length (0 : Int)).length = l.length := List.length_replicate
  refine vec_ext (less_len hr) fun i x y hx hy => ?_
  obtain ⟨u, v, hu, hv, rfl⟩ := less_get hr hx
  rw [hu] at hy
  cases hy
  rw [List.eq_of_mem_replicate (List.mem_of_getElem? hv)]; omega
theorem gon_len (s : Int) (l : List Int) : (gon s l).length = l.length := by
  unfold gon
  split
  · rfl
  · split
    · exact partsL_len s l
    · exact List.length_replicate
/-- One plug: what leaves of it, what is left of it, and what is still missing. -/
theorem gon_step (h8 : kinds ≤ 8) (s0 : 0 ≤ s) (h : Pg kinds l) (hP : Pgs kinds P) :
    sumZ (gon s l) ≤ s ∧ 0 ≤ sumZ (gon s l) ∧ (∀ (k : Nat) (x y : Int), (gon s l)[k]? = some x → l[k]? = some y → 0 ≤ x ∧ x ≤ y) ∧
    outP kinds s (l :: P) = plusL (gon s l) (outP kinds (s - sumZ (gon s l)) P) ∧
    rmnP s (l :: P) = (if 0 < sumZ (lessL l (gon s l)) then [lessL l (gon s l)] else []) ++ rmnP (s - sumZ (gon s l)) P := by
  have hp := h.pos
  by_cases h1 : sumZ l ≤ s
  · have hg : gon s l = l := if_pos h1
    have hz : ¬ 0 < sumZ (lessL l l) := by rw [less_self, sumZ_zeros]; omega
    rw [hg, outP, rmnP, if_pos h1, if_pos h1, if_neg hz]
    refine ⟨h1, by omega, fun k x y hx hy => ?_, rfl, rfl⟩
    rw [hx] at hy
    cases hy
    exact ⟨(h.all x (List.mem_of_getElem? hx)).1, Int.le_refl _⟩
  · by_cases h2 : 0 < s
    · have hg : gon s l = partsL s l := by unfold gon; rw [if_neg h1, if_pos h2]
      have ok := h.ok h8 s0 (by omega)
      have hr := h.rest h8 h2 (by omega)
      rw [hg, outP, rmnP, if_neg h1, if_neg h1, if_pos h2, if_pos h2, parts_sum ok, Int.sub_self, out_zero hP, rmn_zero hP, if_pos hr.1.pos]
      refine ⟨Int.le_refl _, s0, fun k x y hx hy => parts_part ok (by omega) hx hy, ?_, rfl⟩
      rw [plus_zero (by rw [partsL_len]; exact h.len)]
    · obtain rfl : s = 0 := by omega
      have hg : gon 0 l = List.replicate l.length 0 := by unfold gon; rw [if_neg h1, if_neg h2]
      rw [hg, sumZ_zeros, Int.sub_self, less_zero, if_pos hp, out_zero hP, out_zero (Pgs.cons h hP), rmn_zero hP, rmn_zero (Pgs.cons h hP), h.len, zero_plus List.length_replicate]
      refine ⟨Int.le_refl _, Int.le_refl _, fun k x y hx hy => ?_, rfl, rfl⟩
      rw [List.eq_of_mem_replicate (List.mem_of_getElem? hx)]
      exact ⟨Int.le_refl _, (h.all y (List.mem_of_getElem? hy)).1⟩
theorem cont_snoc (hP : Pgs kinds P) (h : Pg kinds l) : cont kinds (P ++ [l]) = plusL (cont kinds P) l := by
  have h1 : Pgs kinds [l] := Pgs.cons h (fun x hx => by simp at hx)
  rw [cont_append hP h1]
  congr 1
  show plusL l (List.replicate kinds 0) = l
  exact plus_zero h.len
end
end Go.Proofs.Ytihklpkpcnahkaa.Pipe
/- Kinds of fibre in memory; what comes in. -/
namespace Go.Proofs.Ytihklpkpcnahkaa.Fibre
open Go.ChangeShapes Go.WideShapes Go.RowKit Go.Lib Go.Joins
open Go.Proofs.Ytihklpkpcnahkaa.Rw (Rd glt)
set_option linter.unusedVariables false
set_option maxRecDepth 100000

/-- A kind's cells. -/
abbrev cF (f : Fb) : List Value := [.string f.1, .int .i64 f.2]
theorem cF_len (f : Fb) : (cF f).length = 2 := rfl
abbrev Kds (w : World) (A : Option Addr) (L : List Fb) : Prop := Rd cF 2 w A L
/-- No name is longer than a string can be. -/
def Sz (L : List Fb) : Prop := ∀ f ∈ L, f.1.size ≤ 9223372036854775807
theorem kd_at {w : World} {A : Option Addr} {L : List Fb} (h : Kds w A L) {k : Nat} {f : Fb} (hf : L[k]? = some f) : ∃ b off, A = some ⟨b, off, none⟩ ∧ b < w.heap.size ∧ w.cell? ⟨b, off + k * 2, none⟩ = some (.string f.1) ∧ w.cell? ⟨b, off + k * 2 + 1, none⟩ = some (.int .i64 f.2) := by
  obtain ⟨b, off, e, hlt, hc⟩ := h k f hf
  exact ⟨b, off, e, hlt, hc 0 _ rfl, hc 1 _ rfl⟩

section
variable {H : Type} {enc : TypeId × Value → H} {w : World} {held : Bool}
end
end Go.Proofs.Ytihklpkpcnahkaa.Fibre
/- list, Sum, Recipe, Parts, Total, Same of the reference. -/
namespace Go.Proofs.Ytihklpkpcnahkaa.Fibre
open Go.ChangeShapes Go.WideShapes Go.RowKit Go.Lib
open Go.Proofs.Ytihklpkpcnahkaa.Mem (Cl eI Own)
open Go.Proofs.Ytihklpkpcnahkaa.Rw (glt get_lt ret_bool ret_int wrap_id bstep below_drewN below_drew drew_below)
open Go.Proofs.Ytihklpkpcnahkaa.Share (sumK sumK_zero sumK_succ)
set_option linter.unusedVariables false
set_option maxRecDepth 100000

theorem cl_at {w : World} {A : Option Addr} {L : List Int} (h : Cl eI w A L) {k : Nat} {z : Int} (hz : L[k]? = some z) : ∃ b off, A = some ⟨b, off, none⟩ ∧ b < w.heap.size ∧ w.cell? ⟨b, off + k, none⟩ = some (.int .i64 z) := h k z hz
theorem ne_zero {E : Int} (h : ¬ E = 0) : (E == 0) = false ∧ (E != 0) = true := by
  have : (E == 0) = false := beq_false_of_ne h
  exact ⟨this, by rw [bne, this]; rfl⟩
set_option maxHeartbeats 800000 in
theorem rr_list (l : List Int) (A : Option Addr) (n c : Nat) (hn : n = l.length) (kinds most : Int) (w : World) (ha : Cl eI w A l) (hm : n ≤ 9223372036854775807) :
    Calls Try.prog 36 #[.slice A n c, .int .i64 kinds, .int .i64 most] w fun e w' => e = .returned (.int .i64 (lisE l kinds most)) ∧ Below w.heap.size w w' := by
  have HA := Lib.hid ha
  have HN := Lib.hid hn
  obtain ⟨E, hE⟩ : ∃ E, lisE l kinds most = E := ⟨_, rfl⟩
  rw [hE]
  have HE := Lib.hid hE
  clear ha
  rcases Int.lt_or_le kinds 1 with h0 | h0
  · have d0 : decide (kinds < 1) = true := decide_eq_true h0
    obtain rfl : E = 17 := by rw [← hE]; exact lisE_no (Bool.eq_false_iff.mpr fun h => by have := kiB_iff.mp h; omega)
    clear h0 hE hn
    go_enter Try.func36, Try.ntmps36
    go_wp2_with fail
    go_ret
    exact ⟨rfl, Below.refl _ _⟩
  have d0 : decide (kinds < 1) = false := decide_eq_false (by omega)
  rcases Int.lt_or_le 8 kinds with h1 | h1
  · have d1 : decide (8 < kinds) = true := decide_eq_true h1
    obtain rfl : E = 17 := by rw [← hE]; exact lisE_no (Bool.eq_false_iff.mpr fun h => by have := kiB_iff.mp h; omega)
    clear h0 h1 hE hn
    go_enter Try.func36, Try.ntmps36
    go_wp2_with fail
    go_ret
    exact ⟨rfl, Below.refl _ _⟩
  have d1 : decide (8 < kinds) = false := decide_eq_false (by omega)
  by_cases h2 : (n : Int) = kinds
  rotate_left
  · have d2 : ((n : Int) != kinds) = true := by simpa using h2
    have d3 : ((n : Int) == kinds) = false := by simpa using h2
    obtain rfl : E = 17 := by rw [← hE]; exact lisE_no (Bool.eq_false_iff.mpr fun h => by have := kiB_iff.mp h; omega)
    clear h0 h1 h2 hE hn
    go_enter Try.func36, Try.ntmps36
    go_wp2_with fail
    go_ret
    exact ⟨rfl, Below.refl _ _⟩
  have HK : Hid (kiB l kinds = true) := Lib.hid (kiB_iff.mpr ⟨h0, h1, by omega⟩)
  subst h2
  have d2 : ((n : Int) != (n : Int)) = false := by simp
  have d3 : ((n : Int) == (n : Int)) = true := by simp
  clear h0 h1 hE hn
  go_enter Try.func36, Try.ntmps36
  go_wp2_with fail
  go_loopw [7] (fun i wr => ∃ k : Nat, k ≤ n ∧ i = .int .i64 k ∧ (∀ (j : Nat) (z : Int), j < k → l[j]? = some z → inM most z = true) ∧ Below w.heap.size w wr) (fun i _ => n - (RowKit.intOf i).toNat)
  case atStart => exact ⟨0, Nat.zero_le _, rfl, fun j z h => absurd h (by omega), Below.refl _ _⟩
  case round =>
    obtain ⟨k, hk, rfl, hv, hbel⟩ := hrel
    have HV := Lib.hid hv
    have HB := Lib.hid hbel
    clear hv hbel
    rcases Nat.lt_or_ge k n with hlt | hge
    · obtain ⟨z, hz⟩ := get_lt (L := l) (k := k) (by have := HN.out; omega)
      obtain ⟨b, off, rfl, hb, e0⟩ := cl_at (HA.out.on HB.out) hz
      have HZ := Lib.hid hz
      have i1 : (k : Int) < (n : Int) := by omega
      have i2 : (0 : Int) ≤ (k : Int) := by omega
      clear hz
      rcases Int.lt_or_le z 0 with h0 | h0
      · have t0 : decide (z < 0) = true := decide_eq_true h0
        obtain rfl : E = 1 := by rw [← HE.out]; exact lisE_bad HK.out HZ.out (Bool.eq_false_iff.mpr fun h => by have := inM_iff.mp h; omega)
        clear h0
        go_wp2_with fail
        go_ret
        exact ⟨rfl, HB.out⟩
      have t0 : decide (z < 0) = false := decide_eq_false (by omega)
      rcases Int.lt_or_le most z with h1 | h1
      · have t1 : decide (most < z) = true := decide_eq_true h1
        obtain rfl : E = 1 := by rw [← HE.out]; exact lisE_bad HK.out HZ.out (Bool.eq_false_iff.mpr fun h => by have := inM_iff.mp h; omega)
        clear h0 h1
        go_wp2_with fail
        go_ret
        exact ⟨rfl, HB.out⟩
      have t1 : decide (most < z) = false := decide_eq_false (by omega)
      have HI : Hid (inM most z = true) := Lib.hid (inM_iff.mpr ⟨h0, h1⟩)
      clear h0 h1
      go_wp2_with fail
      go_roundw
      case rel =>
        refine ⟨k + 1, by omega, by go_num, ?_, HB.out⟩
        intro j y hj hy
        rcases Nat.lt_or_eq_of_le (Nat.le_of_lt_succ hj) with h | h
        · exact HV.out j y h hy
        · subst h
          have e := HZ.out
          rw [hy] at e; cases e; exact HI.out
      case measure => simp [RowKit.intOf]; omega
    · obtain rfl : k = n := by omega
      obtain rfl : E = 0 := by rw [← HE.out]; exact lisE_ok HK.out fun j z hz => HV.out j z (by rw [HN.out]; exact glt hz) hz
      go_wp2_with fail
      go_ret
      exact ⟨rfl, HB.out⟩

set_option maxHeartbeats 800000 in
theorem rr_Sum (l : List Int) (A : Option Addr) (n c : Nat) (hn : n = l.length) (w : World) (ha : Cl eI w A l) (hl : n ≤ 8) (hz : ∀ z ∈ l, 0 ≤ z ∧ z ≤ MM) :
    Calls Try.prog 25 #[.slice A n c] w fun e w' => e = .returned (.int .i64 (sumZ l)) ∧ Below w.heap.size w w' := by
  have HA := Lib.hid ha
  have HN := Lib.hid hn
  have HL := Lib.hid (sumK_lim hz)
  have HF : Hid (sumZ l = sumK l n) := Lib.hid (by unfold sumZ; rw [hn])
  clear ha hz hn
  go_enter Try.func25, Try.ntmps25
  go_wp2_with fail
  go_loopw [3, 4] (fun s i wr => ∃ (k : Nat) (S : Int), k ≤ n ∧ i = .int .i64 k ∧ s = .int .i64 S ∧ S = sumK l k ∧ Below w.heap.size w wr) (fun _ i _ => n - (RowKit.intOf i).toNat)
  case atStart => exact ⟨0, 0, Nat.zero_le _, rfl, rfl, rfl, Below.refl _ _⟩
  case round =>
    obtain ⟨k, S, hk, rfl, rfl, hS, hbel⟩ := hrel
    have HS := Lib.hid hS
    have HB := Lib.hid hbel
    clear hS hbel
    rcases Nat.lt_or_ge k n with hlt | hge
    · obtain ⟨z, hz⟩ := get_lt (L := l) (k := k) (by have := HN.out; omega)
      obtain ⟨b, off, rfl, hb, e0⟩ := cl_at (HA.out.on HB.out) hz
      have HZ := Lib.hid hz
      have i1 : (k : Int) < (n : Int) := by omega
      have i2 : (0 : Int) ≤ (k : Int) := by omega
      obtain ⟨S2, hS2⟩ : ∃ S2, sumK l (k + 1) = S2 := ⟨_, rfl⟩
      have hl1 := HL.out (k + 1) (by have := HN.out; omega)
      have he := sumK_succ hz
      rw [hS2, ← HS.out] at he
      rw [hS2] at hl1
      have hM : MM = 1099511627776 := rfl
      have wS : IntKind.i64.wrap S2 = S2 := wrap_id (by rw [hM] at hl1; omega)
      have hs : S + z = S2 := he.symm
      have HS2 := Lib.hid hS2
      clear hz hS2 hl1 he hM
      go_wp2_with fail
      go_roundw
      case rel => exact ⟨k + 1, S2, by omega, by go_num, rfl, HS2.out.symm, HB.out⟩
      case measure => simp [RowKit.intOf]; omega
    · obtain rfl : k = n := by omega
      have HV : Hid (S = sumZ l) := Lib.hid (by rw [HS.out, HF.out])
      go_wp2_with fail
      go_ret
      exact ⟨ret_int HV.out, HB.out⟩

theorem rr_Parts (m : List Int) (A : Option Addr) (n c : Nat) (hn : n = m.length) (kinds : Int) (w : World) (ha : Cl eI w A m) (hm : n ≤ 9223372036854775807) :
    Calls Try.prog 27 #[.slice A n c, .int .i64 kinds] w fun e w' => e = .returned (.int .i64 (parE m kinds)) ∧ Below w.heap.size w w' := by
  have HL := Lib.hid (rr_list m A n c hn kinds MM w ha hm)
  clear ha hn
  go_enter Try.func27, Try.ntmps27
  go_wp2_with fail
  refine HL.out.mono ?_
  rintro e w1 ⟨rfl, hb⟩
  have B1 := Lib.hid hb
  clear hb
  go_wp2_with fail
  go_ret
  exact ⟨rfl, B1.out⟩

set_option maxHeartbeats 800000 in
theorem rr_Total (m : List Int) (A : Option Addr) (n c : Nat) (hn : n = m.length) (w : World) (ha : Cl eI w A m) (hm : n ≤ 9223372036854775807) :
    Calls Try.prog 30 #[.slice A n c] w fun e w' => e = .returned (.tuple #[.int .i64 (totV m), .int .i64 (totE m)]) ∧ Below w.heap.size w w' := by
  have HA := Lib.hid ha
  have HP := Lib.hid (rr_Parts m A n c hn n w ha hm)
  have hlen : lenI m = (n : Int) := by unfold lenI; rw [hn]
  obtain ⟨F, hF⟩ : ∃ F, totE m = F := ⟨_, rfl⟩
  have hF2 : parE m (n : Int) = F := by rw [← hF]; unfold totE; rw [hlen]
  rw [hF2] at HP
  rw [hF]
  by_cases hz : F = 0
  rotate_left
  · obtain ⟨z1, z2⟩ := ne_zero hz
    have he : totV m = 0 := by unfold totV; rw [hF, if_neg hz]
    rw [he]
    clear ha hn hF hF2 hz he hlen
    go_enter Try.func30, Try.ntmps30
    go_wp2_with fail
    refine HP.out.mono ?_
    rintro e w1 ⟨rfl, hb⟩
    have B1 := Lib.hid hb
    clear hb
    go_wp2_with fail
    go_ret2
    exact ⟨rfl, B1.out⟩
  subst hz
  obtain ⟨h1, h2, h3, h4⟩ := lisE_of hF2
  have HS := Lib.hid fun (W : World) (h : Cl eI W A m) => rr_Sum m A n c hn W h (by omega) h4
  have he : totV m = sumZ m := by unfold totV; rw [hF, if_pos rfl]
  rw [he]
  obtain ⟨S, hS⟩ : ∃ S, sumZ m = S := ⟨_, rfl⟩
  rw [hS] at HS
  rw [hS]
  clear ha hn hF hF2 h1 h2 h3 h4 hS he hlen
  go_enter Try.func30, Try.ntmps30
  go_wp2_with fail
  refine HP.out.mono ?_
  rintro e w1 ⟨rfl, hb⟩
  have B1 := Lib.hid hb
  clear hb
  go_wp2_with fail
  refine (HS.out w1 (HA.out.on B1.out)).mono ?_
  rintro e w2 ⟨rfl, hb⟩
  have B2 := Lib.hid (bstep B1.out hb)
  clear hb
  go_wp2_with fail
  go_ret2
  exact ⟨rfl, B2.out⟩

set_option maxHeartbeats 800000 in
theorem rr_Same (L M : List Int) (A B : Option Addr) (c d n n' : Nat) (hn : n = L.length) (hn' : n' = M.length) (w : World) (ha : Cl eI w A L) (hb : Cl eI w B M) (hm : n ≤ 9223372036854775807) (hm2 : n' ≤ 9223372036854775807) :
    Calls Try.prog 20 #[.slice A n c, .slice B n' d] w fun e w' => e = .returned (.bool (decide (L = M))) ∧ Below w.heap.size w w' := by
  have HA := Lib.hid ha
  have HB := Lib.hid hb
  have HN := Lib.hid hn
  have HN' := Lib.hid hn'
  clear ha hb
  by_cases hl : n = n'
  · subst hl
    have HL : Hid (L.length = M.length) := hn.symm.trans hn'
    have hl' : ((n : Int) == (n : Int)) = true := by simp
    have hl2 : ((n : Int) != (n : Int)) = false := by simp
    clear hn hn'
    go_enter Try.func20, Try.ntmps20
    go_wp2_with fail
    go_loopw [5] (fun i wr => ∃ k : Nat, k ≤ n ∧ i = .int .i64 k ∧ (∀ (j : Nat) (s t : Int), j < k → L[j]? = some s → M[j]? = some t → s = t) ∧ Below w.heap.size w wr) (fun i _ => n - (RowKit.intOf i).toNat)
    case atStart => exact ⟨0, Nat.zero_le _, rfl, fun j s t h => absurd h (by omega), Below.refl _ _⟩
    case round =>
      obtain ⟨k, hk, rfl, hv, hbel⟩ := hrel
      have HV := Lib.hid hv
      have HW := Lib.hid hbel
      clear hv hbel
      rcases Nat.lt_or_ge k n with hlt | hge
      · obtain ⟨s, hs⟩ := get_lt (L := L) (k := k) (by have := HN.out; omega)
        obtain ⟨t, ht⟩ := get_lt (L := M) (k := k) (by have := HN'.out; omega)
        obtain ⟨b1, off1, hA0, hb1, h0⟩ := cl_at (HA.out.on HW.out) hs
        obtain ⟨b2, off2, hB0, hb2, h3⟩ := cl_at (HB.out.on HW.out) ht
        subst hA0
        subst hB0
        have HS := Lib.hid hs
        have HT := Lib.hid ht
        have i1 : (k : Int) < (n : Int) := by omega
        have i2 : (0 : Int) ≤ (k : Int) := by omega
        clear hs ht
        by_cases e : s = t
        · have hq : (s != t) = false := by simpa using e
          have hq2 : (s == t) = true := by simpa using e
          have E := Lib.hid e
          clear e
          go_wp2_with fail
          go_quiet (fail)
          go_wp2_with fail
          go_roundw
          case rel =>
            refine ⟨k + 1, by omega, by go_num, ?_, below_drewN HW.out _⟩
            intro j u v hj hu hv
            rcases Nat.lt_or_eq_of_le (Nat.le_of_lt_succ hj) with h | h
            · exact HV.out j u v h hu hv
            · subst h
              have e1 := HS.out
              have e2 := HT.out
              rw [hu] at e1; rw [hv] at e2; cases e1; cases e2; exact E.out
          case measure => simp [RowKit.intOf]; omega
        · have hq : (s != t) = true := by simpa using e
          have hq2 : (s == t) = false := by simpa using e
          have E : Hid (decide (L = M) = false) := decide_eq_false fun h => by
            subst h
            have e1 := HS.out
            rw [HT.out] at e1; exact e (Option.some.inj e1).symm
          clear e
          go_wp2_with fail
          go_quiet (fail)
          go_wp2_with fail
          go_ret
          exact ⟨ret_bool E.out.symm, below_drewN HW.out _⟩
      · obtain rfl : k = n := by omega
        have E : Hid (decide (L = M) = true) := decide_eq_true (by
          apply List.ext_getElem HL.out
          intro j h1 h2
          exact HV.out j _ _ (by have := HN.out; omega) (List.getElem?_eq_getElem h1) (List.getElem?_eq_getElem h2))
        go_wp2_with fail
        go_ret
        exact ⟨ret_bool E.out.symm, HW.out⟩
  · have hl' : ((n : Int) == (n' : Int)) = false := beq_false_of_ne (by omega)
    have hl2 : ((n : Int) != (n' : Int)) = true := by simp; omega
    have E : Hid (decide (L = M) = false) := decide_eq_false fun h => hl (by rw [hn, hn', h])
    clear hl hn hn'
    go_enter Try.func20, Try.ntmps20
    go_wp2_with fail
    go_ret
    exact ⟨ret_bool E.out.symm, Below.refl _ _⟩
end Go.Proofs.Ytihklpkpcnahkaa.Fibre
/- sum, Check, Same of the reference. -/
namespace Go.Proofs.Ytihklpkpcnahkaa.Pipe
open Go.ChangeShapes Go.WideShapes Go.RowKit Go.Lib
open Go.Proofs.Ytihklpkpcnahkaa.Mem (Cl eI Own)
open Go.Proofs.Ytihklpkpcnahkaa.Vec (sumZ sumZ_nonneg)
open Go.Proofs.Ytihklpkpcnahkaa.Fibre (MM rr_Sum rr_Parts rr_Same)
open Go.Proofs.Ytihklpkpcnahkaa.Rw (glt get_lt ret_bool ret_int bstep below_drewN below_drew drew_below below_alloc take_snoc_of)
set_option linter.unusedVariables false
set_option maxRecDepth 100000

/-- A short list of masses. -/
def Sh (l : List Int) : Prop := l.length ≤ 8 ∧ ∀ z ∈ l, 0 ≤ z ∧ z ≤ MM
theorem Sh.sum {l : List Int} (h : Sh l) : 0 ≤ sumZ l ∧ sumZ l ≤ 8796093022208 := by
  have h1 := Vec.sumK_lim h.2 l.length (Nat.le_refl _)
  have hM : MM = 1099511627776 := rfl
  have h2 := h.1
  rw [hM] at h1
  exact ⟨h1.1, by have := h1.2; unfold Vec.sumZ; omega⟩
theorem Pg.sh {kinds : Nat} {l : List Int} (h : Pg kinds l) (h8 : kinds ≤ 8) : Sh l := ⟨by rw [h.len]; exact h8, h.all⟩
theorem tot_step {P : List (List Int)} {k : Nat} {l : List Int} (h : P[k]? = some l) : tot (P.take (k + 1)) = tot (P.take k) + sumZ l := by
  rw [take_snoc_of h, tot_append]
  show _ + (sumZ l + 0) = _
  omega
theorem tot_lim {P : List (List Int)} (h : ∀ l ∈ P, Sh l) : ∀ k, k ≤ P.length → 0 ≤ tot (P.take k) ∧ tot (P.take k) ≤ k * 8796093022208
  | 0, _ => by rw [List.take_zero, tot]; simp
  | k + 1, hk => by
    have ih := tot_lim h k (by omega)
    obtain ⟨l, hl⟩ := get_lt (L := P) (k := k) (by omega)
    have h1 := (h l (List.mem_of_getElem? hl)).sum
    rw [tot_step hl, show ((k + 1 : Nat) : Int) = (k : Int) + 1 by omega, Int.add_mul, Int.one_mul]
    omega
theorem pls_at {w : World} {A : Option Addr} {P : List (List Int)} (h : Pls w A P) {k : Nat} {l : List Int} (hl : P[k]? = some l) : ∃ b off A1 n1 c1, A = some ⟨b, off, none⟩ ∧ b < w.heap.size ∧ w.cell? ⟨b, off + k, none⟩ = some (.slice A1 n1 c1) ∧ l.length = n1 ∧ Cl eI w A1 l ∧ n1 ≤ 9223372036854775807 := by
  obtain ⟨b, off, A1, c1, e, hlt, h0, i1, i2⟩ := h k l hl
  exact ⟨b, off, A1, _, c1, e, hlt, h0, rfl, i1, i2⟩

set_option maxHeartbeats 1600000 in
theorem pr_sum (hold : Int) (P : List (List Int)) (A : Option Addr) (n c : Nat) (hn : P.length = n) (w : World) (ha : Pls w A P) (hv : ∀ l ∈ P, Sh l) (h2 : n ≤ 256) :
    Calls Try.prog 28 #[.agg #[.int .i64 hold, .slice A n c]] w fun e w' => e = .returned (.int .i64 (tot P)) ∧ Below w.heap.size w w' := by
  have HA := Lib.hid ha
  have HN := Lib.hid hn
  have HV := Lib.hid hv
  have HL := Lib.hid (tot_lim hv)
  clear ha hv hn
  go_enter Try.func28, Try.ntmps28
  go_upto_region 1 with fail
  obtain ⟨w0, hw0⟩ : ∃ W, w.alloc (.cells #[.int .i64 hold, .slice A n c] 24) = W := ⟨_, rfl⟩
  have C0 : Hid (Rw.Cel w0 w.heap.size [.int .i64 hold, .slice A n c]) := hw0 ▸ Rw.Cel.new w [_, _] _
  have B0 : Hid (Below w.heap.size w w0) := hw0 ▸ below_alloc _ _
  rw [hw0]
  clear hw0
  obtain ⟨x0, x1⟩ := C0.out.two
  go_wp2_with fail
  clear x0 x1
  go_loopw [3, 4] (fun s i wr => ∃ (k : Nat) (S : Int), k ≤ n ∧ i = .int .i64 k ∧ s = .int .i64 S ∧ S = tot (P.take k) ∧ Below w0.heap.size w0 wr) (fun _ i _ => n - (RowKit.intOf i).toNat)
  case atStart => exact ⟨0, 0, Nat.zero_le _, rfl, rfl, rfl, Below.refl _ _⟩
  case round =>
    obtain ⟨k, S, hk, rfl, rfl, hS, hbel⟩ := hrel
    have HS := Lib.hid hS
    have HW := Lib.hid hbel
    have HB := Lib.hid (bstep B0.out hbel)
    clear hS hbel
    obtain ⟨x0, x1⟩ := (C0.out.on HW.out).two
    rcases Nat.lt_or_ge k n with hlt | hge
    · obtain ⟨l, hl⟩ := get_lt (L := P) (k := k) (by have := HN.out; omega)
      obtain ⟨b, off, A1, n1, c1, rfl, hb, e0, hl1, hcl, hm1⟩ := pls_at (HA.out.on HB.out) hl
      have hsh := HV.out l (List.mem_of_getElem? hl)
      have KS := Lib.hid (rr_Sum l A1 n1 c1 hl1.symm wr hcl (by have := hsh.1; omega) hsh.2)
      have hst := tot_step hl
      have hlm := HL.out (k + 1) (by have := HN.out; omega)
      obtain ⟨T, hT⟩ : ∃ T, tot (P.take (k + 1)) = T := ⟨_, rfl⟩
      obtain ⟨v, hv⟩ : ∃ v, Fibre.sumZ l = v := ⟨_, rfl⟩
      have hv2 : sumZ l = v := hv
      rw [hv] at KS
      rw [hT, hv2, ← HS.out] at hst
      rw [hT] at hlm
      have hsv : S + v = T := hst.symm
      have wT : IntKind.i64.wrap T = T := Rw.wrap_id (by omega)
      have HT := Lib.hid hT
      have i1 : (k : Int) < (n : Int) := by omega
      have i2 : (0 : Int) ≤ (k : Int) := by omega
      clear hl hb hl1 hcl hm1 hsh hst hlm hT hv hv2
      go_wp2_with fail
      refine KS.out.mono ?_
      rintro e w2 ⟨rfl, hb2⟩
      have HW2 := Lib.hid (bstep HW.out hb2)
      clear hb2 x0 x1 e0
      go_wp2_with fail
      go_roundw
      case rel => exact ⟨k + 1, T, by omega, by go_num, rfl, HT.out.symm, HW2.out⟩
      case measure => simp [RowKit.intOf]; omega
    · obtain rfl : n = k := by omega
      have HF : Hid (S = tot P) := Lib.hid (by
        rw [HS.out, List.take_of_length_le (by have := HN.out; omega)])
      go_wp2_with fail
      go_ret
      exact ⟨ret_int HF.out, HB.out⟩

set_option maxHeartbeats 1600000 in
theorem pr_Same (x y : Int) (P Q : List (List Int)) (A B : Option Addr) (n m c d : Nat) (hn : P.length = n) (hm : Q.length = m) (w : World) (ha : Pls w A P) (hb : Pls w B Q) (h1 : n ≤ 9223372036854775807) (h2 : m ≤ 9223372036854775807) :
    Calls Try.prog 17 #[.agg #[.int .i64 x, .slice A n c], .agg #[.int .i64 y, .slice B m d]] w fun e w' => e = .returned (.bool (decide (x = y ∧ P = Q))) ∧ Below w.heap.size w w' := by
  have HA := Lib.hid ha
  have HC := Lib.hid hb
  have HN := Lib.hid (And.intro hn hm)
  obtain ⟨p, hp⟩ : ∃ p, decide (x = y ∧ P = Q) = p := ⟨_, rfl⟩
  rw [hp]
  have HP := Lib.hid hp
  clear ha hb hn hm hp
  go_enter Try.func17, Try.ntmps17
  go_upto_region 1 with fail
  obtain ⟨w0, hw0⟩ : ∃ W, (w.alloc (.cells #[.int .i64 x, .slice A n c] 24)).alloc (.cells #[.int .i64 y, .slice B m d] 24) = W := ⟨_, rfl⟩
  have C0 : Hid (Rw.Cel w0 w.heap.size [.int .i64 x, .slice A n c]) := hw0 ▸ (Rw.Cel.new w [_, _] _).alloc _
  have D0 : Hid (Rw.Cel w0 (w.heap.size + 1) [.int .i64 y, .slice B m d]) := hw0 ▸ Rw.Cel.new_at _ [_, _] _ (by simp)
  have B0 : Hid (Below w.heap.size w w0) := hw0 ▸ bstep (below_alloc _ _) (below_alloc _ _)
  rw [hw0]
  clear hw0
  obtain ⟨x0, x1⟩ := C0.out.two
  obtain ⟨y0, y1⟩ := D0.out.two
  by_cases hx : x = y
  rotate_left
  · have q1 : (x == y) = false := beq_false_of_ne hx
    have q2 : (x != y) = true := by rw [bne, q1]; rfl
    obtain rfl : false = p := by rw [← HP.out]; exact (decide_eq_false fun h => hx h.1).symm
    clear hx
    go_wp2_with fail
    go_ret
    exact ⟨rfl, B0.out⟩
  subst hx
  have q1 : (x != x) = false := by simp
  by_cases hnm : n = m
  rotate_left
  · have q2 : ((n : Int) == (m : Int)) = false := beq_false_of_ne (by omega)
    have q3 : ((n : Int) != (m : Int)) = true := by rw [bne, q2]; rfl
    obtain rfl : false = p := by
      rw [← HP.out]
      exact (decide_eq_false fun h => hnm (by rw [← HN.out.1, ← HN.out.2, h.2])).symm
    clear hnm
    go_wp2_with fail
    go_ret
    exact ⟨rfl, B0.out⟩
  subst hnm
  have q2 : ((n : Int) != (n : Int)) = false := by simp
  go_wp2_with fail
  clear x0 x1 y0 y1
  go_loopw [5] (fun i wr => ∃ k : Nat, k ≤ n ∧ i = .int .i64 k ∧ (∀ (j : Nat) (a b : List Int), j < k → P[j]? = some a → Q[j]? = some b → a = b) ∧ Below w0.heap.size w0 wr) (fun i _ => n - (RowKit.intOf i).toNat)
  case atStart => exact ⟨0, Nat.zero_le _, rfl, fun j a b h => absurd h (by omega), Below.refl _ _⟩
  case round =>
    obtain ⟨k, hk, rfl, hall, hbel⟩ := hrel
    have HG := Lib.hid hall
    have HW := Lib.hid hbel
    have HB := Lib.hid (bstep B0.out hbel)
    clear hall hbel
    obtain ⟨x0, x1⟩ := (C0.out.on HW.out).two
    obtain ⟨y0, y1⟩ := (D0.out.on HW.out).two
    rcases Nat.lt_or_ge k n with hlt | hge
    · obtain ⟨l, hl⟩ := get_lt (L := P) (k := k) (by have := HN.out; omega)
      obtain ⟨r, hr⟩ := get_lt (L := Q) (k := k) (by have := HN.out; omega)
      obtain ⟨b1, o1, A1, n1, c1, rfl, hb1, e1, hl1, hcl1, hm1⟩ := pls_at (HA.out.on HB.out) hl
      obtain ⟨b2, o2, A2, n2, c2, rfl, hb2, e2, hl2, hcl2, hm2⟩ := pls_at (HC.out.on HB.out) hr
      have KS := Lib.hid fun (W : World) (h : Below wr.heap.size wr W) => rr_Same l r A1 A2 c1 c2 n1 n2 hl1.symm hl2.symm W (hcl1.on h) (hcl2.on h) hm1 hm2
      have HX := Lib.hid fun (W : World) (h : Below wr.heap.size wr W) => And.intro (And.intro ((C0.out.on HW.out).on h).two.2 ((h.cell (p := ⟨b1, o1 + k, none⟩) hb1).trans e1)) (And.intro ((D0.out.on HW.out).on h).two.2 ((h.cell (p := ⟨b2, o2 + k, none⟩) hb2).trans e2))
      have i1 : (k : Int) < (n : Int) := by omega
      have i2 : (0 : Int) ≤ (k : Int) := by omega
      have HLR := Lib.hid (And.intro hl hr)
      by_cases hlr : l = r
      · have hd : decide (l = r) = true := decide_eq_true hlr
        rw [hd] at KS
        subst hlr
        have HG2 : Hid (∀ (j : Nat) (a b : List Int), j < k + 1 → P[j]? = some a → Q[j]? = some b → a = b) := Lib.hid fun j a b hj h3 h4 => by
          rcases Nat.lt_or_ge j k with h5 | h5
          · exact HG.out j a b h5 h3 h4
          · obtain rfl : j = k := by omega
            rw [HLR.out.1] at h3
            rw [HLR.out.2] at h4
            cases h3; cases h4; rfl
        clear hl hr hb1 hb2 e1 e2 hl1 hl2 hcl1 hcl2 hm1 hm2 hd x0 x1 y0 y1
        obtain ⟨x0, x1⟩ := (C0.out.on HW.out).two
        go_wp2_with fail
        clear x0 x1
        go_region_held3 (fun W => (W.cell? ⟨w.heap.size, 1, none⟩ = some (.slice (some ⟨b1, o1, none⟩) n c) ∧ W.cell? ⟨b1, o1 + k, none⟩ = some (.slice A1 n1 c1)) ∧ (W.cell? ⟨w.heap.size + 1, 1, none⟩ = some (.slice (some ⟨b2, o2, none⟩) n d) ∧ W.cell? ⟨b2, o2 + k, none⟩ = some (.slice A2 n2 c2)))
          (first | exact HX.out _ (Below.refl _ _) | exact HX.out _ (drew_below _) | exact HX.out _ HBL.out)
          ((go_at_call 20; (with_reducible refine (KS.out _ (drew_below _)).mono ?_); rintro e wf ⟨rfl, hbf⟩; (have HBL : Hid (Below wr.heap.size wr wf) := Lib.hid (bstep (drew_below _) hbf)); clear hbf))
        all_goals
          go_wp2_with fail
          go_roundw
          case rel => exact ⟨k + 1, by omega, by go_num, HG2.out, bstep HW.out HBL.out⟩
          case measure => simp [RowKit.intOf]; omega
      · have hd : decide (l = r) = false := decide_eq_false hlr
        rw [hd] at KS
        obtain rfl : false = p := by
          rw [← HP.out]
          refine (decide_eq_false fun h => hlr ?_).symm
          rw [h.2, hr] at hl
          exact (Option.some.inj hl).symm
        clear hl hr hb1 hb2 e1 e2 hl1 hl2 hcl1 hcl2 hm1 hm2 hd hlr x0 x1 y0 y1
        obtain ⟨x0, x1⟩ := (C0.out.on HW.out).two
        go_wp2_with fail
        clear x0 x1
        go_region_held3 (fun W => (W.cell? ⟨w.heap.size, 1, none⟩ = some (.slice (some ⟨b1, o1, none⟩) n c) ∧ W.cell? ⟨b1, o1 + k, none⟩ = some (.slice A1 n1 c1)) ∧ (W.cell? ⟨w.heap.size + 1, 1, none⟩ = some (.slice (some ⟨b2, o2, none⟩) n d) ∧ W.cell? ⟨b2, o2 + k, none⟩ = some (.slice A2 n2 c2)))
          (first | exact HX.out _ (Below.refl _ _) | exact HX.out _ (drew_below _) | exact HX.out _ HBL.out)
          ((go_at_call 20; (with_reducible refine (KS.out _ (drew_below _)).mono ?_); rintro e wf ⟨rfl, hbf⟩; (have HBL : Hid (Below wr.heap.size wr wf) := Lib.hid (bstep (drew_below _) hbf)); clear hbf))
        all_goals
          go_wp2_with fail
          go_ret
          exact ⟨rfl, bstep HB.out HBL.out⟩
    · obtain rfl : n = k := by omega
      have hPQ : P = Q := by
        apply List.ext_getElem?
        intro i
        rcases Nat.lt_or_ge i n with hi | hi
        · obtain ⟨l, hl⟩ := get_lt (L := P) (k := i) (by have := HN.out; omega)
          obtain ⟨r, hr⟩ := get_lt (L := Q) (k := i) (by have := HN.out; omega)
          rw [hl, hr, HG.out i l r hi hl hr]
        · rw [List.getElem?_eq_none (by have := HN.out; omega), List.getElem?_eq_none (by have := HN.out; omega)]
      obtain rfl : true = p := by
        rw [← HP.out]
        simp [hPQ]
      clear hPQ
      go_wp2_with fail
      go_ret
      exact ⟨rfl, HB.out⟩
end Go.Proofs.Ytihklpkpcnahkaa.Pipe
/- Check of the reference. -/
namespace Go.Proofs.Ytihklpkpcnahkaa.Pipe
open Go.ChangeShapes Go.WideShapes Go.RowKit Go.Lib
open Go.Proofs.Ytihklpkpcnahkaa.Mem (Cl eI Own)
open Go.Proofs.Ytihklpkpcnahkaa.Vec (sumZ sumZ_nonneg)
open Go.Proofs.Ytihklpkpcnahkaa.Fibre (MM rr_Sum rr_Parts rr_Same)
open Go.Proofs.Ytihklpkpcnahkaa.Rw (glt get_lt ret_bool ret_int bstep below_drewN below_drew drew_below below_alloc)
set_option linter.unusedVariables false
set_option maxRecDepth 100000

theorem nz {E : Int} (h : ¬ E = 0) : (E == 0) = false ∧ (E != 0) = true := by
  have : (E == 0) = false := beq_false_of_ne h
  exact ⟨this, by rw [bne, this]; rfl⟩
theorem plE_par {kinds : Int} {l : List Int} (h : ¬ Fibre.parE l kinds = 0) : plE kinds l = Fibre.parE l kinds := if_neg h
theorem plE_nil {kinds : Int} {l : List Int} (h : Fibre.parE l kinds = 0) (h2 : sumZ l = 0) : plE kinds l = 10 := by unfold plE; rw [if_pos h, if_pos h2]
theorem plE_ok {kinds : Int} {l : List Int} (h : Fibre.parE l kinds = 0) (h2 : ¬ sumZ l = 0) : plE kinds l = 0 := by unfold plE; rw [if_pos h, if_neg h2]
theorem par_sh {kinds : Int} {l : List Int} (h : Fibre.parE l kinds = 0) : Sh l := by
  obtain ⟨h2, h3, h4, h5⟩ := Fibre.lisE_of h
  exact ⟨h3, h5⟩
theorem fs_sh {kinds : Int} {P : List (List Int)} (h : ∀ (j : Nat) (u : List Int), P[j]? = some u → plE kinds u = 0) : ∀ l ∈ P, Sh l := fun l hl => by
  obtain ⟨k, hk⟩ := List.mem_iff_getElem?.mp hl
  have := h k l hk
  by_cases hp : Fibre.parE l kinds = 0
  · exact par_sh hp
  · rw [plE_par hp] at this; exact absurd this hp
set_option maxHeartbeats 3200000 in
theorem pr_Check (hold : Int) (P : List (List Int)) (A : Option Addr) (n c : Nat) (hn : P.length = n) (w : World) (ha : Pls w A P) (h2 : n ≤ 9223372036854775807) :
    Calls Try.prog 14 #[.agg #[.int .i64 hold, .slice A n c]] w fun e w' => e = .returned (.int .i64 (ckP hold P)) ∧ Below w.heap.size w w' := by
  have HA := Lib.hid ha
  have HN := Lib.hid hn
  obtain ⟨E, hE⟩ : ∃ E, ckP hold P = E := ⟨_, rfl⟩
  rw [hE]
  have HE := Lib.hid hE
  have hMM : MM = 1099511627776 := rfl
  clear ha hn hE
  go_enter Try.func14, Try.ntmps14
  go_upto_region 1 with fail
  obtain ⟨w0, hw0⟩ : ∃ W, w.alloc (.cells #[.int .i64 hold, .slice A n c] 24) = W := ⟨_, rfl⟩
  have C0 : Hid (Rw.Cel w0 w.heap.size [.int .i64 hold, .slice A n c]) := hw0 ▸ Rw.Cel.new w [_, _] _
  have B0 : Hid (Below w.heap.size w w0) := hw0 ▸ below_alloc _ _
  rw [hw0]
  clear hw0
  obtain ⟨x0, x1⟩ := C0.out.two
  rcases Int.lt_or_le hold 1 with h0 | h0
  · have d0 : decide (hold < 1) = true := decide_eq_true h0
    obtain rfl : E = 1 := by rw [← HE.out]; exact ckP_hold (by omega)
    clear h0 hMM
    go_wp2_with fail
    go_ret
    exact ⟨rfl, B0.out⟩
  have d0 : decide (hold < 1) = false := decide_eq_false (by omega)
  rcases Int.lt_or_le 1099511627776 hold with h1 | h1
  · have d1 : decide (1099511627776 < hold) = true := decide_eq_true h1
    obtain rfl : E = 1 := by rw [← HE.out]; exact ckP_hold (by omega)
    clear h0 h1 hMM
    go_wp2_with fail
    go_ret
    exact ⟨rfl, B0.out⟩
  have d1 : decide (1099511627776 < hold) = false := decide_eq_false (by omega)
  have HH := Lib.hid (show 1 ≤ hold ∧ hold ≤ MM by omega)
  clear h0 h1
  by_cases hn0 : n = 0
  · subst hn0
    obtain rfl : E = 10 := by rw [← HE.out]; exact ckP_none HH.out HN.out
    clear hMM
    go_wp2_with fail
    go_ret
    exact ⟨rfl, B0.out⟩
  have d2 : ((n : Int) == 0) = false := beq_false_of_ne (by omega)
  rcases Nat.lt_or_ge 256 n with h3 | h3
  · have d3 : decide ((256 : Int) < (n : Int)) = true := decide_eq_true (by omega)
    obtain rfl : E = 8 := by rw [← HE.out]; exact ckP_many HH.out (by have := HN.out; omega)
    clear hMM h3
    go_wp2_with fail
    go_ret
    exact ⟨rfl, B0.out⟩
  have d3 : decide ((256 : Int) < (n : Int)) = false := decide_eq_false (by omega)
  have HL := Lib.hid (show 1 ≤ P.length ∧ P.length ≤ 256 by have := HN.out; omega)
  obtain ⟨l0, hl0⟩ := get_lt (L := P) (k := 0) (by have := HN.out; omega)
  have hk0 : P.headD [] = l0 := by
    have := kin_at HL.out.1
    rw [hl0] at this
    exact (Option.some.inj this).symm
  obtain ⟨m0, hm0⟩ : ∃ x, l0.length = x := ⟨_, rfl⟩
  have HK : Hid (kin P = m0) := Lib.hid (by unfold kin; rw [hk0]; exact hm0)
  have HL0 := Lib.hid (And.intro hl0 hm0)
  clear hl0 hk0 hm0 hMM
  go_wp2_with fail
  clear x0 x1
  go_loopw [3, 4] (fun i _ wr => ∃ k : Nat, k ≤ n ∧ i = .int .i64 k ∧ (∀ (j : Nat) (u : List Int), j < k → P[j]? = some u → plE (kin P : Int) u = 0) ∧ Below w0.heap.size w0 wr) (fun i _ _ => n - (RowKit.intOf i).toNat)
  case atStart => exact ⟨0, Nat.zero_le _, rfl, fun j u h => absurd h (by omega), Below.refl _ _⟩
  case round =>
    obtain ⟨k, hk, rfl, hall, hbel⟩ := hrel
    have HG := Lib.hid hall
    have HW := Lib.hid hbel
    have HB := Lib.hid (bstep B0.out hbel)
    clear hall hbel
    obtain ⟨x0, x1⟩ := (C0.out.on HW.out).two
    rcases Nat.lt_or_ge k n with hlt | hge
    · obtain ⟨l, hl⟩ := get_lt (L := P) (k := k) (by have := HN.out; omega)
      obtain ⟨b, off, A1, n1, c1, rfl, hb, e0, hl1, hcl, hm1⟩ := pls_at (HA.out.on HB.out) hl
      obtain ⟨b', off', A2, n2, c2, e', hb', e1, hl2, -, -⟩ := pls_at (HA.out.on HB.out) HL0.out.1
      cases e'
      obtain rfl : n2 = m0 := by rw [← hl2]; exact HL0.out.2
      have KP := Lib.hid fun (W : World) (h : Below wr.heap.size wr W) => rr_Parts l A1 n1 c1 hl1.symm n2 W (hcl.on h) hm1
      obtain ⟨G, hG⟩ : ∃ x, Fibre.parE l (n2 : Int) = x := ⟨_, rfl⟩
      rw [hG] at KP
      have HX := Lib.hid fun (W : World) (h : Below wr.heap.size wr W) => And.intro ((C0.out.on HW.out).on h).two.2 (And.intro ((h.cell (p := ⟨b, off + k, none⟩) hb).trans e0) ((h.cell (p := ⟨b, off + 0, none⟩) hb).trans e1))
      have HGG := Lib.hid hG
      have HLK := Lib.hid (And.intro hl hl1)
      have HCL := Lib.hid (And.intro hcl hm1)
      have i1 : (k : Int) < (n : Int) := by omega
      have i2 : (0 : Int) ≤ (k : Int) := by omega
      have i3 : (0 : Int) < (n : Int) := by omega
      have i4 : 0 < n := by omega
      rw [Nat.add_zero] at e1 HX
      clear hl hl1 hcl hm1 hb hb' hG hl2
      go_wp2_with fail
      clear x0 x1 e0 e1
      go_region_held3 (fun W => W.cell? ⟨w.heap.size, 1, none⟩ = some (.slice (some ⟨b, off, none⟩) n c) ∧ (W.cell? ⟨b, off + k, none⟩ = some (.slice A1 n1 c1) ∧ W.cell? ⟨b, off, none⟩ = some (.slice A2 n2 c2)))
        (first | exact HX.out _ (Below.refl _ _) | exact HX.out _ (drew_below _) | exact HX.out _ HBL.out)
        ((go_at_call 27; (with_reducible refine (KP.out _ (drew_below _)).mono ?_); rintro e wf ⟨rfl, hbf⟩; (have HBL : Hid (Below wr.heap.size wr wf) := Lib.hid (bstep (drew_below _) hbf)); clear hbf))
      all_goals
        by_cases hz : G = 0
        rotate_left
        · obtain ⟨z1, z2⟩ := nz hz
          obtain rfl : E = G := by
            rw [← HE.out, ← HGG.out]
            have hp := plE_par (kinds := (n2 : Int)) (l := l) (by rw [HGG.out]; exact hz)
            rw [← hp, ← HK.out]
            refine ckP_bad HH.out HL.out.1 HL.out.2 HLK.out.1 ?_ HG.out
            rw [HK.out, hp, HGG.out]; exact hz
          clear hz
          go_wp2_with fail
          go_ret
          exact ⟨rfl, bstep HB.out HBL.out⟩
        subst hz
        have hsh := par_sh HGG.out
        have KS := Lib.hid (rr_Sum l A1 n1 c1 HLK.out.2.symm wf (HCL.out.1.on HBL.out) (by have := hsh.1; have := HLK.out.2; omega) hsh.2)
        obtain ⟨v, hv⟩ : ∃ v, Fibre.sumZ l = v := ⟨_, rfl⟩
        rw [hv] at KS
        have HVV : Hid (sumZ l = v) := Lib.hid hv
        obtain ⟨x1, e0, e1⟩ := HX.out _ HBL.out
        clear hsh hv
        go_wp2_with fail
        refine KS.out.mono ?_
        rintro e w2 ⟨rfl, hb2⟩
        have HB2 := Lib.hid (bstep HBL.out hb2)
        clear hb2 x1 e0 e1
        by_cases hz : v = 0
        · subst hz
          obtain rfl : E = 10 := by
            rw [← HE.out]
            have hp := plE_nil HGG.out HVV.out
            rw [← HK.out] at hp
            rw [← hp]
            exact ckP_bad HH.out HL.out.1 HL.out.2 HLK.out.1 (by rw [hp]; decide) HG.out
          go_wp2_with fail
          go_ret
          exact ⟨rfl, bstep HB.out HB2.out⟩
        have dz : (v == 0) = false := beq_false_of_ne hz
        have HP : Hid (plE (kin P : Int) l = 0) := Lib.hid (by rw [HK.out]; exact plE_ok HGG.out (by rw [HVV.out]; exact hz))
        clear hz
        go_wp2_with fail
        go_roundw
        case rel =>
          refine ⟨k + 1, by omega, by go_num, fun j u hj hu => ?_, bstep HW.out HB2.out⟩
          rcases Nat.lt_or_ge j k with h5 | h5
          · exact HG.out j u h5 hu
          · obtain rfl : j = k := by omega
            rw [HLK.out.1] at hu
            cases hu
            exact HP.out
        case measure => simp [RowKit.intOf]; omega
    · obtain rfl : n = k := by omega
      have hal : ∀ (j : Nat) (u : List Int), P[j]? = some u → plE (kin P : Int) u = 0 := fun j u hu => HG.out j u (by have := glt hu; have := HN.out; omega) hu
      have KT := Lib.hid fun (W : World) (h : Below wr.heap.size wr W) => pr_sum hold P A n c HN.out W (HA.out.on (bstep HB.out h)) (fs_sh hal) h3
      have he := ckP_end HH.out HL.out.1 HL.out.2 hal
      rw [HE.out] at he
      obtain ⟨T, hT⟩ : ∃ T, tot P = T := ⟨_, rfl⟩
      rw [hT] at he KT
      have HX := Lib.hid fun (W : World) (h : Below wr.heap.size wr W) => ((C0.out.on HW.out).on h).two
      have HEE := Lib.hid he
      clear hal he hT
      by_cases hz : T = hold
      · subst hz
        obtain rfl : E = 0 := by rw [HEE.out, if_pos rfl]
        have q1 : (T != T) = false := by simp
        clear HEE
        go_wp2_with fail
        clear x0 x1
        go_region_held3 (fun W => W.cell? ⟨w.heap.size, 0, none⟩ = some (.int .i64 T) ∧ W.cell? ⟨w.heap.size, 1, none⟩ = some (.slice A n c))
          (first | exact HX.out _ (Below.refl _ _) | exact HX.out _ (drew_below _) | exact HX.out _ HBL.out)
          ((go_at_call 28; (with_reducible refine (KT.out _ (drew_below _)).mono ?_); rintro e wf ⟨rfl, hbf⟩; (have HBL : Hid (Below wr.heap.size wr wf) := Lib.hid (bstep (drew_below _) hbf)); clear hbf))
        all_goals
          go_wp2_with fail
          go_ret
          exact ⟨rfl, bstep HB.out HBL.out⟩
      · obtain rfl : E = 39 := by rw [HEE.out, if_neg hz]
        have q1 : (T == hold) = false := beq_false_of_ne hz
        have q2 : (T != hold) = true := by rw [bne, q1]; rfl
        clear HEE hz
        go_wp2_with fail
        clear x0 x1
        go_region_held3 (fun W => W.cell? ⟨w.heap.size, 0, none⟩ = some (.int .i64 hold) ∧ W.cell? ⟨w.heap.size, 1, none⟩ = some (.slice A n c))
          (first | exact HX.out _ (Below.refl _ _) | exact HX.out _ (drew_below _) | exact HX.out _ HBL.out)
          ((go_at_call 28; (with_reducible refine (KT.out _ (drew_below _)).mono ?_); rintro e wf ⟨rfl, hbf⟩; (have HBL : Hid (Below wr.heap.size wr wf) := Lib.hid (bstep (drew_below _) hbf)); clear hbf))
        all_goals
          go_wp2_with fail
          go_ret
          exact ⟨rfl, bstep HB.out HBL.out⟩
end Go.Proofs.Ytihklpkpcnahkaa.Pipe
/- Age, New of the reference. -/
namespace Go.Proofs.Ytihklpkpcnahkaa.Pipe
open Go.ChangeShapes Go.WideShapes Go.RowKit Go.Lib
open Go.Proofs.Ytihklpkpcnahkaa.Mem (Cl eI Own)
open Go.Proofs.Ytihklpkpcnahkaa.Vec (sumZ sumZ_nonneg)
open Go.Proofs.Ytihklpkpcnahkaa.Fibre (MM rr_Sum rr_Parts rr_Same)
open Go.Proofs.Ytihklpkpcnahkaa.Rw (glt get_lt ret_bool ret_int bstep below_drewN below_drew drew_below below_alloc)
set_option linter.unusedVariables false
set_option maxRecDepth 100000

theorem Pls.take {w : World} {A : Option Addr} {P : List (List Int)} (h : Pls w A P) (m : Nat) : Pls w A (P.take m) := fun k l hk => by
  rcases Nat.lt_or_ge k m with hlt | hge
  · exact h k l (by rw [List.getElem?_take_of_lt hlt] at hk; exact hk)
  · have := glt hk
    have := List.length_take_le m P
    omega
theorem take_sh {P : List (List Int)} (h : ∀ l ∈ P, Sh l) (m : Nat) : ∀ l ∈ P.take m, Sh l := fun l hl => h l (List.mem_of_mem_take hl)
theorem pok_sh {hold : Int} {P : List (List Int)} {kinds : Nat} (h : POk hold P kinds) : ∀ l ∈ P, Sh l := fun l hl => (h.all l hl).sh h.k8
theorem agE_ck {hold k : Int} {P : List (List Int)} (h : ¬ ckP hold P = 0) : agE hold P k = ckP hold P := if_neg h
theorem agE_in {hold k : Int} {P : List (List Int)} (h : ckP hold P = 0) (h2 : 0 ≤ k ∧ k < (P.length : Int)) : agE hold P k = 0 := by unfold agE; rw [if_pos h, if_pos h2]
theorem agE_no {hold k : Int} {P : List (List Int)} (h : ckP hold P = 0) (h2 : ¬ (0 ≤ k ∧ k < (P.length : Int))) : agE hold P k = 7 := by unfold agE; rw [if_pos h, if_neg h2]
theorem agV_no {hold k : Int} {P : List (List Int)} (h : ¬ agE hold P k = 0) : agV hold P k = 0 := if_neg h
theorem agV_ok {hold k : Int} {P : List (List Int)} (h : agE hold P k = 0) : agV hold P k = tot (P.take (k.toNat + 1)) := if_pos h
set_option maxHeartbeats 1600000 in
theorem pr_Age (hold k : Int) (P : List (List Int)) (A : Option Addr) (n c : Nat) (hn : P.length = n) (hc : n ≤ c) (w : World) (ha : Pls w A P) (h2 : n ≤ 9223372036854775807) :
    Calls Try.prog 24 #[.agg #[.int .i64 hold, .slice A n c], .int .i64 k] w fun e w' => e = .returned (.tuple #[.int .i64 (agV hold P k), .int .i64 (agE hold P k)]) ∧ Below w.heap.size w w' := by
  have HA := Lib.hid ha
  have HN := Lib.hid (And.intro hn hc)
  have KC := Lib.hid fun (W : World) (h : Pls W A P) => pr_Check hold P A n c hn W h h2
  obtain ⟨E, hE⟩ : ∃ E, ckP hold P = E := ⟨_, rfl⟩
  rw [hE] at KC
  have HE := Lib.hid hE
  clear ha hn hc h2 hE
  go_enter Try.func24, Try.ntmps24
  go_upto_region 1 with fail
  obtain ⟨w0, hw0⟩ : ∃ W, w.alloc (.cells #[.int .i64 hold, .slice A n c] 24) = W := ⟨_, rfl⟩
  have C0 : Hid (Rw.Cel w0 w.heap.size [.int .i64 hold, .slice A n c]) := hw0 ▸ Rw.Cel.new w [_, _] _
  have B0 : Hid (Below w.heap.size w w0) := hw0 ▸ below_alloc _ _
  rw [hw0]
  clear hw0
  obtain ⟨x0, x1⟩ := C0.out.two
  go_wp2_with fail
  refine (KC.out _ (HA.out.on B0.out)).mono ?_
  rintro e w1 ⟨rfl, hb⟩
  have B1 := Lib.hid (bstep B0.out hb)
  have C1 := Lib.hid (C0.out.on hb)
  clear hb x0 x1 C0 B0
  obtain ⟨x0, x1⟩ := C1.out.two
  by_cases hz : E = 0
  rotate_left
  · obtain ⟨z1, z2⟩ := nz hz
    have e1 : agE hold P k = E := (agE_ck (by rw [HE.out]; exact hz)).trans HE.out
    have HEE := Lib.hid (And.intro e1 (agV_no (by rw [e1]; exact hz)))
    clear hz e1
    go_wp2_with fail
    go_ret2
    exact ⟨by rw [HEE.out.1, HEE.out.2]; rfl, B1.out⟩
  subst hz
  have ok := ckP_of HE.out
  have h256 := ok.n2
  rcases Int.lt_or_le k 0 with h0 | h0
  · have d0 : decide (k < 0) = true := decide_eq_true h0
    have e1 : agE hold P k = 7 := agE_no HE.out (by omega)
    have HEE := Lib.hid (And.intro e1 (agV_no (by rw [e1]; decide)))
    clear h0 e1 ok h256
    go_wp2_with fail
    go_ret2
    exact ⟨by rw [HEE.out.1, HEE.out.2]; rfl, B1.out⟩
  have d0 : decide (k < 0) = false := decide_eq_false (by omega)
  rcases Int.lt_or_le k (n : Int) with h1 | h1
  rotate_left
  · have d1 : decide ((n : Int) ≤ k) = true := decide_eq_true h1
    have e1 : agE hold P k = 7 := agE_no HE.out (by have := HN.out; omega)
    have HEE := Lib.hid (And.intro e1 (agV_no (by rw [e1]; decide)))
    clear h0 h1 e1 ok h256
    go_wp2_with fail
    go_ret2
    exact ⟨by rw [HEE.out.1, HEE.out.2]; rfl, B1.out⟩
  have d1 : decide ((n : Int) ≤ k) = false := decide_eq_false (by omega)
  obtain ⟨i, rfl⟩ : ∃ i : Nat, k = i := ⟨k.toNat, by omega⟩
  have e1 : agE hold P i = 0 := agE_in HE.out (by have := HN.out; omega)
  have HEE := Lib.hid (And.intro e1 (agV_ok e1))
  have wi : IntKind.i64.wrap ((i : Int) + 1) = ((i + 1 : Nat) : Int) := Rw.wrap_id (by have := HN.out; omega)
  have i1 : i < n := by omega
  have i2 : i + 1 ≤ c := by have := HN.out; omega
  have KS := Lib.hid fun (W : World) (h : Below w1.heap.size w1 W) => pr_sum 0 (P.take (i + 1)) A (i + 1) c (by rw [List.length_take]; have := HN.out; omega) W (((HA.out.on B1.out).on h).take _) (take_sh (pok_sh ok) _) (by have := HN.out; omega)
  rw [Int.toNat_natCast] at HEE
  obtain ⟨T, hT⟩ : ∃ T, tot (P.take (i + 1)) = T := ⟨_, rfl⟩
  rw [hT] at HEE KS
  clear hT e1 ok h256 h0 h1
  go_wp2_with fail
  refine (KS.out _ (Below.refl _ _)).mono ?_
  rintro e w2 ⟨rfl, hb⟩
  have B2 := Lib.hid (bstep B1.out hb)
  clear hb x0 x1
  go_wp2_with fail
  go_ret2
  exact ⟨by rw [HEE.out.1, HEE.out.2]; rfl, B2.out⟩
end Go.Proofs.Ytihklpkpcnahkaa.Pipe
