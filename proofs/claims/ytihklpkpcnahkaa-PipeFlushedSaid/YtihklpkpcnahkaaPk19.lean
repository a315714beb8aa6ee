/- Several texts in one: PipeL, PipeS, PipeAF, PipeQ, PipeT, PipeAG. -/
import Derived.Test.YtihklpkpcnahkaaPk8
import Derived.Test.YtihklpkpcnahkaaPk18
import Derived.Test.YtihklpkpcnahkaaPk12
import Derived.Test.YtihklpkpcnahkaaPk9
/- Pipes: what the laws say of pushes (pure). -/
namespace Go.Proofs.Ytihklpkpcnahkaa.Pipe
open Go.Proofs.Ytihklpkpcnahkaa.Vec (sumZ plusL lessL plus_at less_at plus_len less_len vec_ext plus_get less_get sumZ_less sumZ_plus sumZ_nonneg le_sum sumZ_cons sumZ_nil sumZ_append zero_of_sum sumZ_zeros zero_plus plus_zero plus_assoc plus_comm less_plus parts_sum parts_part glt get_lt)
open Go.Proofs.Ytihklpkpcnahkaa.Share (partsL partsL_len)
open Go.Proofs.Ytihklpkpcnahkaa.Fibre (MM)
set_option linter.unusedVariables false

section
variable {hold s : Int} {P X : List (List Int)} {kinds : Nat} {m l : List Int}
theorem out_nonneg (h8 : kinds ≤ 8) : ∀ {P : List (List Int)} {s : Int}, 0 ≤ s → Pgs kinds P → ∀ z ∈ outP kinds s P, 0 ≤ z
  | [], s, _, _, z, hz => by rw [List.eq_of_mem_replicate hz]; exact Int.le_refl _
  | l :: P, s, s0, h, z, hz => by
    obtain ⟨g1, g2, g3, g4, -⟩ := gon_step h8 s0 h.head h.tail
    rw [g4] at hz
    obtain ⟨k, hk⟩ := List.mem_iff_getElem?.mp hz
    have hl := h.head.len
    have hgl := gon_len s l
    have hol := out_len (s := s - sumZ (gon s l)) h8 h.tail
    obtain ⟨x, y, hx, hy, rfl⟩ := plus_get (by omega) hk
    obtain ⟨v, hv⟩ := get_lt (L := l) (k := k) (by have := glt hx; omega)
    have h1 := g3 k x v hx hv
    have h2 := out_nonneg h8 (by omega) h.tail y (List.mem_of_getElem? hy)
    omega
/-- Masses that are pushed. -/
theorem push_pg (hp : Fibre.parE m (kinds : Int) = 0) (h0 : 0 < sumZ m) : Pg kinds m := by
  obtain ⟨h2, h3, h4, h5⟩ := Fibre.lisE_of hp
  exact ⟨by omega, h5, h0⟩
theorem push_sum (hp : Fibre.parE m (kinds : Int) = 0) : 0 ≤ sumZ m ∧ m.length = kinds := by
  obtain ⟨h2, h3, h4, h5⟩ := Fibre.lisE_of hp
  exact ⟨sumZ_nonneg fun z hz => (h5 z hz).1, by omega⟩
theorem push_none (hp : Fibre.parE m (kinds : Int) = 0) (h0 : ¬ 0 < sumZ m) : m = List.replicate kinds 0 := by
  obtain ⟨h2, h3, h4, h5⟩ := Fibre.lisE_of hp
  have h6 := (push_sum hp).1
  have hz := zero_of_sum (fun z hz => (h5 z hz).1) (by omega)
  refine vec_ext (by rw [List.length_replicate]; omega) fun i x y hx hy => ?_
  rw [List.eq_of_mem_replicate (List.mem_of_getElem? hy)]
  exact hz x (List.mem_of_getElem? hx)
theorem last_pgs (hp : Fibre.parE m (kinds : Int) = 0) : Pgs kinds (if 0 < sumZ m then [m] else []) := by
  split
  · rename_i h
    exact Pgs.cons (push_pg hp h) (fun x hx => by simp at hx)
  · exact fun x hx => by simp at hx
theorem last_tot (hp : Fibre.parE m (kinds : Int) = 0) : tot (if 0 < sumZ m then [m] else []) = sumZ m := by
  have := (push_sum hp).1
  split
  · show sumZ m + tot [] = _
    rw [tot]; omega
  · rw [tot]; omega
theorem newP_pgs (h : POk hold P kinds) (hp : Fibre.parE m (kinds : Int) = 0) : Pgs kinds (newP P m) :=
  Pgs.append (rmn_ok h.k8 (push_sum hp).1 h.all) (last_pgs hp)
theorem newP_tot (h : POk hold P kinds) (hp : Fibre.parE m (kinds : Int) = 0) (hs : sumZ m ≤ hold) : tot (newP P m) = hold := by
  unfold newP
  rw [tot_append, last_tot hp, rmn_tot h.k8 (push_sum hp).1 (by rw [h.sum]; exact hs) h.all, h.sum]; omega
theorem newP_ok (h : POk hold P kinds) (hp : Fibre.parE m (kinds : Int) = 0) (hs : sumZ m ≤ hold) (hl : (newP P m).length ≤ 256) : POk hold (newP P m) kinds := by
  have ha := newP_pgs h hp
  have ht := newP_tot h hp hs
  have h1 : 1 ≤ (newP P m).length := by
    rcases Nat.eq_zero_or_pos (newP P m).length with h0 | h0
    · rw [List.eq_nil_of_length_eq_zero h0, tot] at ht
      have := h.h1
      omega
    · exact h0
  refine ⟨h.h1, h.h2, h1, hl, h.k1, h.k8, ?_, ha, ht⟩
  unfold kin
  exact (ha _ (List.mem_of_getElem? (kin_at h1))).len
theorem newP_len (P : List (List Int)) (m : List Int) : (newP P m).length ≤ P.length + 1 := by
  unfold newP
  have := rmn_len P (sumZ m)
  rw [List.length_append]
  split
  · rw [List.length_singleton]; omega
  · rw [List.length_nil]; omega
/-- What is there afterwards and what left are what was there and what was pushed. -/
theorem newP_cont (h : POk hold P kinds) (hp : Fibre.parE m (kinds : Int) = 0) : plusL (cont kinds (newP P m)) (outP kinds (sumZ m) P) = plusL (cont kinds P) m := by
  have s0 := push_sum hp
  have hr := rmn_ok h.k8 s0.1 h.all
  have hrl := cont_len hr
  have hol := out_len (s := sumZ m) h.k8 h.all
  have hoc := out_cont h.k8 s0.1 h.all
  have hml := s0.2
  unfold newP
  split
  · rename_i h0
    rw [cont_snoc hr (push_pg hp h0), plus_assoc (by omega) (by omega), plus_comm m, ← plus_assoc (by omega) (by omega), hoc]
  · rename_i h0
    have hm := push_none hp h0
    rw [List.append_nil, hoc]
    conv => rhs; rw [hm]
    rw [plus_zero (cont_len h.all)]
/-! ### Two pushes -/
theorem newP_out (h : POk hold P kinds) {n : List Int} (hp : Fibre.parE m (kinds : Int) = 0) (hn : Fibre.parE n (kinds : Int) = 0) (hs : sumZ m + sumZ n ≤ hold) : outP kinds (sumZ n) (newP P m) = outP kinds (sumZ n) (rmnP (sumZ m) P) := by
  have s0 := push_sum hp
  have n0 := push_sum hn
  unfold newP
  exact out_front n0.1 (by rw [rmn_tot h.k8 s0.1 (by rw [h.sum]; omega) h.all, h.sum]; omega) (last_pgs hp)
/-! ### Ages -/
theorem tot_take {k : Nat} (h : Pgs kinds P) (hk : k < P.length) : tot P = tot (P.take (k + 1)) + tot (P.drop (k + 1)) ∧ 0 < tot (P.take (k + 1)) ∧ 0 ≤ tot (P.drop (k + 1)) ∧ (tot (P.drop (k + 1)) = 0 → k = P.length - 1) := by
  have e : P = P.take (k + 1) ++ P.drop (k + 1) := (List.take_append_drop ..).symm
  have hd : Pgs kinds (P.drop (k + 1)) := fun x hx => h x (List.mem_of_mem_drop hx)
  have ht : Pgs kinds (P.take (k + 1)) := fun x hx => h x (List.mem_of_mem_take hx)
  have h0 := tot_nonneg ht
  have e2 : tot P = tot (P.take (k + 1)) + tot (P.drop (k + 1)) := (congrArg tot e).trans (tot_append _ _)
  refine ⟨e2, ?_, tot_nonneg hd, fun hz => ?_⟩
  · rcases Int.lt_or_le 0 (tot (P.take (k + 1))) with h1 | h1
    · exact h1
    · have h2 := tot_zero ht (by omega)
      have h3 : (P.take (k + 1)).length = k + 1 := by rw [List.length_take]; omega
      rw [h2] at h3; simp at h3
  · have h2 := tot_zero hd hz
    have h3 : (P.drop (k + 1)).length = P.length - (k + 1) := List.length_drop ..
    rw [h2] at h3
    simp at h3
    omega
theorem age_push (h8 : kinds ≤ 8) {k : Nat} (h : Pgs kinds P) (hk : k < P.length) : rmnP (tot (P.take (k + 1))) P = P.drop (k + 1) ∧ outP kinds (tot (P.take (k + 1))) P = cont kinds (P.take (k + 1)) := by
  have hd : Pgs kinds (P.drop (k + 1)) := fun x hx => h x (List.mem_of_mem_drop hx)
  have ht : Pgs kinds (P.take (k + 1)) := fun x hx => h x (List.mem_of_mem_take hx)
  have := whole_front h8 ht hd
  rw [List.take_append_drop] at this
  exact this
end
end Go.Proofs.Ytihklpkpcnahkaa.Pipe
/- Two pushes of as much of different kinds (pure; P19.6). -/
namespace Go.Proofs.Ytihklpkpcnahkaa.Pipe
open Go.Proofs.Ytihklpkpcnahkaa.Vec (sumZ sumZ_cons sumZ_append sumZ_nil)
open Go.Proofs.Ytihklpkpcnahkaa.Fibre (MM)
set_option linter.unusedVariables false

theorem rot_par (a : Int) (t : List Int) (kinds : Int) : Fibre.parE (t ++ [a]) kinds = Fibre.parE (a :: t) kinds := by
  have h1 : (t ++ [a]).length = (a :: t).length := by simp
  have h2 : (t ++ [a]).all (Fibre.inM MM) = (a :: t).all (Fibre.inM MM) := by
    rw [List.all_append, List.all_cons, List.all_cons, List.all_nil, Bool.and_true, Bool.and_comm]
  unfold Fibre.parE Fibre.lisE Fibre.kiB
  rw [h1, h2]
theorem rot_sum (a : Int) (t : List Int) : sumZ (t ++ [a]) = sumZ (a :: t) := by
  rw [sumZ_append, sumZ_cons, sumZ_cons, sumZ_nil]; omega
/-- As much, with the same error for every number of kinds. -/
structure Alike (m m' : List Int) : Prop where
  par : ∀ k, Fibre.parE m k = Fibre.parE m' k
  sum : sumZ m = sumZ m'
theorem rot_alike (a : Int) (t : List Int) : Alike (a :: t) (t ++ [a]) := ⟨fun k => (rot_par a t k).symm, (rot_sum a t).symm⟩
section
variable {hold : Int} {P : List (List Int)} {kinds : Nat} {m m' n : List Int}
theorem Alike.len (h : Alike m m') : (newP P m).length = (newP P m').length := by
  unfold newP
  rw [List.length_append, List.length_append, h.sum]
  by_cases h0 : 0 < sumZ m'
  · rw [if_pos h0, if_pos h0]; rfl
  · rw [if_neg h0, if_neg h0]
theorem Alike.err (h : Alike m m') : puE hold P m = puE hold P m' := by
  unfold puE
  rw [h.par, h.sum, h.len]
theorem Alike.out (h : Alike m m') : puO hold P m = puO hold P m' := by
  unfold puO
  rw [h.err, h.sum]
/-- What a push without an error says. -/
theorem pu_of (h : puE hold P m = 0) : ckP hold P = 0 ∧ Fibre.parE m (kin P : Int) = 0 ∧ sumZ m ≤ hold ∧ (newP P m).length ≤ 256 := by
  by_cases h1 : ckP hold P = 0
  · by_cases h2 : Fibre.parE m (kin P : Int) = 0
    · unfold puE at h
      rw [if_pos h1, if_pos h2] at h
      by_cases h3 : hold < sumZ m
      · rw [if_pos h3] at h; cases h
      · rw [if_neg h3] at h
        by_cases h4 : 256 < (newP P m).length
        · rw [if_pos h4] at h; cases h
        · exact ⟨h1, h2, by omega, by omega⟩
    · unfold puE at h
      rw [if_pos h1, if_neg h2] at h; exact absurd h h2
  · unfold puE at h
    rw [if_neg h1] at h; exact absurd h h1
theorem pu_ok2 (h : puE hold P m = 0) : POk hold P (kin P) ∧ POk hold (newP P m) (kin P) := by
  obtain ⟨h1, h2, h3, h4⟩ := pu_of h
  have ok := ckP_of h1
  exact ⟨ok, newP_ok ok h2 h3 h4⟩
theorem second_err (h : puE hold P m = 0) (hl : P.length ≤ 254) : puE hold (newP P m) n = if Fibre.parE n (kin P : Int) = 0 then (if hold < sumZ n then 8 else 0) else Fibre.parE n (kin P : Int) := by
  obtain ⟨-, ok⟩ := pu_ok2 h
  have h1 := newP_len P m
  have h2 := newP_len (newP P m) n
  unfold puE
  rw [if_pos ok.err, ok.kin, if_neg (show ¬ 256 < (newP (newP P m) n).length by omega)]
theorem Alike.second (h : Alike m m') (h0 : puE hold P m = 0) (hl : P.length ≤ 254) : puE hold (newP P m) n = puE hold (newP P m') n := by
  rw [second_err h0 hl, second_err (h.err ▸ h0) hl]
/-- P19.6. -/
theorem Alike.third (h : Alike m m') (h0 : puE hold P m = 0) (hl : P.length ≤ 254) (h1 : puE hold (newP P m) n = 0) (hs : sumZ m + sumZ n ≤ hold) : puO hold (newP P m) n = puO hold (newP P m') n := by
  obtain ⟨ok, ok2⟩ := pu_ok2 h0
  have h0' : puE hold P m' = 0 := h.err ▸ h0
  obtain ⟨-, ok3⟩ := pu_ok2 h0'
  obtain ⟨-, p1, -, -⟩ := pu_of h0
  obtain ⟨-, p2, -, -⟩ := pu_of h0'
  obtain ⟨-, p3, -, -⟩ := pu_of h1
  rw [ok2.kin] at p3
  have e1 := newP_out ok p1 p3 hs
  have e2 := newP_out ok p2 p3 (by rw [← h.sum]; exact hs)
  unfold puO
  rw [← h.second h0 hl, if_pos h1, if_pos h1, ok2.kin, ok3.kin, e1, e2, h.sum]
end
end Go.Proofs.Ytihklpkpcnahkaa.Pipe
/- Kinds, over the contracts. -/
namespace Go.Proofs.Ytihklpkpcnahkaa.Pipe
open Go.ChangeShapes Go.WideShapes Go.RowKit Go.Lib
open Go.Proofs.Ytihklpkpcnahkaa.Mem (Cl eI Own)
open Go.Proofs.Ytihklpkpcnahkaa.Fibre (rr_Sum)
open Go.Proofs.Ytihklpkpcnahkaa.Vec (sumZ sumZ_nonneg)
open Go.Proofs.Ytihklpkpcnahkaa.Rw (Rd Kd Row glt get_lt below_alloc bstep below_drewN below_drew drew_below cI cI_len kdI flat_cI append_rows step_rows)
set_option linter.unusedVariables false
set_option maxRecDepth 100000

set_option maxHeartbeats 6400000 in
theorem walk_PipeKinds (KK : PiKit) (w : World) (hold : Int) (A : Option Addr) (c : Nat) (P : List (List Int)) (ha : Pls w A P) (hc : P.length ≤ c) (hm : P.length ≤ 9223372036854775807)
    (M : Option Addr) (n' c' : Nat) (m : List Int) (hM : Cl eI w M m) (hn' : m.length = n') (hc' : n' ≤ c') (hm' : n' ≤ 9223372036854775807) (N : Option Addr) (k' d' : Nat) (u : List Int) (hU : Cl eI w N u) (hk' : u.length = k') (hd' : k' ≤ 9223372036854775807) :
    Calls Try.prog 8 #[.agg #[.int .i64 hold, .slice A P.length c], .slice M n' c', .slice N k' d'] w fun e w' => e = .returned (.bool true) ∧ Below w.heap.size w w' := by
  have HA := Lib.hid ha
  have HM := Lib.hid hM
  have HU := Lib.hid hU
  have KQ := Lib.hid KK.awake
  obtain ⟨n, hn⟩ : ∃ n, P.length = n := ⟨_, rfl⟩
  rw [hn] at hm hc ⊢
  have HN := Lib.hid (And.intro hn (And.intro hn' hk'))
  have HC := Lib.hid (And.intro hc (And.intro hc' (And.intro hm (And.intro hm' hd'))))
  have KG := Lib.hid fun (W : World) (h : Pls W A P) => law_great hold P A n c hn W h hm
  obtain ⟨g, hg⟩ : ∃ x, grtP P = x := ⟨_, rfl⟩
  rw [hg] at KG
  clear hg ha hM hU hn hn' hk' hc hc' hm hm' hd'
  go_enter Try.func8, Try.ntmps8
  go_upto_region 1 with fail
  obtain ⟨w0, hw0⟩ : ∃ W, w.alloc (.cells #[.int .i64 hold, .slice A n c] 24) = W := ⟨_, rfl⟩
  have C0 : Hid (Rw.Cel w0 w.heap.size [.int .i64 hold, .slice A n c]) := hw0 ▸ Rw.Cel.new w [_, _] _
  have HB0 : Hid (Below w.heap.size w w0) := hw0 ▸ below_alloc _ _
  rw [hw0]
  clear hw0
  obtain ⟨x0, x1⟩ := C0.out.two
  go_wp2_with fail
  refine (KG.out w0 (HA.out.on HB0.out)).mono ?_
  rintro e w1 ⟨rfl, hb⟩
  have HB := Lib.hid (bstep HB0.out hb)
  have C1 := Lib.hid (C0.out.on hb)
  clear hb x0 x1 C0 HB0
  obtain ⟨x0, x1⟩ := C1.out.two
  have hd : (g = true ∨ (g = false ∧ decide ((20 : Int) < (n' : Int)) = true) ∨ (g = false ∧ decide ((20 : Int) < (n' : Int)) = false ∧ decide ((20 : Int) < (k' : Int)) = true) ∨
      (g = false ∧ decide ((20 : Int) < (n' : Int)) = false ∧ decide ((20 : Int) < (k' : Int)) = false ∧ n' = 0) ∨
      (g = false ∧ decide ((20 : Int) < (n' : Int)) = false ∧ decide ((20 : Int) < (k' : Int)) = false ∧ ((n' : Int) == 0) = false ∧ decide ((254 : Int) < (n : Int)) = true)) ∨
      (g = false ∧ n' ≤ 20 ∧ k' ≤ 20 ∧ 1 ≤ n' ∧ n ≤ 254) := by
    cases g
    · by_cases h1 : n' ≤ 20
      · by_cases h2 : k' ≤ 20
        · by_cases h3 : n' = 0
          · exact Or.inl (Or.inr (Or.inr (Or.inr (Or.inl ⟨rfl, decide_eq_false (by omega), decide_eq_false (by omega), h3⟩))))
          · by_cases h4 : n ≤ 254
            · exact Or.inr ⟨rfl, h1, h2, by omega, h4⟩
            · exact Or.inl (Or.inr (Or.inr (Or.inr (Or.inr ⟨rfl, decide_eq_false (by omega), decide_eq_false (by omega), beq_false_of_ne (by omega), decide_eq_true (by omega)⟩))))
        · exact Or.inl (Or.inr (Or.inr (Or.inl ⟨rfl, decide_eq_false (by omega), decide_eq_true (by omega)⟩)))
      · exact Or.inl (Or.inr (Or.inl ⟨rfl, decide_eq_true (by omega)⟩))
    · exact Or.inl (Or.inl rfl)
  rcases hd with hd | ⟨rfl, hn20, hk20, hn1, hn254⟩
  · rcases hd with rfl | ⟨rfl, d1⟩ | ⟨rfl, d1, d2⟩ | ⟨rfl, d1, d2, rfl⟩ | ⟨rfl, d1, d2, d3, d4⟩
    all_goals
      go_wp2_with fail
      refine (KQ.out _).mono ?_
      rintro e wq ⟨rfl, hb⟩
      have HF := Lib.hid (bstep HB.out hb)
      clear hb
      go_wp2_with fail
      go_ret
      exact ⟨rfl, HF.out⟩
  have d1 : decide ((20 : Int) < (n' : Int)) = false := decide_eq_false (by omega)
  have d2 : decide ((20 : Int) < (k' : Int)) = false := decide_eq_false (by omega)
  have d3 : ((n' : Int) == 0) = false := beq_false_of_ne (by omega)
  have d4 : decide ((254 : Int) < (n : Int)) = false := decide_eq_false (by omega)
  have HH := Lib.hid (And.intro hn20 (And.intro hk20 (And.intro hn1 hn254)))
  obtain ⟨a, t, rfl⟩ : ∃ a t, m = a :: t := by
    match m, HN.out.2.1 with
    | [], h => simp at h; omega
    | a :: t, _ => exact ⟨a, t, rfl⟩
  go_upto_region 3 with fail
  clear d1 d2 d3 d4 x0 x1 hn20 hk20 hn1 hn254
  have M1 := Lib.hid (HM.out.on HB.out)
  obtain ⟨b, off, hMe, hb0, e0⟩ := M1.out 0 a rfl
  subst hMe
  rw [Nat.add_zero] at e0
  have hcl := sl_one M1.out (show t.length + 1 ≤ c' by have h1 := HN.out.2.1; have h2 := HC.out.2.1; simp at h1; omega)
  obtain ⟨A5, hA5⟩ : ∃ A5, (if c' = 1 then (some ⟨b, off, none⟩ : Option Addr) else some ⟨b, off + 1, none⟩) = A5 := ⟨_, rfl⟩
  obtain ⟨n5, hn5⟩ : ∃ n5, n' - 1 = n5 := ⟨_, rfl⟩
  obtain ⟨c5, hc5⟩ : ∃ c5, c' - 1 = c5 := ⟨_, rfl⟩
  rw [hA5] at hcl
  have HT : Hid (t.length = n5 ∧ Cl eI w1 A5 t) := Lib.hid ⟨by have h1 := HN.out.2.1; simp at h1; omega, hcl⟩
  have hE0 := Lib.hid fun (W : World) (h : Below w1.heap.size w1 W) => ((h.cell (p := ⟨b, off, none⟩) hb0).trans e0 : W.cell? ⟨b, off, none⟩ = some (.int .i64 a))
  have i1 : (0 : Int) < (n' : Int) := by have := HH.out; omega
  have i2 : 0 < n' := by have := HH.out; omega
  have i3 : (1 : Int) ≤ (n' : Int) := by omega
  clear hcl hb0 e0
  go_cut [7] from 44 to 52 (fun v wz => ∃ (A6 : Option Addr) (c6 : Nat), v = .slice A6 n' c6 ∧ Cl eI wz A6 (t ++ [a]) ∧ Below w1.heap.size w1 wz)
  case first =>
    have e0 := hE0.out w1 (Below.refl _ _)
    have e1 := hE0.out (w1.alloc (.cells #[] 3)) (below_alloc _ _)
    go_wp2_with fail
    go_region_law ((first
        | (refine step_emp (w0 := w1) rfl (.tmp 44) (.tmp 46) rfl w1.heap.size (by simp [Act.eval]) (by omega) (by first | exact heap_alloc_new _ _ | exact blk_al (heap_alloc_new _ _) _) (by first | exact below_alloc _ _ | exact bstep (below_alloc _ _) (drew_below _) | exact bstep (below_alloc _ _) (below_alloc _ _) | exact bstep (bstep (below_alloc _ _) (drew_below _)) (below_alloc _ _) | exact bstep (drew_below _) (bstep (below_alloc _ _) (below_alloc _ _)) | exact bstep (bstep (below_alloc _ _) (below_alloc _ _)) (drew_below _)) A5 n5 c5 t HT.out.1 (by simp [Act.eval]) HT.out.2 (by have h1 := HT.out.1; have h2 := HN.out.2.1; have h3 := HH.out; simp at h2; omega) ?_; intro A6 n6 c6 w2 hn6 hr6 hk6 hb6 hs6 ho6; have e6 := hE0.out w2 hb6; have HR6 := Lib.hid hr6; have HK6 := Lib.hid hk6; have HB6 := Lib.hid hb6; have HO6 := Lib.hid ho6; subst hn6; clear hr6 hk6 hb6 hs6 ho6)
        | (refine step_emp (w0 := w1) rfl (.tmp 44) (.tmp 46) rfl (w1.heap.size + 1) (by simp [Act.eval]) (by omega) (heap_at2 w1 (.cells #[.int .i64 a] 3) (.cells #[] 3)) (by first | exact below_alloc _ _ | exact bstep (below_alloc _ _) (drew_below _) | exact bstep (below_alloc _ _) (below_alloc _ _) | exact bstep (bstep (below_alloc _ _) (drew_below _)) (below_alloc _ _) | exact bstep (drew_below _) (bstep (below_alloc _ _) (below_alloc _ _)) | exact bstep (bstep (below_alloc _ _) (below_alloc _ _)) (drew_below _)) A5 n5 c5 t HT.out.1 (by simp [Act.eval]) HT.out.2 (by have h1 := HT.out.1; have h2 := HN.out.2.1; have h3 := HH.out; simp at h2; omega) ?_; intro A6 n6 c6 w2 hn6 hr6 hk6 hb6 hs6 ho6; have e6 := hE0.out w2 hb6; have HR6 := Lib.hid hr6; have HK6 := Lib.hid hk6; have HB6 := Lib.hid hb6; have HO6 := Lib.hid ho6; subst hn6; clear hr6 hk6 hb6 hs6 ho6)
        | (refine step_rows kdI w2 rfl (.tmp 47) (.tmp 51) rfl (.slice A6 n6 c6) t (by simp [Act.eval]) HR6.out (by first | exact Below.refl _ _ | exact drew_below _ | exact below_alloc _ _ | exact bstep (below_alloc _ _) (drew_below _) | exact bstep (drew_below _) (below_alloc _ _)) (some ⟨w2.heap.size, 0, none⟩) 1 1 [a] rfl (by simp [Act.eval]) (Rw.rd_one cI_len (heap_alloc_new _ _)) (by have h2 := HN.out.2.1; have h3 := HH.out; simp at h2; simp; omega) HB6.out.size ?_; intro A7 n7 c7 w3 hn7 hr7 hk7 hg7 hat7; have HR7 := Lib.hid hr7; have HN7 := Lib.hid hn7; have HG7 := Lib.hid hg7; clear hr7 hn7 hk7 hg7 hat7)
        | (refine step_rows kdI w2 rfl (.tmp 47) (.tmp 51) rfl (.slice A6 n6 c6) t (by simp [Act.eval]) HR6.out (by first | exact Below.refl _ _ | exact drew_below _ | exact below_alloc _ _ | exact bstep (below_alloc _ _) (drew_below _) | exact bstep (drew_below _) (below_alloc _ _)) (some ⟨(w1.heap.size + 1), 0, none⟩) 1 1 [a] rfl (by simp [Act.eval]) (Rw.rd_one cI_len ((HK6.out (w1.heap.size + 1) (lt_at2 w1 (.cells #[] 3) (.cells #[.int .i64 a] 3)) (by omega)).trans (heap_at2 w1 (.cells #[] 3) (.cells #[.int .i64 a] 3)))) (by have h2 := HN.out.2.1; have h3 := HH.out; simp at h2; simp; omega) HB6.out.size ?_; intro A7 n7 c7 w3 hn7 hr7 hk7 hg7 hat7; have HR7 := Lib.hid hr7; have HN7 := Lib.hid hn7; have HG7 := Lib.hid hg7; clear hr7 hn7 hk7 hg7 hat7)
        | (refine step_rows kdI w2 rfl (.tmp 47) (.tmp 51) rfl (.slice A6 n6 c6) t (by simp [Act.eval]) HR6.out (by first | exact Below.refl _ _ | exact drew_below _ | exact below_alloc _ _ | exact bstep (below_alloc _ _) (drew_below _) | exact bstep (drew_below _) (below_alloc _ _)) (some ⟨w1.heap.size, 0, none⟩) 1 1 [a] rfl (by simp [Act.eval]) (Rw.rd_one cI_len ((HK6.out w1.heap.size (lt_at1 w1 (.cells #[.int .i64 a] 3) (.cells #[] 3)) (by omega)).trans (blk_al (heap_alloc_new w1 (.cells #[.int .i64 a] 3)) (.cells #[] 3)))) (by have h2 := HN.out.2.1; have h3 := HH.out; simp at h2; simp; omega) HB6.out.size ?_; intro A7 n7 c7 w3 hn7 hr7 hk7 hg7 hat7; have HR7 := Lib.hid hr7; have HN7 := Lib.hid hn7; have HG7 := Lib.hid hg7; clear hr7 hn7 hk7 hg7 hat7)))
    all_goals
      have H7 := Lib.hid (own_cl (own_row HR7.out)).2.2.1
      have B7 := Lib.hid (HB6.out.trans (HR6.out.below HG7.out HB6.out.size))
      obtain rfl : n7 = n' := by have h1 := HN7.out; have h2 := HN.out.2.1; simp at h2; omega
      clear e0 e1 e6
      go_wp2_with fail
      go_meet
      case rel => exact ⟨A7, c7, rfl, H7.out, B7.out⟩
  case rest =>
    obtain ⟨A6, c6, rfl, hcl, hb⟩ := hcut
    have HB2 := Lib.hid (bstep HB.out hb)
    have C2 := Lib.hid (C1.out.on hb)
    have MO := Lib.hid hcl
    have HNO : Hid ((t ++ [a]).length = n') := Lib.hid (by have h1 := HN.out.2.1; simp at h1; simp; omega)
    clear hcl hb HT hE0 C1 M1 HB
    have HAL := Lib.hid (rot_alike a t)
    have K1 := Lib.hid fun (W : World) (h : Pls W A P) (h2 : Cl eI W (some ⟨b, off, none⟩) (a :: t)) => KK.push hold P (a :: t) A (some ⟨b, off, none⟩) n c n' c' HN.out.1 HC.out.1 HN.out.2.1 W h h2 HC.out.2.2.1 HC.out.2.2.2.1
    have K2 := Lib.hid fun (W : World) (h : Pls W A P) (h2 : Cl eI W A6 (t ++ [a])) => KK.push hold P (t ++ [a]) A A6 n c n' c6 HN.out.1 HC.out.1 HNO.out W h h2 HC.out.2.2.1 HC.out.2.2.2.1
    have hh : puH hold P (t ++ [a]) = puH hold P (a :: t) := by unfold puH; rw [HAL.out.err]
    rw [← HAL.out.err, ← HAL.out.out, hh] at K2
    obtain ⟨E, hE⟩ : ∃ x, puE hold P (a :: t) = x := ⟨_, rfl⟩
    obtain ⟨H, hH⟩ : ∃ x, puH hold P (a :: t) = x := ⟨_, rfl⟩
    obtain ⟨X, hX⟩ : ∃ x, puP hold P (a :: t) = x := ⟨_, rfl⟩
    obtain ⟨Y, hY⟩ : ∃ x, puP hold P (t ++ [a]) = x := ⟨_, rfl⟩
    obtain ⟨O, hO⟩ : ∃ x, puO hold P (a :: t) = x := ⟨_, rfl⟩
    rw [hE, hH, hX, hO] at K1
    rw [hE, hH, hY, hO] at K2
    have HEQ := Lib.hid (And.intro hE (And.intro hH (And.intro hX (And.intro hY hO))))
    have HXL : Hid (X.length ≤ 256 ∧ Y.length ≤ 256) := Lib.hid ⟨by rw [← hX]; exact puP_len .., by rw [← hY]; exact puP_len ..⟩
    clear hh hE hH hX hY hO hA5 hn5 hc5 i1 i2 i3
    obtain ⟨x0, x1⟩ := C2.out.two
    go_wp2_with fail
    refine (K1.out wc (HA.out.on HB2.out) (HM.out.on HB2.out)).mono ?_
    rintro e w2 ⟨A1, n1, c1, A3, n3, c3, rfl, hl1, hc1, hl3, ho, ho3, hb⟩
    have X1 := Lib.hid ho.pls
    have N1 := Lib.hid (And.intro hl1 hc1)
    have Y1 := Lib.hid (own_cl ho3).2.2
    have M1 := Lib.hid hl3
    replace HB2 := Lib.hid (bstep HB2.out hb)
    replace C2 := Lib.hid (C2.out.on hb)
    replace MO := Lib.hid (MO.out.on hb)
    clear hb ho hl1 hc1 ho3 hl3 x0 x1
    go_upto_region 5 with fail
    obtain ⟨w3, hw⟩ : ∃ W, w2.alloc (.cells #[.int .i64 H, .slice A1 n1 c1] 24) = W := ⟨_, rfl⟩
    obtain ⟨gD, hg⟩ : ∃ g, w2.heap.size = g := ⟨_, rfl⟩
    have hb : Below w2.heap.size w2 w3 := hw ▸ below_alloc _ _
    have D3 : Hid (Rw.Cel w3 gD [.int .i64 H, .slice A1 n1 c1]) := hw ▸ hg ▸ Rw.Cel.new w2 [_, _] _
    replace HB2 := Lib.hid (bstep HB2.out hb)
    replace X1 := Lib.hid (X1.out.on hb)
    have YO := Lib.hid (Y1.out.1.on hb)
    replace C2 := Lib.hid (C2.out.on hb)
    replace MO := Lib.hid (MO.out.on hb)
    first | rw [hw, hg] | rw [hw]
    clear hw hg hb
    obtain ⟨x0, x1⟩ := C2.out.two
    go_wp2_with fail
    refine (K2.out w3 (HA.out.on HB2.out) MO.out).mono ?_
    rintro e w4 ⟨A2, n2, c2, A4, n4, c4, rfl, hl2, hc2, hl4, ho, ho4, hb⟩
    have X2 := Lib.hid ho.pls
    have N2 := Lib.hid (And.intro hl2 hc2)
    have Y2 := Lib.hid (own_cl ho4).2.2
    have M2 := Lib.hid hl4
    replace HB2 := Lib.hid (bstep HB2.out hb)
    replace X1 := Lib.hid (X1.out.on hb)
    replace YO := Lib.hid (YO.out.on hb)
    replace D3 := Lib.hid (D3.out.on hb)
    replace C2 := Lib.hid (C2.out.on hb)
    clear hb ho hl2 hc2 ho4 hl4 x0 x1 MO
    go_upto_region 6 with fail
    obtain ⟨w5, hw⟩ : ∃ W, w4.alloc (.cells #[.int .i64 H, .slice A2 n2 c2] 24) = W := ⟨_, rfl⟩
    obtain ⟨gF, hg⟩ : ∃ g, w4.heap.size = g := ⟨_, rfl⟩
    have hb : Below w4.heap.size w4 w5 := hw ▸ below_alloc _ _
    have F5 : Hid (Rw.Cel w5 gF [.int .i64 H, .slice A2 n2 c2]) := hw ▸ hg ▸ Rw.Cel.new w4 [_, _] _
    replace HB2 := Lib.hid (bstep HB2.out hb)
    replace X1 := Lib.hid (X1.out.on hb)
    replace D3 := Lib.hid (D3.out.on hb)
    replace C2 := Lib.hid (C2.out.on hb)
    replace X2 := Lib.hid (X2.out.on hb)
    replace YO := Lib.hid (YO.out.on hb)
    have ZO := Lib.hid (Y2.out.1.on hb)
    first | rw [hw, hg] | rw [hw]
    clear hw hg hb
    by_cases hz : E = 0
    rotate_left
    · obtain ⟨z1, z2⟩ := nz hz
      clear hz
      go_wp2_with fail
      refine (KQ.out _).mono ?_
      rintro e wq ⟨rfl, hb⟩
      have HF := Lib.hid (bstep HB2.out hb)
      clear hb
      go_wp2_with fail
      go_ret
      exact ⟨rfl, HF.out⟩
    subst hz
    have h00 := HEQ.out.1
    obtain ⟨e1, e2, e3⟩ := pu_ok h00
    obtain ⟨-, e4, -⟩ := pu_ok (HAL.out.err ▸ h00 : puE hold P (t ++ [a]) = 0)
    have HX : Hid (X = newP P (a :: t) ∧ Y = newP P (t ++ [a])) := Lib.hid ⟨by rw [← HEQ.out.2.2.1]; exact e2, by rw [← HEQ.out.2.2.2.1]; exact e4⟩
    obtain rfl : H = hold := by rw [← HEQ.out.2.1]; exact e1
    have K3 := Lib.hid fun (W : World) (h : Pls W A1 X) (h2 : Cl eI W N u) => KK.push H X u A1 N n1 c1 k' d' N1.out.1 N1.out.2 HN.out.2.2 W h h2 (by have := N1.out.1; have := HXL.out; omega) HC.out.2.2.2.2
    have K4 := Lib.hid fun (W : World) (h : Pls W A2 Y) (h2 : Cl eI W N u) => KK.push H Y u A2 N n2 c2 k' d' N2.out.1 N2.out.2 HN.out.2.2 W h h2 (by have := N2.out.1; have := HXL.out; omega) HC.out.2.2.2.2
    have hP254 : P.length ≤ 254 := by have := HN.out.1; have := HH.out; omega
    have hsec := HAL.out.second (n := u) h00 hP254
    have hthi := Lib.hid fun (h1 : puE H X u = 0) (h2 : sumZ (a :: t) + sumZ u ≤ H) => HAL.out.third (n := u) h00 hP254 (by rw [← HX.out.1]; exact h1) h2
    rw [← HX.out.1, ← HX.out.2] at hsec hthi
    obtain ⟨G, hG⟩ : ∃ x, puE H X u = x := ⟨_, rfl⟩
    obtain ⟨HH3, hH3⟩ : ∃ x, puH H X u = x := ⟨_, rfl⟩
    obtain ⟨X3, hX3⟩ : ∃ x, puP H X u = x := ⟨_, rfl⟩
    obtain ⟨O3, hO3⟩ : ∃ x, puO H X u = x := ⟨_, rfl⟩
    obtain ⟨HH4, hH4⟩ : ∃ x, puH H Y u = x := ⟨_, rfl⟩
    obtain ⟨X4, hX4⟩ : ∃ x, puP H Y u = x := ⟨_, rfl⟩
    obtain ⟨O4, hO4⟩ : ∃ x, puO H Y u = x := ⟨_, rfl⟩
    rw [hG] at hsec
    rw [hG, hH3, hX3, hO3] at K3
    rw [← hsec, hH4, hX4, hO4] at K4
    rw [hG, hO3, hO4] at hthi
    have HGG := Lib.hid hG
    have HPU := Lib.hid (pu_of h00)
    clear e1 e2 e3 e4 hsec hG hH3 hX3 hO3 hH4 hX4 hO4 hP254 h00
    obtain ⟨x0, x1⟩ := D3.out.two
    go_wp2_with fail
    refine (K3.out w5 X1.out (HU.out.on HB2.out)).mono ?_
    rintro e w6 ⟨A7, n7, c7, B7, m7, d7, rfl, hl7, -, hm7, -, hp7, hb⟩
    have T7 := Lib.hid (own_cl hp7).2.2
    have M7 := Lib.hid hm7
    replace HB2 := Lib.hid (bstep HB2.out hb)
    replace X2 := Lib.hid (X2.out.on hb)
    replace YO := Lib.hid (YO.out.on hb)
    replace ZO := Lib.hid (ZO.out.on hb)
    replace F5 := Lib.hid (F5.out.on hb)
    replace C2 := Lib.hid (C2.out.on hb)
    clear hb hl7 hm7 hp7 x0 x1 D3 X1 K3
    go_upto_region 9 with fail
    obtain ⟨w7, hw⟩ : ∃ W, w6.alloc (.cells #[.int .i64 HH3, .slice A7 n7 c7] 24) = W := ⟨_, rfl⟩
    have hb : Below w6.heap.size w6 w7 := hw ▸ below_alloc _ _
    replace HB2 := Lib.hid (bstep HB2.out hb)
    replace X2 := Lib.hid (X2.out.on hb)
    replace YO := Lib.hid (YO.out.on hb)
    replace ZO := Lib.hid (ZO.out.on hb)
    replace F5 := Lib.hid (F5.out.on hb)
    replace C2 := Lib.hid (C2.out.on hb)
    have T8 := Lib.hid (T7.out.1.on hb)
    rw [hw]
    clear hw hb
    obtain ⟨x0, x1⟩ := F5.out.two
    go_wp2_with fail
    refine (K4.out w7 X2.out (HU.out.on HB2.out)).mono ?_
    rintro e w8 ⟨A8, n8, c8, B8, m8, d8, rfl, hl8, -, hm8, -, hp8, hb⟩
    have V8 := Lib.hid (own_cl hp8).2.2
    have M8 := Lib.hid hm8
    replace HB2 := Lib.hid (bstep HB2.out hb)
    replace YO := Lib.hid (YO.out.on hb)
    replace ZO := Lib.hid (ZO.out.on hb)
    replace T8 := Lib.hid (T8.out.on hb)
    replace C2 := Lib.hid (C2.out.on hb)
    clear hb hl8 hm8 hp8 x0 x1 F5 X2 K4
    go_upto_region 10 with fail
    obtain ⟨w9, hw⟩ : ∃ W, w8.alloc (.cells #[.int .i64 HH4, .slice A8 n8 c8] 24) = W := ⟨_, rfl⟩
    have hb : Below w8.heap.size w8 w9 := hw ▸ below_alloc _ _
    replace HB2 := Lib.hid (bstep HB2.out hb)
    replace YO := Lib.hid (YO.out.on hb)
    replace ZO := Lib.hid (ZO.out.on hb)
    replace T8 := Lib.hid (T8.out.on hb)
    have V9 := Lib.hid (V8.out.1.on hb)
    replace C2 := Lib.hid (C2.out.on hb)
    rw [hw]
    clear hw hb
    go_wp2_with fail
    refine (list_eq M1.out M2.out YO.out ZO.out Y1.out.2).mono ?_
    rintro e w10 ⟨rfl, hb⟩
    replace HB2 := Lib.hid (bstep HB2.out hb)
    replace T8 := Lib.hid (T8.out.on hb)
    replace V9 := Lib.hid (V9.out.on hb)
    replace C2 := Lib.hid (C2.out.on hb)
    clear hb YO ZO
    by_cases hz : G = 0
    rotate_left
    · obtain ⟨z1, z2⟩ := nz hz
      clear hz
      go_wp2_with fail
      go_quiet (fail)
      go_wp2_with fail
      refine (KQ.out _).mono ?_
      rintro e wq ⟨rfl, hb⟩
      have HF := Lib.hid (bstep (below_drewN HB2.out _) hb)
      clear hb
      go_wp2_with fail
      go_ret
      exact ⟨rfl, HF.out⟩
    subst hz
    obtain ⟨p1, p2, p3, p4⟩ := Fibre.lisE_of HPU.out.2.1
    obtain ⟨-, r0, -, -⟩ := pu_of HGG.out
    obtain ⟨r1, r2, r3, r4⟩ := Fibre.lisE_of r0
    have hs1 := Fibre.sumZ_lim (by decide) p4 (by omega)
    have hs2 := Fibre.sumZ_lim (by decide) r4 (by omega)
    have L1 := Lib.hid fun (W : World) (h : Cl eI W (some ⟨b, off, none⟩) (a :: t)) => rr_Sum (a :: t) (some ⟨b, off, none⟩) n' c' HN.out.2.1.symm W h (by have := HN.out.2.1; omega) p4
    have L2 := Lib.hid fun (W : World) (h : Cl eI W N u) => rr_Sum u N k' d' HN.out.2.2.symm W h (by have := HN.out.2.2; omega) r4
    obtain ⟨S, hS⟩ : ∃ S, Fibre.sumZ (a :: t) = S := ⟨_, rfl⟩
    obtain ⟨T, hT⟩ : ∃ T, Fibre.sumZ u = T := ⟨_, rfl⟩
    rw [hS] at L1 hs1
    rw [hT] at L2 hs2
    have hM : Fibre.MM = 1099511627776 := rfl
    rw [hM] at hs1 hs2
    have HST : Hid ((0 : Int) = 0 → S + T ≤ H → O3 = O4) := Lib.hid fun h1 h2 => hthi.out h1 (by rw [← hS, ← hT] at h2; exact h2)
    have wst : IntKind.i64.wrap (S + T) = S + T := Rw.wrap_id (by omega)
    clear p1 p2 p3 p4 r0 r1 r2 r3 r4 hs1 hs2 hS hT hM hthi HPU HGG
    have HX5 := Lib.hid fun (W : World) (h : Below w10.heap.size w10 W) => (C2.out.on h).two.1
    have HL1 := Lib.hid fun (W : World) (h : Below w10.heap.size w10 W) => L1.out W (HM.out.on (bstep HB2.out h))
    have HL2 := Lib.hid fun (W : World) (h : Below w10.heap.size w10 W) => L2.out W (HU.out.on (bstep HB2.out h))
    rcases Int.lt_or_le H (S + T) with hbig | hsm
    · have d1 : decide (H < S + T) = true := decide_eq_true hbig
      clear hbig HST
      go_upto_region 12 with fail
      have HBL := Lib.hid (Below.refl w10.heap.size w10)
      go_region_held3 (fun W => W.cell? ⟨w.heap.size, 0, none⟩ = some (.int .i64 H))
        (first | exact HX5.out _ HBL.out | exact HX5.out _ (bstep HBL.out (drew_below _)))
        ((first
          | (go_at_call 25; (with_reducible refine (HL2.out _ HBL.out).mono ?_); rintro e wa ⟨rfl, hba⟩; (replace HBL := Lib.hid (bstep HBL.out hba)); clear hba)
              | (go_at_call 25; (with_reducible refine (HL2.out _ (bstep HBL.out (drew_below _))).mono ?_); rintro e wa ⟨rfl, hba⟩; (replace HBL := Lib.hid (bstep (bstep HBL.out (drew_below _)) hba)); clear hba)
          | (go_at_call 25; (with_reducible refine (HL1.out _ HBL.out).mono ?_); rintro e wa ⟨rfl, hba⟩; (replace HBL := Lib.hid (bstep HBL.out hba)); clear hba)
              | (go_at_call 25; (with_reducible refine (HL1.out _ (bstep HBL.out (drew_below _))).mono ?_); rintro e wa ⟨rfl, hba⟩; (replace HBL := Lib.hid (bstep (bstep HBL.out (drew_below _)) hba)); clear hba)))
      all_goals
        go_wp2_with fail
        refine (KQ.out _).mono ?_
        rintro e wq ⟨rfl, hb⟩
        have HF := Lib.hid (bstep (bstep HB2.out HBL.out) hb)
        clear hb
        go_wp2_with fail
        go_ret
        exact ⟨rfl, HF.out⟩
    · have d1 : decide (H < S + T) = false := decide_eq_false (by omega)
      obtain rfl : O3 = O4 := HST.out rfl hsm
      clear hsm
      go_upto_region 12 with fail
      have HBL := Lib.hid (Below.refl w10.heap.size w10)
      go_region_held3 (fun W => W.cell? ⟨w.heap.size, 0, none⟩ = some (.int .i64 H))
        (first | exact HX5.out _ HBL.out | exact HX5.out _ (bstep HBL.out (drew_below _)))
        ((first
          | (go_at_call 25; (with_reducible refine (HL2.out _ HBL.out).mono ?_); rintro e wa ⟨rfl, hba⟩; (replace HBL := Lib.hid (bstep HBL.out hba)); clear hba)
              | (go_at_call 25; (with_reducible refine (HL2.out _ (bstep HBL.out (drew_below _))).mono ?_); rintro e wa ⟨rfl, hba⟩; (replace HBL := Lib.hid (bstep (bstep HBL.out (drew_below _)) hba)); clear hba)
          | (go_at_call 25; (with_reducible refine (HL1.out _ HBL.out).mono ?_); rintro e wa ⟨rfl, hba⟩; (replace HBL := Lib.hid (bstep HBL.out hba)); clear hba)
              | (go_at_call 25; (with_reducible refine (HL1.out _ (bstep HBL.out (drew_below _))).mono ?_); rintro e wa ⟨rfl, hba⟩; (replace HBL := Lib.hid (bstep (bstep HBL.out (drew_below _)) hba)); clear hba)))
      all_goals
        have HF2 := Lib.hid (bstep HB2.out HBL.out)
        have T9 := Lib.hid (T8.out.on HBL.out)
        have V10 := Lib.hid (V9.out.on HBL.out)
        go_wp2_with fail
        refine (list_eq M7.out M8.out T9.out V10.out T7.out.2).mono ?_
        rintro e w11 ⟨rfl, hb⟩
        replace HF2 := Lib.hid (bstep HF2.out hb)
        clear hb
        go_wp2_with fail
        refine (KQ.out _).mono ?_
        rintro e wq ⟨rfl, hb⟩
        have HF := Lib.hid (bstep HF2.out hb)
        clear hb
        go_wp2_with fail
        go_ret
        exact ⟨rfl, HF.out⟩
end Go.Proofs.Ytihklpkpcnahkaa.Pipe
/- Flushing a pipe with one kind (pure; P19.7). -/
namespace Go.Proofs.Ytihklpkpcnahkaa.Pipe
open Go.Proofs.Ytihklpkpcnahkaa.Vec (sumZ plusL lessL plus_at sumZ_cons sumZ_zeros)
open Go.Proofs.Ytihklpkpcnahkaa.Fibre (MM)
set_option linter.unusedVariables false

/-- Masses of the first kind alone. -/
def oneK (kinds : Nat) (n : Int) : List Int := (List.replicate kinds 0).set 0 n
section
variable {kinds : Nat} {n hold left : Int} {P : List (List Int)}
theorem oneK_cons (k : Nat) (n : Int) : oneK (k + 1) n = n :: List.replicate k 0 := rfl
theorem oneK_len : (oneK kinds n).length = kinds := by unfold oneK; rw [List.length_set, List.length_replicate]
theorem oneK_sum (h : 1 ≤ kinds) : sumZ (oneK kinds n) = n := by
  obtain ⟨k, rfl⟩ : ∃ k, kinds = k + 1 := ⟨kinds - 1, by omega⟩
  rw [oneK_cons, sumZ_cons, sumZ_zeros]; omega
theorem oneK_at (h : 1 ≤ kinds) : (oneK kinds n)[0]? = some n := by
  obtain ⟨k, rfl⟩ : ∃ k, kinds = k + 1 := ⟨kinds - 1, by omega⟩
  rfl
theorem oneK_par (h : 1 ≤ kinds) (h8 : kinds ≤ 8) (h0 : 0 ≤ n) (h1 : n ≤ MM) : Fibre.parE (oneK kinds n) (kinds : Int) = 0 := by
  refine Fibre.lisE_mk (by omega) (by omega) (by rw [oneK_len]) fun z hz => ?_
  obtain ⟨k, rfl⟩ : ∃ k, kinds = k + 1 := ⟨kinds - 1, by omega⟩
  rw [oneK_cons] at hz
  rcases List.mem_cons.mp hz with rfl | hz
  · exact ⟨h0, h1⟩
  · rw [List.eq_of_mem_replicate hz]
    exact ⟨Int.le_refl _, by decide⟩
/-- Of the former contents 'left' grams are there; behind them lies the first kind alone. -/
structure Flu (hold left : Int) (P : List (List Int)) (kinds : Nat) : Prop where
  ok : POk hold P kinds
  l0 : 0 ≤ left
  parts : ∃ Y X, P = Y ++ X ∧ tot Y = left ∧ ∀ l ∈ X, ∃ n, l = oneK kinds n
theorem Flu.start (h : POk hold P kinds) : Flu hold hold P kinds := ⟨h, by have := h.h1; omega, P, [], (List.append_nil P).symm, h.sum, fun l hl => by simp at hl⟩
theorem Flu.step (h : Flu hold left P kinds) (h0 : 0 ≤ n) (h1 : n ≤ left) (hl : P.length ≤ 255) :
    puE hold P (oneK kinds n) = 0 ∧ Flu hold (left - n) (newP P (oneK kinds n)) kinds ∧ (newP P (oneK kinds n)).length ≤ P.length + 1 := by
  obtain ⟨Y, X, rfl, hY, hX⟩ := h.parts
  have hpY : Pgs kinds Y := fun l hl => h.ok.all l (List.mem_append_left _ hl)
  have hpX : Pgs kinds X := fun l hl => h.ok.all l (List.mem_append_right _ hl)
  have hle : left ≤ hold := by
    have h2 := h.ok.sum
    rw [tot_append] at h2
    have h3 := tot_nonneg hpX
    omega
  have hm := h.ok.h2
  have hp := oneK_par (n := n) h.ok.k1 h.ok.k8 h0 (by omega)
  have hs := oneK_sum (n := n) h.ok.k1
  have hlen := newP_len (Y ++ X) (oneK kinds n)
  have ok2 := newP_ok h.ok hp (by rw [hs]; omega) (by omega)
  refine ⟨?_, ⟨ok2, by omega, rmnP n Y, X ++ (if 0 < n then [oneK kinds n] else []), ?_, ?_, fun l hl => ?_⟩, hlen⟩
  · unfold puE
    rw [if_pos h.ok.err, h.ok.kin, if_pos hp, if_neg (by rw [hs]; omega), if_neg (by omega)]
  · unfold newP
    rw [hs, rmn_front h0 (by omega) hpX, List.append_assoc]
  · rw [rmn_tot h.ok.k8 h0 (by omega) hpY, hY]
  · rcases List.mem_append.mp hl with hl | hl
    · exact hX l hl
    · by_cases h5 : 0 < n
      · rw [if_pos h5] at hl
        rw [List.mem_singleton] at hl
        exact ⟨n, hl⟩
      · rw [if_neg h5] at hl; simp at hl
theorem cont_one (hk : 1 ≤ kinds) : ∀ {X : List (List Int)}, (∀ l ∈ X, ∃ n, l = oneK kinds n) → (cont kinds X)[0]? = some (tot X)
  | [], _ => by
    obtain ⟨k, rfl⟩ : ∃ k, kinds = k + 1 := ⟨kinds - 1, by omega⟩
    rfl
  | l :: X, h => by
    obtain ⟨n, rfl⟩ := h l (List.mem_cons_self ..)
    have ih := cont_one hk (X := X) fun u hu => h u (List.mem_cons_of_mem _ hu)
    rw [cont, tot, oneK_sum hk]
    exact plus_at (oneK_at hk) ih
/-- P19.7. -/
theorem Flu.end_ (h : Flu hold 0 P kinds) : ckP hold P = 0 ∧ (coL hold P).length = kinds ∧ (coL hold P)[0]? = some hold := by
  obtain ⟨Y, X, rfl, hY, hX⟩ := h.parts
  have hpY : Pgs kinds Y := fun l hl => h.ok.all l (List.mem_append_left _ hl)
  obtain rfl := tot_zero hpY hY
  rw [List.nil_append] at *
  have he := h.ok.err
  have hc : coL hold X = cont kinds X := by unfold coL; rw [if_pos he, h.ok.kin]
  refine ⟨he, ?_, ?_⟩
  · rw [hc]; exact cont_len h.ok.all
  · rw [hc, cont_one h.ok.k1 hX, h.ok.sum]
end
end Go.Proofs.Ytihklpkpcnahkaa.Pipe
/- Ages, and as much pushed as the age of a plug (pure; P19.4). -/
namespace Go.Proofs.Ytihklpkpcnahkaa.Pipe
open Go.Proofs.Ytihklpkpcnahkaa.Vec (sumZ)
open Go.Proofs.Ytihklpkpcnahkaa.Fibre (MM)
set_option linter.unusedVariables false
section
variable {hold : Int} {P : List (List Int)} {kinds k : Nat}
theorem age_ok (h : POk hold P kinds) (hk : k < P.length) : agE hold P (k : Int) = 0 ∧ agV hold P (k : Int) = tot (P.take (k + 1)) ∧ 1 ≤ tot (P.take (k + 1)) ∧ tot (P.take (k + 1)) ≤ hold := by
  have he : agE hold P (k : Int) = 0 := by unfold agE; rw [if_pos h.err, if_pos (by omega)]
  obtain ⟨h1, h2, h3, -⟩ := tot_take h.all hk
  have h4 := h.sum
  refine ⟨he, ?_, by omega, by omega⟩
  unfold agV
  rw [if_pos he, Int.toNat_natCast]
theorem age_last (h : POk hold P kinds) : agV hold P ((P.length - 1 : Nat) : Int) = hold := by
  have hk : P.length - 1 < P.length := by have := h.n1; omega
  rw [(age_ok h hk).2.1, show P.length - 1 + 1 = P.length by have := h.n1; omega, List.take_length, h.sum]
theorem age_full (h : POk hold P kinds) (hk : k < P.length) : tot (P.take (k + 1)) = hold ↔ k = P.length - 1 := by
  obtain ⟨h1, h2, h3, h4⟩ := tot_take h.all hk
  have h5 := h.sum
  constructor
  · intro e
    exact h4 (by omega)
  · intro e
    rw [e, show P.length - 1 + 1 = P.length by have := h.n1; omega, List.take_length, h.sum]
/-- As much as the age of a plug: exactly the plugs up to it leave. -/
theorem ages (h : POk hold P kinds) (hk : k < P.length) : puE hold P (oneK kinds (tot (P.take (k + 1)))) = 0 ∧
    newP P (oneK kinds (tot (P.take (k + 1)))) = P.drop (k + 1) ++ [oneK kinds (tot (P.take (k + 1)))] ∧ (newP P (oneK kinds (tot (P.take (k + 1))))).length = P.length - k ∧
    puO hold P (oneK kinds (tot (P.take (k + 1)))) = cont kinds (P.take (k + 1)) := by
  obtain ⟨-, -, h1, h2⟩ := age_ok h hk
  obtain ⟨e1, e2⟩ := age_push h.k8 h.all hk
  have hs := oneK_sum (n := tot (P.take (k + 1))) h.k1
  have hp := oneK_par (n := tot (P.take (k + 1))) h.k1 h.k8 (by omega) (by have := h.h2; omega)
  have hn : newP P (oneK kinds (tot (P.take (k + 1)))) = P.drop (k + 1) ++ [oneK kinds (tot (P.take (k + 1)))] := by
    unfold newP
    rw [hs, if_pos (by omega), e1]
  have hl : (newP P (oneK kinds (tot (P.take (k + 1))))).length = P.length - k := by
    rw [hn, List.length_append, List.length_drop, List.length_singleton]; omega
  have he : puE hold P (oneK kinds (tot (P.take (k + 1)))) = 0 := by
    unfold puE
    rw [if_pos h.err, h.kin, if_pos hp, if_neg (by rw [hs]; omega), if_neg (by rw [hl]; have := h.n2; omega)]
  refine ⟨he, hn, hl, ?_⟩
  unfold puO
  rw [if_pos he, h.kin, hs, e2]
end
end Go.Proofs.Ytihklpkpcnahkaa.Pipe
/- Ages, over the contracts. -/
namespace Go.Proofs.Ytihklpkpcnahkaa.Pipe
open Go.ChangeShapes Go.WideShapes Go.RowKit Go.Lib Go.Joins
open Go.Proofs.Ytihklpkpcnahkaa.Mem (Cl eI Own make_ints)
open Go.Proofs.Ytihklpkpcnahkaa.Share (zeros one_made lst_zero)
open Go.Proofs.Ytihklpkpcnahkaa.Vec (plusL plus_at)
open Go.Proofs.Ytihklpkpcnahkaa.Rw (Off glt get_lt below_alloc bstep below_drewN below_drew drew_below)
set_option linter.unusedVariables false
set_option maxRecDepth 100000
set_option maxHeartbeats 6400000 in
theorem walk_PipeAges (KK : PiKit) (w : World) (hold : Int) (A : Option Addr) (c : Nat) (P : List (List Int)) (ha : Pls w A P) (hc : P.length ≤ c) (hm : P.length ≤ 9223372036854775807) (z : Int) (hz : (Lit.int .u8 z).wf = true) :
    Calls Try.prog 9 #[.agg #[.int .i64 hold, .slice A P.length c], .int .u8 z] w fun e w' => e = .returned (.bool true) ∧ Below w.heap.size w w' := by
  have HA := Lib.hid ha
  have KQ := Lib.hid KK.awake
  have hz2 : 0 ≤ z ∧ z ≤ 255 := by simpa [Lit.wf, IntKind.min, IntKind.max, IntKind.signed, IntKind.bits] using hz
  have HZ2 := Lib.hid hz2
  obtain ⟨n, hn⟩ : ∃ n, P.length = n := ⟨_, rfl⟩
  rw [hn] at hm hc ⊢
  have HN := Lib.hid hn
  have HCC := Lib.hid (And.intro hc hm)
  have KG := Lib.hid fun (W : World) (h : Pls W A P) => law_great hold P A n c hn W h hm
  have K1 := Lib.hid fun (W : World) (h : Pls W A P) => KK.check hold P A n c hn W h hm
  obtain ⟨E, hE⟩ : ∃ x, ckP hold P = x := ⟨_, rfl⟩
  obtain ⟨g, hg⟩ : ∃ x, grtP P = x := ⟨_, rfl⟩
  rw [hE] at K1
  rw [hg] at KG
  have HE := Lib.hid hE
  clear hE hg ha hn hc hm hz hz2
  go_enter Try.func9, Try.ntmps9
  go_upto_region 1 with fail
  obtain ⟨w0, hw0⟩ : ∃ W, w.alloc (.cells #[.int .i64 hold, .slice A n c] 24) = W := ⟨_, rfl⟩
  have C0 : Hid (Rw.Cel w0 w.heap.size [.int .i64 hold, .slice A n c]) := hw0 ▸ Rw.Cel.new w [_, _] _
  have HB0 : Hid (Below w.heap.size w w0) := hw0 ▸ below_alloc _ _
  rw [hw0]
  clear hw0
  obtain ⟨x0, x1⟩ := C0.out.two
  go_wp2_with fail
  refine (KG.out w0 (HA.out.on HB0.out)).mono ?_
  rintro e w1 ⟨rfl, hb⟩
  have HB := Lib.hid (bstep HB0.out hb)
  have C1 := Lib.hid (C0.out.on hb)
  clear hb x0 x1 C0 HB0
  obtain ⟨x0, x1⟩ := C1.out.two
  cases g with
  | true =>
    go_wp2_with fail
    refine (KQ.out _).mono ?_
    rintro e wq ⟨rfl, hb⟩
    have HF := Lib.hid (bstep HB.out hb)
    clear hb
    go_wp2_with fail
    go_ret
    exact ⟨rfl, HF.out⟩
  | false =>
  go_wp2_with fail
  refine (K1.out w1 (HA.out.on HB.out)).mono ?_
  rintro e w2 ⟨rfl, hb⟩
  replace HB := Lib.hid (bstep HB.out hb)
  have C2 := Lib.hid (C1.out.on hb)
  clear hb x0 x1 C1
  obtain ⟨x0, x1⟩ := C2.out.two
  by_cases hz : E = 0
  rotate_left
  · obtain ⟨z1, z2⟩ := nz hz
    clear hz
    go_wp2_with fail
    refine (KQ.out _).mono ?_
    rintro e wq ⟨rfl, hb⟩
    have HF := Lib.hid (bstep HB.out hb)
    clear hb
    go_wp2_with fail
    go_ret
    exact ⟨rfl, HF.out⟩
  subst hz
  have OK := Lib.hid (ckP_of HE.out)
  have d2 : ((n : Int) == 0) = false := beq_false_of_ne (by have := OK.out.n1; have := HN.out; omega)
  have d3 : ¬ (n : Int) = 0 := by have := OK.out.n1; have := HN.out; omega
  have d3' : ¬ n = 0 := by omega
  obtain ⟨ki, hki⟩ : ∃ x, kin P = x := ⟨_, rfl⟩
  rw [hki] at OK
  obtain ⟨k, hk⟩ : ∃ k : Nat, z % (n : Int) = k := ⟨(z % (n : Int)).toNat, by
    have h1 := Int.emod_nonneg z d3
    omega⟩
  have hkt : z.tmod (n : Int) = k := by rw [Int.tmod_eq_emod_of_nonneg HZ2.out.1]; exact hk
  have HK : Hid (k < n ∧ n ≤ 256) := Lib.hid (by
    have h1 := Int.emod_lt_of_pos z (show (0 : Int) < (n : Int) by omega)
    have := OK.out.n2
    have := HN.out
    omega)
  have wk : IntKind.i64.wrap (k : Int) = k := Rw.wrap_id (by have := HK.out; omega)
  have wz : IntKind.i64.wrap z = z := Rw.wrap_id (by have := HZ2.out; omega)
  obtain ⟨a1, a2, a3, a4⟩ := age_ok OK.out (show k < P.length by have := HK.out; have := HN.out; omega)
  have aF := age_full OK.out (show k < P.length by have := HK.out; have := HN.out; omega)
  have aL := age_last OK.out
  obtain ⟨b1, -, -, -⟩ := age_ok OK.out (show P.length - 1 < P.length by have := OK.out.n1; omega)
  obtain ⟨pa1, pa2, pa3, pa4⟩ := ages OK.out (show k < P.length by have := HK.out; have := HN.out; omega)
  have K2 := Lib.hid fun (W : World) (h : Pls W A P) => KK.age hold (k : Int) P A n c HN.out HCC.out.1 W h HCC.out.2
  have K3 := Lib.hid fun (W : World) (h : Pls W A P) => KK.age hold ((P.length - 1 : Nat) : Int) P A n c HN.out HCC.out.1 W h HCC.out.2
  obtain ⟨t, ht⟩ : ∃ t, tot (P.take (k + 1)) = t := ⟨_, rfl⟩
  obtain ⟨e1, he1⟩ : ∃ e, P.length - 1 = e := ⟨_, rfl⟩
  rw [a1, a2, ht] at K2
  rw [b1, aL, he1] at K3
  rw [ht] at aF a3 a4 pa1 pa2 pa3 pa4
  rw [he1] at aF
  have HT := Lib.hid (And.intro ht (And.intro a3 a4))
  have HPA := Lib.hid (And.intro pa1 (And.intro pa3 pa4))
  have he2 : (n : Int) - 1 = (e1 : Int) := by have := HN.out; omega
  have we : IntKind.i64.wrap (e1 : Int) = e1 := Rw.wrap_id (by have := HK.out; have := HN.out; omega)
  obtain ⟨q, hq1, hq2⟩ : ∃ q : Bool, (t == hold) = q ∧ ((k : Int) == (e1 : Int)) = q := by
    by_cases h : t = hold
    · exact ⟨true, by simpa using h, by have := aF.mp h; simp; omega⟩
    · exact ⟨false, by simpa using h, by
        have : ¬ k = e1 := fun e => h (aF.mpr e)
        simp; omega⟩
  have d4 : decide (t < 1) = false := decide_eq_false (by omega)
  have d5 : decide (hold < t) = false := decide_eq_false (by omega)
  have HQ := Lib.hid hq2
  have hq3 : (k == e1) = q := by rw [← hq2]; apply Bool.eq_iff_iff.mpr; simp; omega
  clear a1 a2 a3 a4 aF aL b1 pa1 pa2 pa3 pa4 ht he1 hki
  go_wp2_with fail
  refine (K2.out w2 (HA.out.on HB.out)).mono ?_
  rintro e w3 ⟨rfl, hb⟩
  replace HB := Lib.hid (bstep HB.out hb)
  have C3 := Lib.hid (C2.out.on hb)
  clear hb x0 x1 C2 d2 d3 d3' hk hkt wz
  obtain ⟨x0, x1⟩ := C3.out.two
  go_wp2_with fail
  refine (K3.out w3 (HA.out.on HB.out)).mono ?_
  rintro e w4 ⟨rfl, hb⟩
  replace HB := Lib.hid (bstep HB.out hb)
  have C4 := Lib.hid (C3.out.on hb)
  clear hb x0 x1 C3 K2 K3
  obtain ⟨x0, x1⟩ := C4.out.two
  obtain ⟨l0, hl0⟩ := get_lt (L := P) (k := 0) (by have := OK.out.n1; omega)
  obtain ⟨b, off, A1, n1, c1, hA, hb0, e0, hl1, hcl, hm1⟩ := pls_at (HA.out.on HB.out) hl0
  subst hA
  obtain rfl : n1 = ki := by
    have := (OK.out.all l0 (List.mem_of_getElem? hl0)).len
    omega
  rw [Nat.add_zero] at e0
  have HE0 := Lib.hid (And.intro hb0 e0)
  have i3 : (0 : Int) < (n : Int) := by have := HN.out; have := OK.out.n1; omega
  have i4 : 0 < n := by have := HN.out; have := OK.out.n1; omega
  have d6 : ((n1 : Int) == 0) = false := beq_false_of_ne (by have := OK.out.k1; omega)
  have j4 : 0 < n1 := by have := OK.out.k1; omega
  have j3 : (0 : Int) < (n1 : Int) := by omega
  have hmk := fun W => make_ints n1 (by have := OK.out.k8; omega) W
  clear hl0 hcl hl1 hb0
  cases q
  all_goals
    go_upto_region 8 with fail
    have O6 := Lib.hid (one_made w4 n1 (by have := OK.out.k8; omega))
    rw [← lst_zero] at O6
    have B6 : Hid (Below w4.heap.size w4 (w4.alloc (zeros n1))) := Lib.hid (below_alloc _ _)
    obtain ⟨w6, hw6⟩ : ∃ W, w4.alloc (zeros n1) = W := ⟨_, rfl⟩
    obtain ⟨gi, hgi⟩ : ∃ x, w4.heap.size = x := ⟨_, rfl⟩
    have GI := Lib.hid hgi
    rw [hw6] at O6 B6
    rw [hgi] at O6
    go_upto_region 11 with fail
    clear hw6 hgi
    have ci : w6.cell? ⟨gi, 0, none⟩ = some (.int .i64 0) := O6.out.cell (by rw [List.getElem?_replicate, if_pos j4])
    have fi := O6.out.warm (by rw [List.length_replicate]) 0
    have O7 : Hid (Own eI 3 gi (w6.setCell ⟨gi, 0, none⟩ (.int .i64 t)) (.slice (some ⟨gi, 0, none⟩) n1 n1) (oneK n1 t)) := Lib.hid (O6.out.set (by rw [List.length_replicate]) 0 t)
    have B7 : Hid (Below w4.heap.size w4 (w6.setCell ⟨gi, 0, none⟩ (.int .i64 t))) := Lib.hid (Mem.below_set B6.out (p := ⟨gi, 0, none⟩) (by have := GI.out; show w4.heap.size ≤ gi; omega) _)
    obtain ⟨w7, hw7⟩ : ∃ W, w6.setCell ⟨gi, 0, none⟩ (.int .i64 t) = W := ⟨_, rfl⟩
    rw [hw7] at O7 B7
    obtain ⟨r1, r2, r3⟩ := pu_ok HPA.out.1
    have KP := Lib.hid (KK.push hold P (oneK n1 t) (some ⟨b, off, none⟩) (some ⟨gi, 0, none⟩) n c n1 n1 HN.out HCC.out.1 oneK_len w7 (HA.out.on (bstep HB.out B7.out)) (own_cl O7.out).2.2.1 HCC.out.2 (own_cl O7.out).2.2.2)
    rw [HPA.out.1, r1, r2, HPA.out.2.2] at KP
    have HLT : Hid ((newP P (oneK n1 t)).length = n - k) := Lib.hid (by rw [HPA.out.2.1, HN.out])
    obtain ⟨T, hT⟩ : ∃ T, newP P (oneK n1 t) = T := ⟨_, rfl⟩
    rw [hT] at KP HLT
    obtain ⟨O, hO⟩ : ∃ O, cont n1 (P.take (k + 1)) = O := ⟨_, rfl⟩
    rw [hO] at KP
    have HOO := Lib.hid hO
    have C7 := Lib.hid (C4.out.on B7.out)
    clear r1 r2 r3 hT hO
    go_upto_region 12 with fail
    clear hw7 x0 x1 e0 ci fi hmk d4 d5 d6 hq1 hq2 hq3
    obtain ⟨x0, x1⟩ := C7.out.two
    go_wp2_with fail
    refine KP.out.mono ?_
    rintro e w8 ⟨A8, n8, c8, A9, n9, c9, rfl, hl8, -, hl9, -, ho9, hb⟩
    have B8 := Lib.hid (bstep (bstep HB.out B7.out) hb)
    have C8 := Lib.hid (C7.out.on hb)
    have HL8 : Hid (n8 = n - k) := Lib.hid (by rw [← hl8]; exact HLT.out)
    obtain ⟨hn9, -, hc9, -⟩ := own_cl ho9
    obtain rfl : n9 = n1 := by rw [← hn9, ← HOO.out]; exact cont_len (take_pgs OK.out.all _)
    have X9 := Lib.hid hc9
    clear hb hl8 hl9 ho9 hn9 hc9 x0 x1 KP
    go_upto_region 13 with fail
    obtain ⟨w9, hw9⟩ : ∃ W, w8.alloc (.cells #[.int .i64 hold, .slice A8 n8 c8] 24) = W := ⟨_, rfl⟩
    have hb : Below w8.heap.size w8 w9 := hw9 ▸ below_alloc _ _
    obtain ⟨gx, hgx⟩ : ∃ x, w8.heap.size = x := ⟨_, rfl⟩
    have N9 : Hid (Rw.Cel w9 gx [.int .i64 hold, .slice A8 n8 c8]) := hw9 ▸ hgx ▸ Rw.Cel.new w8 [_, _] _
    have B9 := Lib.hid (bstep B8.out hb)
    have C9 := Lib.hid (C8.out.on hb)
    have Y9 := Lib.hid (X9.out.on hb)
    first | rw [hw9, hgx] | rw [hw9]
    clear hw9 hgx hb C8
    obtain ⟨x0, x1⟩ := C9.out.two
    obtain ⟨y0, y1⟩ := N9.out.two
    have hsub : (n : Int) - (k : Int) = (n8 : Int) := by have := HL8.out; have := HK.out; omega
    have w8' : IntKind.i64.wrap (n8 : Int) = n8 := Rw.wrap_id (by have := HL8.out; have := HK.out; omega)
    go_upto_region 15 with fail
    clear hsub w8' y0 y1 x0 x1
    go_wp2_with fail
    have HP9 := Lib.hid (HA.out.on B9.out)
    have HWS : Hid (w.heap.size < w9.heap.size) := Lib.hid C9.out.lt
    go_loopw [14, 15, 16] (fun iv _ _ wr => ∃ i : Nat, i ≤ n9 ∧ iv = .int .i64 i ∧ Below w9.heap.size w9 wr) (fun iv _ _ _ => n9 - (RowKit.intOf iv).toNat)
    case atStart => exact ⟨0, Nat.zero_le _, rfl, Below.refl _ _⟩
    case round =>
      obtain ⟨i, hi, rfl, hbel⟩ := hrel
      have HW := Lib.hid hbel
      clear hbel
      rcases Nat.lt_or_ge i n9 with hli | hgi
      · have i1 : (i : Int) < (n9 : Int) := by omega
        have i2 : (0 : Int) ≤ (i : Int) := by omega
        have hi1 : IntKind.i64.wrap ((i : Int) + 1) = ((i + 1 : Nat) : Int) := Rw.wrap_id (by have := OK.out.k8; omega)
        have HLI := Lib.hid hli
        go_wp2_with fail
        go_loopw [15, 16] (fun sv jv wr2 => ∃ (j : Nat) (s : Int), j ≤ k + 1 ∧ jv = .int .i64 j ∧ sv = .int .i64 s ∧ (cont n9 (P.take j))[i]? = some s ∧ Below w9.heap.size w9 wr2) (fun _ jv _ => k + 1 - (RowKit.intOf jv).toNat)
        case atStart => exact ⟨0, 0, Nat.zero_le _, rfl, rfl, by show (List.replicate n9 (0 : Int))[i]? = some 0; rw [List.getElem?_replicate, if_pos HLI.out], HW.out⟩
        case round =>
          obtain ⟨j, s, hj, rfl, rfl, hs, hbel⟩ := hrel
          have HS := Lib.hid hs
          have HV := Lib.hid hbel
          clear hs hbel
          obtain ⟨x0, x1⟩ := (C9.out.on HV.out).two
          rcases Nat.lt_or_ge k j with hgt | hle
          · obtain rfl : j = k + 1 := by omega
            have d7 : ¬ ((k + 1 : Nat) : Int) ≤ (k : Int) := by omega
            have d8 : decide (((k + 1 : Nat) : Int) ≤ (k : Int)) = false := decide_eq_false d7
            obtain ⟨b3, o3, hA3, hb3, e3⟩ := Fibre.cl_at (Y9.out.on HV.out) (show O[i]? = some s by rw [← HOO.out]; exact HS.out)
            subst hA3
            clear hb3
            go_wp2_with fail
            go_roundw
            case rel => exact ⟨i + 1, HLI.out, by go_num, HV.out⟩
            case measure => have := HLI.out; simp [RowKit.intOf]; omega
          · have d7 : (j : Int) ≤ (k : Int) := by omega
            obtain ⟨l, hl⟩ := get_lt (L := P) (k := j) (by have := HK.out; have := HN.out; omega)
            obtain ⟨b', off', A2, n2, c2, e', hb2, e2, hl2, hcl2, hm2⟩ := pls_at (HP9.out.on HV.out) hl
            cases e'
            obtain rfl : n2 = n9 := by have := (OK.out.all l (List.mem_of_getElem? hl)).len; omega
            obtain ⟨y, hy⟩ := get_lt (L := l) (k := i) (by rw [hl2]; exact HLI.out)
            obtain ⟨b3, o3, hA3, hb3, e3⟩ := Fibre.cl_at hcl2 hy
            subst hA3
            have hst := cont_step OK.out.all hl
            have hnx : (cont n2 (P.take (j + 1)))[i]? = some (s + y) := by rw [hst]; exact plus_at HS.out hy
            have hlim := cont_lim OK.out (k := j + 1) (by have := HK.out; have := HN.out; omega) (s + y) (List.mem_of_getElem? hnx)
            have HNX := Lib.hid hnx
            have hMM : Fibre.MM = 1099511627776 := rfl
            have ws : IntKind.i64.wrap (s + y) = s + y := Rw.wrap_id (by omega)
            have i5 : (j : Int) < (n : Int) := by have := HK.out; omega
            have i6 : (0 : Int) ≤ (j : Int) := by omega
            have hj1 : IntKind.i64.wrap ((j : Int) + 1) = ((j + 1 : Nat) : Int) := Rw.wrap_id (by have := HK.out; omega)
            have HJ := Lib.hid (show j + 1 ≤ k + 1 by omega)
            clear hl hl2 hcl2 hb2 hy hb3 hst hnx hlim hMM hm2
            go_wp2_with fail
            go_roundw
            case rel => exact ⟨j + 1, s + y, HJ.out, by go_num, by first | rfl | trivial, HNX.out, HV.out⟩
            case measure => have := HJ.out; simp [RowKit.intOf]; omega
      · obtain rfl : n9 = i := by omega
        go_wp2_with fail
        refine (KQ.out _).mono ?_
        rintro e wq ⟨rfl, hb⟩
        have HF := Lib.hid (bstep (bstep B9.out HW.out) hb)
        clear hb
        go_wp2_with fail
        go_ret
        exact ⟨rfl, HF.out⟩
end Go.Proofs.Ytihklpkpcnahkaa.Pipe
