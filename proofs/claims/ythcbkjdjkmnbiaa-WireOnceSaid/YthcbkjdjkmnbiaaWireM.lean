/- Walk of WireOnce. -/
import Derived.Test.YthcbkjdjkmnbiaaWireL
import Derived.StillTailTactics
namespace Go.Proofs.Ythcbkjdjkmnbiaa.Wire
open Go.ChangeShapes Go.WideShapes Go.RowKit
set_option linter.unusedVariables false
set_option maxRecDepth 100000

theorem InY.head {w : World} {A : Option Addr} {c : Nat} {l : List UInt8} (h : Byt w A l) (hc : l.length ≤ c) (hm : c ≤ maxLen) {k : Nat} (hk : k ≤ l.length) : InY w (.slice A k c) (l.take k) :=
  ⟨A, c, by rw [List.length_take, Nat.min_eq_left hk], by rw [List.length_take]; omega, hm, h.take k⟩
theorem takeT_len (b : List UInt8) (most : Int) : (takeT b most).s.length ≤ b.length := by
  by_cases h : (takeT b most).e = 0
  · obtain ⟨h1, h2, h3, h4⟩ := takeT_ok h
    have h5 := congrArg List.length h4
    unfold encT at h5
    rw [List.length_take, List.length_append] at h5
    omega
  · have : (takeT b most).s = [] := by
      rw [takeT_def] at h ⊢
      by_cases h1 : (lenR b most).e = 0
      · rw [if_pos h1] at h ⊢
        split
        · rfl
        · rename_i h2; rw [if_neg h2] at h; exact absurd rfl h
      · rw [if_neg h1]
    rw [this]; exact Nat.zero_le _
/-! ### A region that draws its order and whose guarded operations are passed over, up to a tail in a forced order -/
theorem exec_move {P : Program} {w : World} {ρ : Operand → Value} {o : Oper} {x : Operand} (v : Value) (ho : o.op = .move x) (hx : ρ x = v) : (execOp ρ o).run P w = .ok (.value v) w := by
  rw [BigFrame.run_move x ho, hx]
theorem exec_neq {P : Program} {w : World} {ρ : Operand → Value} {o : Oper} {t t' : TypeId} {x y : Operand} {k : IntKind} {p q : Int} (ho : o.op = .binOp .neq t x y t') (hx : ρ x = .int k p) (hy : ρ y = .int k q) (hn : (p == q) = false) : (execOp ρ o).run P w = .ok (.value (.bool true)) w := by
  have hne : ¬ p = q := by simpa using hn
  unfold execOp; rw [ho]; simp [hx, hy, hne, go_sem]
theorem exec_pick {P : Program} {w : World} {ρ : Operand → Value} {o : Oper} {x y z : Operand} (v : Value) (ho : o.op = .pick x y z) (hx : ρ x = .bool true) (hy : ρ y = v) : (execOp ρ o).run P w = .ok (.value v) w := by
  unfold execOp; rw [ho]; simp [hx, hy, go_sem]
theorem put_list (l : List Value) (ds : List Deferred) (k : Nat) (v : Value) : Act.put ⟨l.toArray, ds⟩ (some k) v = ⟨(l.set k v).toArray, ds⟩ := by
  simp [Act.put]
/-- 'wpStill' that no unfolding opens, over a frame written as a list. -/
structure St (P : Program) (ops : Array Oper) (w : World) (Q : Act → Prop) (r : List Oper) (l : List Value) (ds : List Deferred) : Prop where
  out : wpStill P ops w Q r ⟨l.toArray, ds⟩
theorem St.start {P : Program} {id : Nat} {Q : Exit → Act → World → Prop} {w : World} {o : List Oper} {l : List Value} {ds : List Deferred} (n : Nat) (hm : P.follows .mixedOrders = true) (hB : Region.lexTailB .any o.toArray n = true)
    (h : St P o.toArray w.drew (fun a' => wpList P o.toArray Q (o.drop n) a' w.drew) (o.take n) l ds) : (Code.region id o.toArray true).wp P Q ⟨l.toArray, ds⟩ w :=
  wp_region_still_tail n hm hB h.out
theorem St.done {P : Program} {ops : Array Oper} {w : World} {Q : Act → Prop} {l : List Value} {ds : List Deferred} (h : Q ⟨l.toArray, ds⟩) : St P ops w Q [] l ds := ⟨wpStill_nil h⟩
theorem St.set {P : Program} {ops : Array Oper} {w : World} {Q : Act → Prop} {l : List Value} {ds : List Deferred} {o : Oper} {rest : List Oper} {k : Nat} (v : Value) (hd : o.dst = some k) (hw : Region.wanted o (yielded ops l.toArray) = true) (hr : (execOp (Act.eval ⟨l.toArray, ds⟩) o).run P w = .ok (.value v) w) (h : St P ops w Q rest (l.set k v) ds) : St P ops w Q (o :: rest) l ds :=
  ⟨wpStill_step fun K hK => by
    rw [if_pos hw]
    unfold Oper.still
    rw [hr, Oper.stillUpon_value, hd, put_list]
    exact hK _ h.out⟩
def isUndef : Value → Bool
  | .tuple vs => vs.size == 0
  | _ => false
theorem of_isUndef {v : Value} (h : isUndef v = true) : v = undef := by
  cases v <;> first | (simp [isUndef] at h; done) | skip
  rename_i vs
  have h1 : vs.size = 0 := by simpa [isUndef] using h
  have h2 : vs = #[] := Array.eq_empty_of_size_eq_zero h1
  rw [h2]; rfl
def passB (ops : Array Oper) (l : List Value) : Nat → List Oper → Bool
  | n + 1, o :: r => !(Region.wanted o (yielded ops l.toArray)) && (match o.dst with | some d => (match l[d]? with | some v => isUndef v | none => true) | none => true) && passB ops l n r
  | 0, _ => true
  | _ + 1, [] => false
theorem set_same (l : List Value) (d : Nat) (h : (match l[d]? with | some v => isUndef v | none => true) = true) : l.set d undef = l := by
  apply List.ext_getElem?
  intro i
  rw [List.getElem?_set]
  split
  · rename_i e
    subst e
    split
    · rename_i hlt
      rw [List.getElem?_eq_getElem hlt] at h ⊢
      simp only at h
      rw [of_isUndef h]
    · rename_i hlt
      rw [List.getElem?_eq_none (by omega)]
  · rfl
theorem still_pass {P : Program} {ops : Array Oper} {w : World} {Q : Act → Prop} {l : List Value} {ds : List Deferred} : ∀ (n : Nat) {r : List Oper}, passB ops l n r = true → wpStill P ops w Q (r.drop n) ⟨l.toArray, ds⟩ → wpStill P ops w Q r ⟨l.toArray, ds⟩ := by
  intro n
  induction n with
  | zero => intro r _ h; simpa using h
  | succ n ih =>
    intro r hb h
    cases r with
    | nil => cases hb
    | cons o r =>
      rw [passB, Bool.and_eq_true, Bool.and_eq_true] at hb
      obtain ⟨⟨h1, h2⟩, h3⟩ := hb
      have hw : Region.wanted o (yielded ops l.toArray) = false := by simpa using h1
      refine wpStill_step fun K hK => ?_
      rw [if_neg (by rw [hw]; exact Bool.false_ne_true)]
      have e : Act.put ⟨l.toArray, ds⟩ o.dst undef = ⟨l.toArray, ds⟩ := by
        cases hd : o.dst with
        | none => rfl
        | some d => rw [hd] at h2; rw [put_list, set_same l d h2]
      rw [e]
      exact hK _ (ih h3 h)
theorem St.pass {P : Program} {ops : Array Oper} {w : World} {Q : Act → Prop} {l : List Value} {ds : List Deferred} (n : Nat) {r : List Oper} (hb : passB ops l n r = true) (h : St P ops w Q (r.drop n) l ds) : St P ops w Q r l ds := ⟨still_pass n hb h.out⟩
set_option maxHeartbeats 3200000 in
theorem walk_WireOnce (w : World) (A : Option Addr) (n c : Nat) (zs : List Int) (h : InInts .u8 w A n c zs) (most : Int) :
    Calls Try.prog 8 #[.slice A n c, .int .i64 most] w fun e w' => e = .returned (.bool true) ∧ Below w.heap.size w w' := by
  obtain ⟨l, rfl, hy⟩ := in_y h
  have hs := hy.small
  have HII := Lib.hid hy
  obtain ⟨_, _, e0, hc, hcm, hbyt⟩ := hy
  cases e0
  have HY := Lib.hid hbyt
  clear h hbyt
  rcases Nat.lt_or_ge 600 l.length with hb | hb
  · have hb1 : (600 : Int) < (l.length : Int) := by omega
    go_enter Try.func8, Try.ntmps8
    go_wp2_with fail
    refine (awake_true w).mono ?_
    rintro e w1 ⟨rfl, hb2⟩
    have HB := Lib.hid hb2
    clear hb2
    go_wp2_with fail
    go_ret
    exact ⟨rfl, HB.out⟩
  · obtain ⟨N, hN⟩ : ∃ N, N = l.length := ⟨_, rfl⟩
    have HN := Lib.hid hN
    rw [← hN] at hb hs ⊢
    have hb1 : decide ((600 : Int) < (N : Int)) = false := decide_eq_false (by omega)
    have T1 := Lib.hid (wire_TakeInt _ l w HII.out (by omega))
    have T2 := Lib.hid (fun W hW => wire_TakeText _ l most W (HII.out.on hW) (by omega))
    have T3 := Lib.hid (fun W hW => wire_TakeList _ l most W (HII.out.on hW) (by omega))
    rw [← hN] at T1 T2 T3
    have SL : ∀ k : Nat, k ≤ N → ∀ W : World, (Instr.slice 22 (.slice A N c) none (some (.int .i64 (k : Int))) none).run Try.prog W = .ok (.slice A k c) W := fun k hk W => slice_to A N c k (by omega) W
    have SLH := Lib.hid SL
    have SM := Lib.hid (fun (W : World) (hW : Below w.heap.size w W) (k : Nat) (hk : k ≤ N) => InY.head (HY.out.on hW) hc hcm (by rw [← hN]; exact hk))
    have O1 := Lib.hid (take_ok (b := l))
    have O2 := Lib.hid (takeT_ok (b := l) (most := most))
    have O3 := Lib.hid (takeL_ok (b := l) (most := most))
    have LL := Lib.hid (takeL_len l most)
    have LT := Lib.hid (takeT_len l most)
    rw [← hN] at O1 O2 O3 LL LT
    obtain ⟨t1, ht1⟩ : ∃ t, takeI l = t := ⟨_, rfl⟩
    obtain ⟨t2, ht2⟩ : ∃ t, takeT l most = t := ⟨_, rfl⟩
    obtain ⟨t3, ht3⟩ : ∃ t, takeL l most = t := ⟨_, rfl⟩
    rw [ht1] at T1 O1
    rw [ht2] at T2 O2 LT
    rw [ht3] at T3 O3 LL
    obtain ⟨x1, k1, e1⟩ := t1
    obtain ⟨x2, k2, e2⟩ := t2
    obtain ⟨x3, k3, e3⟩ := t3
    simp only at O1 O2 O3 LT LL
    clear ht1 ht2 ht3 hN SL hc hcm
    go_enter Try.func8, Try.ntmps8
    go_wp2_with fail
    refine T1.out.mono ?_
    rintro e w1 ⟨rfl, rfl⟩
    go_upto_region 4 with fail
    go_cut [44] from 24 to 44 (fun v wc => v = .bool false ∧ Below w.heap.size w wc)
    case first =>
      by_cases he : e1 = 0
      · subst he
        obtain ⟨-, kp, kl, kt, hi⟩ := O1.out rfl
        have i1 : decide ((k1 : Int) < 1) = false := decide_eq_false (by omega)
        have i2 : decide (N < k1) = false := decide_eq_false (by omega)
        have sl := SLH.out k1 kl
        have P1 := Lib.hid (fun W => wire_PutInt (.slice none 0 0) [] x1 W hi (InY.nil W) (by simp))
        have S1 := Lib.hid (fun (v : Value) (W0 W : World) (h1 : InY W v (l.take k1)) (h0 : Below w.heap.size w W0) (hW : Below W0.heap.size W0 W) => same_is v _ W h1 (SM.out W (bstep h0 hW) k1 kl))
        rw [List.nil_append, ← kt] at P1
        clear kp kt hi kl
        (go_region_held_law (fun W' => True) (trivial) (first | (go_at_call 12; (with_reducible refine (P1.out _).mono ?_); intro ep wp hq; obtain ⟨vp, rfl, hvp, hbp⟩ := hq.open_) | (go_at_call 11; (with_reducible refine (S1.out _ _ _ hvp (Below.refl _ _).drew hbp).mono ?_); rintro es ws ⟨rfl, rfl⟩)))
        all_goals
          rename_i hheld
          clear hheld
          go_wp2_with fail
          go_meet
          case rel => exact ⟨rfl, bstep (Below.refl _ _).drew hbp⟩
      · have he0 : (e1 == 0) = false := by simpa using he
        clear he
        go_quiet (fail)
        go_wp2_with fail
        go_meet
        case rel => exact ⟨rfl, below_drewN (Below.refl _ _) _⟩
    case rest =>
      obtain ⟨rfl, hbel⟩ := hcut
      have HB1 := Lib.hid hbel
      clear hbel
      unfold SRes at T2
      simp only at T2
      obtain ⟨s2, hs2⟩ : ∃ s2, bs x2 = s2 := ⟨_, rfl⟩
      rw [hs2] at T2
      have hz : s2.size = x2.length := by rw [← hs2, bs_size]
      have hls2 : x2 = ls s2 := by rw [← hs2, ls_bs]
      subst hls2
      have HLS := Lib.hid hz
      clear hs2 hz
      go_wp2_with fail
      refine (T2.out wc HB1.out).mono ?_
      rintro e w1 ⟨rfl, rfl⟩
      go_upto_region 7 with fail
      go_cut [78] from 52 to 78 (fun v wd => v = .bool false ∧ Below wc.heap.size wc wd)
      case first =>
        by_cases he : e2 = 0
        · subst he
          obtain ⟨kp, kl, km, kt⟩ := O2.out rfl
          have i1 : decide ((k2 : Int) < 1) = false := decide_eq_false (by omega)
          have i2 : decide (N < k2) = false := decide_eq_false (by omega)
          have i3 : decide (most < (s2.size : Int)) = false := decide_eq_false (by rw [HLS.out]; omega)
          have sl := SLH.out k2 kl
          have P1 := Lib.hid (fun W => wire_PutText (.slice none 0 0) [] s2 W (InY.nil W) (by simp) (by rw [HLS.out]; have := LT.out; omega))
          have S1 := Lib.hid (fun (v : Value) (W0 W : World) (h1 : InY W v (l.take k2)) (h0 : Below wc.heap.size wc W0) (hW : Below W0.heap.size W0 W) => same_is v _ W h1 (SM.out W (bstep (bstep HB1.out h0) hW) k2 kl))
          rw [List.nil_append, ← kt] at P1
          clear kp kt kl km
          (go_region_held_law (fun W' => True) (trivial) (first | (go_at_call 14; (with_reducible refine (P1.out _).mono ?_); intro ep wp hq; obtain ⟨vp, rfl, hvp, hbp⟩ := hq.open_) | (go_at_call 11; (with_reducible refine (S1.out _ _ _ hvp (Below.refl _ _).drew hbp).mono ?_); rintro es ws ⟨rfl, rfl⟩)))
          all_goals
            rename_i hheld
            clear hheld
            go_wp2_with fail
            go_meet
            case rel => exact ⟨rfl, bstep (Below.refl _ _).drew hbp⟩
        · have he0 : (e2 == 0) = false := by simpa using he
          clear he
          go_quiet (fail)
          go_wp2_with fail
          go_meet
          case rel => exact ⟨rfl, below_drewN (Below.refl _ _) _⟩
      case rest =>
        obtain ⟨rfl, hbel⟩ := hcut
        have HB2 := Lib.hid (bstep HB1.out hbel)
        clear hbel
        go_wp2_with fail
        refine (T3.out _ HB2.out).mono ?_
        rintro e w3 ⟨v3, rfl, ho3, hb3⟩
        have HB3 := Lib.hid (bstep HB2.out hb3)
        have hi3 := ho3.inI
        obtain ⟨n3, hn3⟩ : ∃ n3, n3 = x3.length := ⟨_, rfl⟩
        obtain ⟨A3, c3, e3v, _, _, hit⟩ := hi3
        simp only at e3v hit
        rw [← hn3] at e3v
        subst e3v
        have HI3 := Lib.hid hit
        have HN3 := Lib.hid hn3
        clear ho3 hb3 hit hn3
        go_upto_region 10 with fail
        go_cut [4] (fun v wd => v = .bool true ∧ Below w3.heap.size w3 wd)
        case first =>
          by_cases he : e3 = 0
          · subst he
            obtain ⟨kp, kl, km, kt, hall⟩ := O3.out rfl
            have i1 : (1 : Int) ≤ (k3 : Int) := by omega
            have i1n : 1 ≤ k3 := kp
            have i2 : k3 ≤ N := kl
            have i3 : (n3 : Int) ≤ most := by rw [HN3.out]; exact km
            have sl := SLH.out k3 kl
            have P1 := Lib.hid (fun W hW => wire_PutList (.slice none 0 0) [] A3 c3 x3 W (InY.nil W) (by simp) (HI3.out.on hW) hall (by have := LL.out; omega))
            have S1 := Lib.hid (fun (v : Value) (W0 W : World) (h1 : InY W v (l.take k3)) (h0 : Below w3.heap.size w3 W0) (hW : Below W0.heap.size W0 W) => same_is v _ W h1 (SM.out W (bstep (bstep HB3.out h0) hW) k3 kl))
            rw [List.nil_append, ← kt, ← HN3.out] at P1
            clear kp kt kl km hall
            (go_region_held_law (fun W' => True) (trivial) (first | (go_at_call 16; (with_reducible refine (P1.out _ (Below.refl _ _).drew).mono ?_); intro ep wp hq; obtain ⟨vp, rfl, hvp, hbp⟩ := hq.open_) | (go_at_call 11; (with_reducible refine (S1.out _ _ _ hvp (Below.refl _ _).drew hbp).mono ?_); rintro es ws ⟨rfl, rfl⟩) | (go_at_call 10; (with_reducible refine (awake_true _).mono ?_); rintro ea wa ⟨rfl, hba⟩)))
            all_goals
              rename_i hheld
              clear hheld
              go_wp2_with fail
              go_meet
              case rel => exact ⟨rfl, bstep (bstep (Below.refl _ _).drew hbp) hba⟩
          · have he0 : (e3 == 0) = false := by simpa using he
            clear he
            refine St.start 27 (by kernel_rfl) (by kernel_rfl) ?_
            change St _ _ _ _ [_, _, _, _, _, _, _, _, _, _, _, _, _, _, _, _, _, _, _, _, _, _, _, _, _, _, _] _ _
            refine St.set (.int .i64 e3) rfl (by kernel_rfl) (exec_move _ rfl (by kernel_rfl)) ?_
            simp only [List.set_cons_zero, List.set_cons_succ]
            refine St.set (.bool true) rfl (by kernel_rfl) (exec_neq (k := .i64) (p := e3) (q := 0) rfl (by kernel_rfl) (by kernel_rfl) he0) ?_
            simp only [List.set_cons_zero, List.set_cons_succ]
            refine St.set (.bool true) rfl (by kernel_rfl) (exec_move _ rfl (by kernel_rfl)) ?_
            simp only [List.set_cons_zero, List.set_cons_succ]
            refine St.pass 22 (by kernel_rfl) ?_
            change St _ _ _ _ [_, _] _ _
            refine St.set (.bool true) rfl (by kernel_rfl) (exec_pick _ rfl (by kernel_rfl) (by kernel_rfl)) ?_
            simp only [List.set_cons_zero, List.set_cons_succ]
            refine St.set (.bool true) rfl (by kernel_rfl) (exec_move _ rfl (by kernel_rfl)) ?_
            simp only [List.set_cons_zero, List.set_cons_succ]
            refine St.done ?_
            change wpList _ _ _ [_, _, _] _ w3.drew
            have HD5 : Hid (Below w3.heap.size w3 w3.drew) := (Below.refl _ _).drew
            generalize w3.drew = w4 at HD5 ⊢
            go_wp2_with fail
            refine (awake_true _).mono ?_
            rintro ea wa ⟨rfl, hba⟩
            have HBA := Lib.hid (bstep HD5.out hba)
            clear hba
            go_wp2_with fail
            go_meet
            case rel => exact ⟨rfl, HBA.out⟩
        case rest =>
          obtain ⟨rfl, hbel⟩ := hcut
          have HB4 := Lib.hid (bstep HB3.out hbel)
          clear hbel
          go_wp2_with fail
          go_ret
          exact ⟨rfl, HB4.out⟩
#print axioms walk_WireOnce
end Go.Proofs.Ythcbkjdjkmnbiaa.Wire
