/- Walk of FieldAppends. -/
import Derived.Test.YthiebggamfmjgaaDoorFieldP
namespace Go.Proofs.YthiebggamfmjgaaDoor.Field
open Go.ChangeShapes Go.WideShapes Go.RowKit
set_option linter.unusedVariables false
set_option maxRecDepth 100000

theorem run_append_empty {P : Program} {w : World} (base : Nat) (t ty e : TypeId) (i : TypeInfo) (size c : Nat) (ht : P.underlying t = some (.slice e)) (hi : P.info? e = some i)
    (v : Value) (n : Nat) (xs : List Value) (hown : w.ownsRow base e size v n xs) :
    (Builtin.append_ #[t, t] ty #[v, .slice none 0 c]).run P w = .ok v w := by
  rcases hown.2 with ⟨rfl, rfl⟩ | ⟨g, cap, cur, rfl, _, _, hnc, _⟩
  · simp [Builtin.append_, run_underlying ht, sizeOf, typeInfo, hi, Builtin.lenOf, Builtin.firstCells]
  · simp [Builtin.append_, run_underlying ht, sizeOf, typeInfo, hi, Builtin.lenOf, Builtin.firstCells, hnc, storeCells]
theorem wpList_append_empty {P : Program} {w : World} {ops : Array Oper} {rest : List Oper} {o : Oper} {a : Act} {Q : Exit → Act → World → Prop} (hgd : o.guard = none) (s x : Operand) (t : TypeId)
    (ho : o.op = .call { callee := .builtin .append, args := #[s, x], argTypes := #[t, t] })
    (base : Nat) (e : TypeId) (i : TypeInfo) (size c : Nat) (ht : P.underlying t = some (.slice e)) (hi : P.info? e = some i)
    (v : Value) (n : Nat) (xs : List Value) (hs : a.eval s = v) (hown : w.ownsRow base e size v n xs) (hx : a.eval x = .slice none 0 c)
    (h : wpList P ops Q rest (a.put o.dst v) w) : wpList P ops Q (o :: rest) a w := by
  refine wpList_plain hgd fun K hK => ?_
  have hrun := run_append_empty (P := P) (w := w) base t o.type e i size c ht hi v n xs hown
  unfold Oper.wp
  simp [execOp, ho, resolve, invoke, builtin, hs, hx, hrun, Result.andThen]
  exact hK _ _ h
theorem vals_of {P : Nat → Value → Prop} : ∀ n, (∀ i, i < n → ∃ s, P i s) → ∃ L : List Value, L.length = n ∧ ∀ (i : Nat) (s : Value), L[i]? = some s → P i s := by
  intro n
  induction n with
  | zero => intro _; exact ⟨[], rfl, fun i s hs => by simp at hs⟩
  | succ n ih =>
    intro h
    obtain ⟨L, hl, hL⟩ := ih fun i hi => h i (by omega)
    obtain ⟨t, ht⟩ := h n (by omega)
    refine ⟨L ++ [t], by simp [hl], fun i u hu => ?_⟩
    have hlt := lt_get hu
    rw [List.length_append, List.length_singleton] at hlt
    rcases Nat.lt_or_ge i L.length with h1 | h1
    · rw [List.getElem?_append_left h1] at hu; exact hL i u hu
    · obtain rfl : i = n := by omega
      rw [List.getElem?_append_right h1, hl, Nat.sub_self] at hu
      obtain rfl : t = u := by simpa using hu
      exact ht
/-- The values of slices that are there. -/
theorem grd_values {w : World} {A : Option Addr} {N : List (List ByteArray)} (h : Grd w A N) : ∃ xs : List Value, xs.length = N.length ∧ ∀ (k : Nat) (u : Value), xs[k]? = some u →
    (∃ b off, A = some ⟨b, off, none⟩ ∧ w.cell? ⟨b, off + k, none⟩ = some u) ∧ ∀ L, N[k]? = some L → ∃ A' c', u = .slice A' L.length c' ∧ L.length ≤ c' ∧ c' ≤ maxLen ∧ Strs w A' L ∧ ∀ a, A' = some a → a.block < w.heap.size := by
  refine vals_of (P := fun k u => (∃ b off, A = some ⟨b, off, none⟩ ∧ w.cell? ⟨b, off + k, none⟩ = some u) ∧ ∀ L, N[k]? = some L → ∃ A' c', u = .slice A' L.length c' ∧ L.length ≤ c' ∧ c' ≤ maxLen ∧ Strs w A' L ∧ ∀ a, A' = some a → a.block < w.heap.size) N.length fun i hi => ?_
  obtain ⟨L, hL⟩ := get_lt hi
  obtain ⟨b, off, e, _, A', c', hc, h1, h2, h3, h4⟩ := h i L hL
  refine ⟨.slice A' L.length c', ⟨b, off, e, hc⟩, fun L' hL' => ?_⟩
  rw [hL] at hL'; cases hL'
  exact ⟨A', c', rfl, h1, h2, h3, h4⟩
theorem ownG_empty (w : World) : OwnG w.heap.size (w.alloc (.cells #[] 22)) (.slice (some ⟨w.heap.size, 0, none⟩) 0 0) [] :=
  ⟨[], World.ownsRow_lit (base := w.heap.size) (e := 22) (size := 1) w #[] 0 (Nat.le_refl _) (by unfold maxLen; omega) rfl, fun k L h => by simp at h⟩
/-- 'append(s, x...)', s the call's own, x slices of strings that were there before. -/
theorem append_grds {w w0 : World} {ops : Array Oper} {rest : List Oper} {o : Oper} {a : Act} {Q : Exit → Act → World → Prop} (hgd : o.guard = none) (s x : Operand)
    (ho : o.op = .call { callee := .builtin .append, args := #[s, x], argTypes := #[33, 33] })
    (B : Nat) (v : Value) (M : List (List ByteArray)) (hs : a.eval s = v) (hown : OwnG B w v M) (A : Option Addr) (c : Nat) (N : List (List ByteArray)) (m : Nat) (hm : m = N.length) (hx : a.eval x = .slice A m c)
    (h0 : Grd w0 A N) (hb0 : Below w0.heap.size w0 w) (hB0 : w0.heap.size ≤ B) (hlen : M.length + N.length ≤ 1000000) (hB : B ≤ w.heap.size)
    (h : ∀ v' w', OwnG B w' v' (M ++ N) → w.grownBy w' v.ownBlock → wpList Tryd.prog ops Q rest (a.put o.dst v') w') : wpList Tryd.prog ops Q (o :: rest) a w := by
  subst hm
  obtain ⟨i0, hi0, hz0, hz1, hz2⟩ := info_parts info_strs
  have hge := hown.ge
  obtain ⟨ys, hyl, hys⟩ := grd_values h0
  cases A with
  | none =>
    have hnil : N = [] := by
      cases N with
      | nil => rfl
      | cons z zs => obtain ⟨b, off, hA, _⟩ := h0 0 z rfl; cases hA
    subst hnil
    have hown2 := hown
    obtain ⟨xs, h1, h2⟩ := hown
    refine wpList_append_empty hgd s x _ ho B 22 i0 1 c Tryd.underlying33 hi0 v M.length xs hs h1 hx (h v w (by rw [List.append_nil]; exact hown2) ⟨rfl, rfl, rfl, Nat.le_refl _, fun _ _ _ => rfl⟩)
  | some ad =>
    obtain ⟨xs, h1, h2⟩ := hown
    have hxl : xs.length = M.length := by have := h1.1; omega
    refine wpList_append_own_at w hgd s x _ ho B 22 i0 (.slice none 0 0) 1 24 Tryd.underlying33 hi0 hz0 hz1 hz2 rfl (by decide) v M.length xs hs h1 ad N.length c ys hx (by rw [hyl]; omega) ?_ ?_ (by unfold maxLen; omega) (by omega) hB ?_
    · intro j u hj
      obtain ⟨⟨b, off, e, hc⟩, _⟩ := hys j u hj
      cases e
      rw [Addr.add_lit]
      have hlt := World.block_lt_of_cell? w0 _ hc
      exact (hb0.cell (p := ⟨b, off + j, none⟩) hlt).trans hc
    · intro u hu
      obtain ⟨j, hj⟩ := List.mem_iff_getElem?.mp hu
      have hjl : j < N.length := by rw [← hyl]; exact lt_get hj
      obtain ⟨L, hL⟩ := get_lt hjl
      obtain ⟨A', c', rfl, _⟩ := (hys j u hj).2 L hL
      rfl
    · intro v' w' hown' hg _ hat
      refine h v' w' ⟨xs ++ ys, by rw [List.length_append]; exact hown', ?_⟩ hg
      intro k L' hk
      have keep : ∀ (A' : Option Addr) (L' : List ByteArray), Strs w A' L' → (∀ a, A' = some a → v.ownBlock ≠ some a.block) → Strs w' A' L' := fun A' L' hS hA' =>
        hS.keep hg.size fun b off e hlt => hg.block b hlt fun e2 => hA' ⟨b, off, none⟩ e e2.symm
      have sep : ∀ (A' : Option Addr), (∀ a, A' = some a → v.ownBlock ≠ some a.block) → (∀ a, A' = some a → a.block < w.heap.size) → ∀ a, A' = some a → v'.ownBlock ≠ some a.block ∧ a.block < w'.heap.size := fun A' h1 h2 a e => ⟨fun e2 => by
        rcases hat with e3 | e3
        · exact h1 a e (e3.symm.trans e2)
        · rw [e3] at e2
          have := h2 a e
          have := Option.some.inj e2
          omega, Nat.lt_of_lt_of_le (h2 a e) hg.size⟩
      rcases Nat.lt_or_ge k M.length with hl | hl
      · rw [List.getElem?_append_left hl] at hk
        obtain ⟨A', c', hx', g1, g2, g3, g4⟩ := h2 k L' hk
        exact ⟨A', c', by rw [List.getElem?_append_left (by omega)]; exact hx', g1, g2, keep _ _ g3 (fun a e => (g4 a e).1), sep A' (fun a e => (g4 a e).1) (fun a e => (g4 a e).2)⟩
      · rw [List.getElem?_append_right hl] at hk
        obtain ⟨u, hu⟩ := get_lt (L := ys) (k := k - M.length) (by rw [hyl]; exact lt_get hk)
        obtain ⟨A', c', rfl, g1, g2, g3, g4⟩ := (hys _ u hu).2 L' hk
        have hsep : ∀ a, A' = some a → v.ownBlock ≠ some a.block := fun a e e2 => by
          have h3 := g4 a e
          have h4 := hge _ e2
          omega
        exact ⟨A', c', by rw [List.getElem?_append_right (by omega), hxl]; exact hu, g1, g2, keep _ _ (g3.on hb0) hsep, sep A' hsep (fun a e => Nat.lt_of_lt_of_le (g4 a e) hb0.size)⟩
/-- A guarded operation that is wanted is walked as one without a guard. -/
theorem wpList_unguard {P : Program} {w : World} {ops : Array Oper} {rest : List Oper} {o : Oper} {a : Act} {Q : Exit → Act → World → Prop} (hg : Region.wanted o (yielded ops a.tmps) = true)
    (h : wpList P ops Q ({ o with guard := none } :: rest) a w) : wpList P ops Q (o :: rest) a w := by
  unfold wpList at h ⊢
  rw [if_pos hg]
  rw [if_pos (show Region.wanted { o with guard := none } (yielded ops a.tmps) = true from rfl)] at h
  exact h
theorem cutL_count : ∀ (t a : List UInt8), (cutL a t).length ≤ t.length := by
  intro t
  induction t with
  | nil => intro a; simp [cutL]
  | cons b r ih =>
    intro a
    rw [cutL]
    split
    · have := ih []; simp; omega
    · have := ih (a ++ [b]); simp; omega
theorem linA_count : ∀ (x : List (List UInt8)) (acc : List (List (List UInt8))), (linA acc x).1.length ≤ acc.length + x.length := by
  intro x
  induction x with
  | nil => intro acc; simp [linA]
  | cons l r ih =>
    intro acc
    rw [linA]
    split
    · have := ih acc; simp; omega
    · split
      · have := ih (acc ++ [splitL l]); simp at this ⊢; omega
      · simp
theorem linesL_count (t : List UInt8) : (linesL t).length ≤ t.length := by
  unfold linesL
  split
  · have h1 := linA_count (lns t) []
    have h2 := cutL_count t []
    unfold lns at h1 ⊢
    simp at h1; omega
  · simp
theorem cat_any (a b : ByteArray) (h : a.size + b.size ≤ 9223372036854775807) : ∃ t : ByteArray, ls t = ls a ++ ls b ∧ t.size = a.size + b.size ∧ ∀ W : World, (Op.stringOp .add a b).run Tryd.prog W = .ok (.string t) W :=
  ⟨a ++ b, by show (a ++ b).data.toList = _; rw [ByteArray.data_append, Array.toList_append]; rfl, ByteArray.size_append, fun W => run_string_add_sum W a b h⟩

set_option maxHeartbeats 6400000 in
theorem walk_FieldAppends (w : World) (s : ByteArray) (hs : s.size ≤ maxLen) (t : ByteArray) (ht : t.size ≤ maxLen) (hT : Lay w) :
    Calls Tryd.prog 8 #[.string s, .string t] w fun e w' => e = .returned (.bool true) ∧ Below w.heap.size w w' := by
  have hms := max_small hs
  have hmt := max_small ht
  clear hT hs ht
  rcases wide_test s with ⟨hw, i1⟩ | ⟨hw, i1⟩
  · rcases wide_test t with ⟨hw2, i2⟩ | ⟨hw2, i2⟩
    · obtain ⟨E1, hE1⟩ : ∃ E, linesE (ls s) = E := ⟨_, rfl⟩
      obtain ⟨M1, hM1⟩ : ∃ L, GG (linesL (ls s)) = L := ⟨_, rfl⟩
      obtain ⟨n1, hn1⟩ : ∃ n, n = M1.length := ⟨_, rfl⟩
      obtain ⟨E2, hE2⟩ : ∃ E, linesE (ls t) = E := ⟨_, rfl⟩
      obtain ⟨M2, hM2⟩ : ∃ L, GG (linesL (ls t)) = L := ⟨_, rfl⟩
      obtain ⟨n2, hn2⟩ : ∃ n, n = M2.length := ⟨_, rfl⟩
      obtain ⟨st, hst, hsz, hcat⟩ := cat_any s t (by omega)
      obtain ⟨E3, hE3⟩ : ∃ E, linesE (ls st) = E := ⟨_, rfl⟩
      obtain ⟨M3, hM3⟩ : ∃ L, GG (linesL (ls st)) = L := ⟨_, rfl⟩
      obtain ⟨n3, hn3⟩ : ∃ n, n = M3.length := ⟨_, rfl⟩
      have H1 := Lib.hid (lines_is hE1 hM1 hn1 w (by omega))
      have H2 : Hid (∀ W : World, _) := fun W => lines_is hE2 hM2 hn2 W (by omega)
      have H3 : Hid (∀ W : World, _) := fun W => lines_is hE3 hM3 hn3 W (by omega)
      have HAP : Hid (E1 = 0 → E2 = 0 → E3 = 0 ∧ M3 = M1 ++ M2) := fun h1 h2 => by
        have := lines_append (hE1.trans h1) (hE2.trans h2)
        rw [← hst] at this
        exact ⟨hE3.symm.trans this.1, by rw [← hM3, this.2, GG_append, hM1, hM2]⟩
      have HBD : Hid (M1.length ≤ 1500 ∧ M2.length ≤ 1500) := ⟨by rw [← hM1, GG_len]; have := linesL_count (ls s); rw [ls_len] at this; omega, by rw [← hM2, GG_len]; have := linesL_count (ls t); rw [ls_len] at this; omega⟩
      have HN1 := Lib.hid hn1
      have HN2 := Lib.hid hn2
      have HN3 := Lib.hid hn3
      clear hE1 hM1 hn1 hE2 hM2 hn2 hE3 hM3 hn3 hst hw hw2
      go_enter Tryd.func8, Tryd.ntmps8
      go_wp2_with fail
      refine H1.out.mono ?_
      rintro e w1 ⟨A1, c1, rfl, hs1, hb⟩
      have HB1 := Lib.hid hb
      have HI1 := Lib.hid hs1
      clear hb hs1
      go_wp2_with fail
      refine (H2.out _).mono ?_
      rintro e w2 ⟨A2, c2, rfl, hs2, hb⟩
      have HB2 := Lib.hid hb
      have HI2 := Lib.hid hs2
      clear hb hs2
      go_wp2_with fail
      refine (H3.out _).mono ?_
      rintro e w3 ⟨A3, c3, rfl, hs3, hb⟩
      have HB3 := Lib.hid hb
      have HI3 := Lib.hid hs3
      clear hb hs3
      by_cases he1 : E1 = 0
      · by_cases he2 : E2 = 0
        · obtain ⟨he3, hM⟩ := HAP.out he1 he2
          have HM := Lib.hid hM
          subst he1 he2 he3
          clear hM
          have HG1 := Lib.hid ((HI1.out.hs.on HB2.out).on HB3.out)
          have HG2 := Lib.hid (HI2.out.hs.on HB3.out)
          go_wp2_with (at_builtin; refine wpList_unguard (by rfl) ?_; refine append_grds rfl _ _ rfl w3.heap.size (.slice (some ⟨w3.heap.size, 0, none⟩) 0 0) [] rfl (ownG_empty w3) A1 c1 M1 n1 HN1.out rfl HG1.out (below_alloc _ _) (Nat.le_refl _) (by have := HBD.out; simp; omega) (by simp) ?_; intro v4 w4 hown4 hg4; refine Hid.out ?_)
          refine Lib.hid ?_
          have HB4 := Lib.hid ((below_alloc w3 _).trans (ownG_below (ownG_empty w3) hg4 (by simp)))
          have HO4 := Lib.hid hown4
          clear hown4 hg4
          go_wp2_with (at_builtin; refine wpList_unguard (by rfl) ?_; refine append_grds rfl _ _ rfl w3.heap.size v4 ([] ++ M1) rfl HO4.out A2 c2 M2 n2 HN2.out rfl HG2.out HB4.out (Nat.le_refl _) (by have := HBD.out; simp; omega) HB4.out.size ?_; intro v5 w5 hown5 hg5; refine Hid.out ?_)
          refine Lib.hid ?_
          have HB5 := Lib.hid (HB4.out.trans (ownG_below HO4.out hg5 HB4.out.size))
          obtain ⟨A5, c5, hv5, h51, h52, h53, -⟩ := hown5.grd
          obtain ⟨n5, hn5⟩ : ∃ n, n = ([] ++ M1 ++ M2).length := ⟨_, rfl⟩
          rw [← hn5] at hv5
          subst hv5
          have HS := Lib.hid (sameAll_at (L := M3) (M := [] ++ M1 ++ M2) (b := true) (decide_eq_true (by rw [HM.out]; simp)) A3 A5 HN3.out hn5 c3 c5 w5 (HI3.out.hs.on HB5.out) h53 HI3.out.len (by have := max_small h52; omega))
          have HB6 := Lib.hid (bstep HB1.out (bstep HB2.out (bstep HB3.out HB5.out)))
          clear hown5 hg5 h53 hn5 h51
          go_wp2_with fail
          refine HS.out.mono ?_
          rintro e w6 ⟨rfl, hb⟩
          have HB7 := Lib.hid (bstep HB6.out hb)
          clear hb
          go_wp2_with fail
          refine (is_awake _).mono ?_
          rintro e w9 ⟨rfl, hb⟩
          have HB9 := Lib.hid (bstep HB7.out hb)
          clear hb
          go_wp2_with fail
          go_ret
          exact ⟨rfl, HB9.out⟩
        · have he3 : (E2 == 0) = false := beq_false_of_ne he2
          have HB6 := Lib.hid (bstep HB1.out (bstep HB2.out HB3.out))
          subst he1
          go_wp2_with fail
          refine (is_awake _).mono ?_
          rintro e w9 ⟨rfl, hb⟩
          have HB9 := Lib.hid (bstep HB6.out hb)
          clear hb
          go_wp2_with fail
          go_ret
          exact ⟨rfl, HB9.out⟩
      · have he3 : (E1 == 0) = false := beq_false_of_ne he1
        have HB6 := Lib.hid (bstep HB1.out (bstep HB2.out HB3.out))
        go_wp2_with fail
        refine (is_awake _).mono ?_
        rintro e w9 ⟨rfl, hb⟩
        have HB9 := Lib.hid (bstep HB6.out hb)
        clear hb
        go_wp2_with fail
        go_ret
        exact ⟨rfl, HB9.out⟩
    · have HB6 := Lib.hid (Below.refl w.heap.size w)
      go_enter Tryd.func8, Tryd.ntmps8
      go_wp2_with fail
      refine (is_awake _).mono ?_
      rintro e w9 ⟨rfl, hb⟩
      have HB9 := Lib.hid (bstep HB6.out hb)
      clear hb
      go_wp2_with fail
      go_ret
      exact ⟨rfl, HB9.out⟩
  · have HB6 := Lib.hid (Below.refl w.heap.size w)
    go_enter Tryd.func8, Tryd.ntmps8
    go_wp2_with fail
    refine (is_awake _).mono ?_
    rintro e w9 ⟨rfl, hb⟩
    have HB9 := Lib.hid (bstep HB6.out hb)
    clear hb
    go_wp2_with fail
    go_ret
    exact ⟨rfl, HB9.out⟩
#print axioms walk_FieldAppends
end Go.Proofs.YthiebggamfmjgaaDoor.Field
