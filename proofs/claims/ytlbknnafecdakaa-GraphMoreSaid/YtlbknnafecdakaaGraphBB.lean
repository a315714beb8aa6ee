/- The closure that compares steps; slices.MinFunc; the next node. -/
import Derived.Test.YtlbknnafecdakaaGraphAA
import Derived.Shelf.SlCmpFuncs.MinMaxFunc
namespace Go.Proofs.Ytlbknnafecdakaa.Graph
open Go.ChangeShapes Go.WideShapes Go.RowKit Go.Lib
set_option linter.unusedVariables false
set_option maxRecDepth 100000

/-! ### The closure -/
theorem cmp_closure (N : Nat) (S : List Int) (gs gS : Nat) (W : World) (hS : S.length = N) (c1 : W.cell? ⟨gs, 0, none⟩ = some (.slice (some ⟨gS, 0, none⟩) N N)) (c2 : ∀ (i : Nat) (z : Int), S[i]? = some z → W.cell? ⟨gS, i, none⟩ = some (.int .i64 z)) (x y : Nat) (hx : x < N) (hy : y < N) :
    Calls Try.prog 45 #[.int .i64 (x : Int), .int .i64 (y : Int), .pointer (some ⟨gs, 0, none⟩)] W fun e w' => e = .returned (.int .i64 (Lib.compareInt (S.getD x 0) (S.getD y 0))) ∧ ∃ q, w' = W.drewN q := by
  obtain ⟨p, hp⟩ := get_lt (L := S) (k := x) (by omega)
  obtain ⟨q, hq⟩ := get_lt (L := S) (k := y) (by omega)
  have e1 : S.getD x 0 = p := by rw [List.getD_eq_getElem?_getD, hp]; rfl
  have e2 : S.getD y 0 = q := by rw [List.getD_eq_getElem?_getD, hq]; rfl
  rw [e1, e2]
  have f1 := c2 x p hp
  have f2 := c2 y q hq
  have i1 : (x : Int) < (N : Int) := by omega
  have i2 : (0 : Int) ≤ (x : Int) := by omega
  have i3 : (y : Int) < (N : Int) := by omega
  have i4 : (0 : Int) ≤ (y : Int) := by omega
  have hcon := fun W => Try.cmp_Compare_int p q W
  obtain ⟨r, hr⟩ : ∃ r, r = Lib.compareInt p q := ⟨_, rfl⟩
  rw [← hr] at hcon ⊢
  have HCON := Lib.hid hcon
  clear hcon hr e1 e2 hp hq c2
  go_enter Try.func45, Try.ntmps45
  go_wp2_with fail
  go_quiet ((go_at_call 46; refine Calls.quiet_of_same (HCON.out _)))
  go_wp2_with fail
  go_ret
  exact ⟨rfl, _, rfl⟩
/-! ### The first of the least (pure) -/
theorem pick_spec {N : Nat} [Inhabited (Fin N)] (d : Array (Fin N)) (st : Fin N → Int) : ∀ i, i < d.size → ∃ j, j ≤ i ∧ Lib.pickBy (fun x m => decide (Lib.compareInt (st x) (st m) < 0)) d i = d[j]! ∧ (∀ k, k ≤ i → st d[j]! ≤ st d[k]!) ∧ ∀ k, k < j → st d[j]! < st d[k]! := by
  have key : ∀ a b : Int, decide (Lib.compareInt a b < 0) = decide (a < b) := by
    intro a b
    unfold Lib.compareInt
    by_cases h1 : a < b
    · rw [if_pos h1]; simp [h1]
    · rw [if_neg h1]
      split <;> simp [h1]
  intro i
  induction i with
  | zero => intro _; exact ⟨0, Nat.le_refl _, rfl, fun k hk => by rw [show k = 0 by omega]; exact Int.le_refl _, fun k hk => by omega⟩
  | succ i ih =>
    intro hi
    obtain ⟨j, hj, hp, h1, h2⟩ := ih (by omega)
    unfold Lib.pickBy
    rw [hp, key]
    by_cases hlt : st d[i + 1]! < st d[j]!
    · rw [decide_eq_true hlt, if_pos rfl]
      refine ⟨i + 1, Nat.le_refl _, rfl, fun k hk => ?_, fun k hk => ?_⟩
      · rcases Nat.lt_or_eq_of_le hk with h3 | rfl
        · have := h1 k (by omega); omega
        · exact Int.le_refl _
      · have := h1 k (by omega); omega
    · rw [decide_eq_false hlt]
      refine ⟨j, by omega, by simp, fun k hk => ?_, h2⟩
      rcases Nat.lt_or_eq_of_le hk with h3 | rfl
      · exact h1 k (by omega)
      · omega

/-- A node of a list as a number below N. -/
def fN {N : Nat} (h : 0 < N) (z : Int) : Fin N := ⟨z.toNat % N, Nat.mod_lt _ h⟩
theorem fN_val {N : Nat} (h : 0 < N) {m : Nat} (hm : m < N) : (fN h (m : Int)).val = m := by
  unfold fN
  simp [Nat.mod_eq_of_lt hm]
theorem min_run (N : Nat) (hN : 0 < N) (S : List Int) (hS : S.length = N) (l : List Int) (hl : ∀ z ∈ l, ∃ m : Nat, z = (m : Int) ∧ m < N) (hl0 : 0 < l.length) (hl5 : l.length ≤ 1000) (gs gS b off cap : Nat) (w : World)
    (hc : Cl eI w (some ⟨b, off, none⟩) l) (hwm : Wm w (some ⟨b, off, none⟩)) (c1 : w.cell? ⟨gs, 0, none⟩ = some (.slice (some ⟨gS, 0, none⟩) N N)) (c2 : ∀ (i : Nat) (z : Int), S[i]? = some z → w.cell? ⟨gS, i, none⟩ = some (.int .i64 z)) (h1 : gs ≠ b) (h2 : gS ≠ b) :
    Calls Try.prog 44 #[.slice (some ⟨b, off, none⟩) l.length cap, .func (.func 45) #[] #[.pointer (some ⟨gs, 0, none⟩)]] w fun e w' => ∃ j p : Nat, e = .returned (.int .i64 (p : Int)) ∧ l[j]? = some (p : Int) ∧ (∀ k y : Nat, l[k]? = some (y : Int) → S.getD p 0 ≤ S.getD y 0) ∧ (∀ k y : Nat, k < j → l[k]? = some (y : Int) → S.getD p 0 < S.getD y 0) ∧ Below w.heap.size w w' := by
  haveI : Inhabited (Fin N) := ⟨⟨0, hN⟩⟩
  obtain ⟨d, hd⟩ : ∃ d : Array (Fin N), d = (l.map (fN hN)).toArray := ⟨_, rfl⟩
  have hds : d.size = l.length := by rw [hd]; simp
  have hdg : ∀ (k m : Nat), l[k]? = some (m : Int) → d[k]! = fN hN (m : Int) ∧ (fN hN (m : Int)).val = m := by
    intro k m hk
    have hkl := lt_of_get hk
    obtain ⟨m', e, hm'⟩ := hl _ (List.mem_of_getElem? hk)
    obtain rfl : m = m' := by omega
    refine ⟨?_, fN_val hN hm'⟩
    rw [getElem!_pos d k (by omega)]
    simp only [hd, List.getElem_toArray, List.getElem_map]
    rw [List.getElem?_eq_getElem hkl] at hk
    rw [Option.some.inj hk]
  have nat_at : ∀ k, k < l.length → ∃ m : Nat, l[k]? = some (m : Int) ∧ m < N := by
    intro k hk
    obtain ⟨m, e, hm⟩ := hl _ (List.getElem_mem hk)
    exact ⟨m, by rw [List.getElem?_eq_getElem hk, e], hm⟩
  let enc : Fin N → Value := fun i => .int .i64 ((i.val : Nat) : Int)
  let st : Fin N → Int := fun i => S.getD i.val 0
  have eg : ∀ args w, (callFunc 45 args).run Try.prog w = .ok (.enter 45 args) w := enters_of Try.func45 (by kernel_rfl) rfl
  have hH : Sort.Holds enc w b off d := by
    intro j hj
    rw [hds] at hj
    obtain ⟨m, hm, _⟩ := nat_at j hj
    obtain ⟨b', off', e, hb', hcell⟩ := hc j _ hm
    cases e
    refine ⟨?_, (hwm b off rfl).2 _⟩
    rw [hcell]
    obtain ⟨e1, e2⟩ := hdg j m hm
    rw [e1]
    show some (Value.int .i64 (m : Int)) = some (Value.int .i64 (((fN hN (m : Int)).val : Nat) : Int))
    rw [e2]
  have hb : b < w.heap.size := (hwm b off rfl).1
  have hcmp : CmpLays1 Try.prog 45 #[.pointer (some ⟨gs, 0, none⟩)] enc (fun x m => Lib.compareInt (st x) (st m)) b off d.size w := by
    intro m os dk hdk x y
    have keep : ∀ (g i : Nat) (v : Value), g ≠ b → w.cell? ⟨g, i, none⟩ = some v → (sortWorld enc w b off m dk os).cell? ⟨g, i, none⟩ = some v := by
      intro g i v hg hv
      have hgl := World.block_lt_of_cell? w ⟨g, i, none⟩ hv
      unfold sortWorld
      rw [Sort.cell?_grow _ _ _ (by simpa [Sort.ahead] using hgl), Sort.cell?_putRow_other _ _ _ _ _ _ (Or.inl hg)]
      exact hv
    have := cmp_closure N S gs gS (sortWorld enc w b off m dk os) hS (keep gs 0 _ h1 c1) (fun i z hz => keep gS i _ h2 (c2 i z hz)) x.val y.val x.isLt y.isLt
    refine this.mono ?_
    rintro e w' ⟨rfl, q, rfl⟩
    exact ⟨rfl, q, #[], by rw [Sort.grow_empty]⟩
  have hcon := Any.slices_MinFunc Try.minInts enc (fun _ => rfl) (fun x m => Lib.compareInt (st x) (st m)) 45 #[.pointer (some ⟨gs, 0, none⟩)] b off cap d w eg hcmp hH hb (by rw [hds]; omega) (by rw [hds]; exact hl0)
  rw [hds] at hcon
  refine Calls.mono (P := Try.prog) (f := 44) hcon ?_
  rintro e w' ⟨rfl, n, os, rfl⟩
  obtain ⟨j, hj, hp, q1, q2⟩ := pick_spec d st (l.length - 1) (by omega)
  obtain ⟨p, hpl, hpN⟩ := nat_at j (by omega)
  obtain ⟨e1, e2⟩ := hdg j p hpl
  refine ⟨j, p, ?_, hpl, fun k y hk => ?_, fun k y hkj hk => ?_, ?_⟩
  · rw [hp, e1]
    show Ending.returned (Value.int .i64 (((fN hN (p : Int)).val : Nat) : Int)) = _
    rw [e2]
  · have := q1 k (by have := lt_of_get hk; omega)
    obtain ⟨e3, e4⟩ := hdg k y hk
    rw [e1, e3] at this
    simp only [st, e2, e4] at this
    exact this
  · have := q2 k hkj
    obtain ⟨e3, e4⟩ := hdg k y hk
    rw [e1, e3] at this
    simp only [st, e2, e4] at this
    exact this
  · have hself : Sort.putRow enc (Sort.ahead w n) b off d = Sort.ahead w n := Sort.putRow_self enc _ _ _ _ (Sort.holds_ahead enc w n b off d hH)
    unfold sortWorld
    rw [hself]
    exact ⟨rfl, rfl, rfl, by simp [Sort.ahead], fun k hk => by rw [Sort.heap_grow_old _ _ (by simpa [Sort.ahead] using hk)]; rfl⟩
#print axioms cmp_closure
#print axioms min_run
end Go.Proofs.Ytlbknnafecdakaa.Graph
