/- What the walks of the laws of layer 4 share; SpanChecks, SpanNorms, SpanCombines, SpanMoves, SpanSets. -/
import Derived.Test.YtidgcgnedeekhaaSpanT
namespace Go.Proofs.Ytidgcgnedeekhaa.Span
open Go.ChangeShapes Go.WideShapes Go.RowKit Go.Lib Go.Proofs
set_option linter.unusedVariables false
set_option maxRecDepth 100000

/-- What a call of a set returns: the list and the error. -/
def Outs (f : Int → Bool) (a b M : List Sp) (E : Int) : Prop := ∃ N, M = cmbL a b N ∧ E = cmbE a b N ∧ (chkE a = 0 → chkE b = 0 → IsNf f N)
theorem Outs.one {f : Int → Bool} {a b M M' : List Sp} {E E' : Int} (h : Outs f a b M E) (h' : Outs f a b M' E') : M = M' ∧ E = E' := by
  obtain ⟨N, rfl, rfl, hn⟩ := h
  obtain ⟨N', rfl, rfl, hn'⟩ := h'
  by_cases ha : chkE a = 0
  · by_cases hb : chkE b = 0
    · rw [(hn ha hb).one (hn' ha hb)]; exact ⟨rfl, rfl⟩
    · have e : ∀ N, cmbE a b N = chkE b := fun N => cmbE_b ha hb
      exact ⟨by rw [cmbL_no (by rw [e]; exact hb), cmbL_no (by rw [e]; exact hb)], by rw [e, e]⟩
  · have e : ∀ N, cmbE a b N = chkE a := fun N => cmbE_a ha
    exact ⟨by rw [cmbL_no (by rw [e]; exact ha), cmbL_no (by rw [e]; exact ha)], by rw [e, e]⟩
theorem Outs.ok {f : Int → Bool} {a b M : List Sp} {E : Int} (h : Outs f a b M E) (he : E = 0) : chkE a = 0 ∧ chkE b = 0 ∧ M.length ≤ 256 ∧ IsNf f M := by
  obtain ⟨N, rfl, rfl, hn⟩ := h
  obtain ⟨h1, h2, h3⟩ := cmbE_zero he
  rw [cmbL_ok he]
  exact ⟨h1, h2, h3, hn h1 h2⟩
theorem Outs.no {f : Int → Bool} {a b M : List Sp} {E : Int} (h : Outs f a b M E) (he : ¬ E = 0) : M = [] := by
  obtain ⟨N, rfl, rfl, hn⟩ := h
  exact cmbL_no he
theorem Outs.cases {f : Int → Bool} {a b M : List Sp} {E : Int} (h : Outs f a b M E) (ha : chkE a = 0) (hb : chkE b = 0) : E = 0 ∨ E = 8 := by
  obtain ⟨N, rfl, rfl, hn⟩ := h
  exact cmbE_cases a b N ha hb
/-- No more spans than the limit: no error. -/
theorem Outs.fits {f : Int → Bool} {a b M : List Sp} {E : Int} (h : Outs f a b M E) (ha : chkE a = 0) (hb : chkE b = 0) {N : List Sp} (hN : IsNf f N) (hl : N.length ≤ 256) : E = 0 ∧ M = N := by
  obtain ⟨N', rfl, rfl, hn⟩ := h
  obtain rfl := (hn ha hb).one hN
  have e : cmbE a b N' = 0 := by rw [cmbE_ok ha hb, nfE_ok (by omega)]
  exact ⟨e, cmbL_ok e⟩
theorem Outs.full {f : Int → Bool} {a b M : List Sp} {E : Int} (h : Outs f a b M E) (ha : chkE a = 0) (hb : chkE b = 0) {N : List Sp} (hN : IsNf f N) (hl : 256 < N.length) : E = 8 ∧ M = [] := by
  obtain ⟨N', rfl, rfl, hn⟩ := h
  obtain rfl := (hn ha hb).one hN
  have e : cmbE a b N' = 8 := by rw [cmbE_ok ha hb, nfE_full hl]
  exact ⟨e, cmbL_no (by rw [e]; decide)⟩
theorem SetRes.outs {f : Int → Bool} {a b : List Sp} {w w' : World} {e : Ending} (h : SetRes f a b w e w') :
    ∃ M E V cap, e = .returned (.tuple #[.slice V (M : List Sp).length cap, .int .i64 E]) ∧ M.length ≤ 9223372036854775807 ∧ InL w' (.slice V M.length cap) M ∧ Outs f a b M E ∧ Below w.heap.size w w' := by
  obtain ⟨N, V, cap, rfl, hm, hin, hnf, hb⟩ := h.open_
  exact ⟨_, _, V, cap, rfl, hm, hin, ⟨N, rfl, rfl, hnf⟩, hb⟩
theorem TotRes.outs {L : List Sp} {w w' : World} {e : Ending} (h : TotRes L w e w') : ∃ M E, e = .returned (.tuple #[.int .i64 (tot M), .int .i64 E]) ∧ Outs (orF L []) L [] M E ∧ Below w.heap.size w w' := by
  obtain ⟨N, rfl, hnf, hb⟩ := h
  exact ⟨_, _, rfl, ⟨N, rfl, rfl, fun h _ => hnf h⟩, hb⟩
theorem MovRes.open_ {L : List Sp} {n : Int} {w w' : World} {e : Ending} (h : MovRes L n w e w') : ∃ V cap, e = .returned (.tuple #[.slice V (movL L n).length cap, .int .i64 (movE L n)]) ∧ (movL L n).length ≤ 9223372036854775807 ∧ InL w' (.slice V (movL L n).length cap) (movL L n) ∧ Below w.heap.size w w' := by
  obtain ⟨v, rfl, hin, hb⟩ := h
  obtain ⟨V, cap, rfl, hm, -, hin'⟩ := hin.open_
  exact ⟨V, cap, rfl, hm, hin', hb⟩
theorem InL.sps {w : World} {V : Option Addr} {n cap : Nat} {M : List Sp} (h : InL w (.slice V n cap) M) : Sps w V M := by
  obtain ⟨A, c, e, -, -, hs⟩ := h
  cases e; exact hs

theorem is_great (L : List Sp) (A : Option Addr) (c : Nat) (w : World) (hm : L.length ≤ 9223372036854775807) {r : Bool} (hr : decide (300 < L.length) = r) :
    Calls Try.prog 12 #[.slice A L.length c] w fun e w' => e = .returned (.bool r) ∧ w = w' := by
  have e : decide ((300 : Int) < (L.length : Int)) = r := by rw [← hr]; exact decide_eq_decide.mpr (by omega)
  have E := Lib.hid e
  clear hr e
  go_enter Try.func12, Try.ntmps12
  go_wp2_with fail
  go_ret
  refine ⟨ret_bool ?_, rfl⟩
  rw [← E.out]

section
variable {H : Type} {enc : TypeId × Value → H} {w : World} {held : Bool}
/-- A slice of spans that came in. -/
theorem open_spans {r : Reach} {b0 : Nat} {v : Value} {d : DataW H} {p : List MemPlace} (hv : Value.okWide Try.prog w r b0 22 v) (h : DataW.Trod enc Try.prog w 0 (fun _ => true) held 22 v d p) :
    ∃ L, InL w v L := by
  obtain ⟨A, n, c, rfl⟩ := okWide_slice Try.underlying22 hv
  obtain ⟨fuel, hf⟩ := h
  rcases Deep.open_slice Try.underlying22 hf with ⟨hcs, _⟩ | ⟨a, len, cap, m, k, D, Pl, hcs, _, hl, hm, hmm, _, hel⟩
  · simp [Value.cells] at hcs
    obtain ⟨rfl, rfl, rfl⟩ := hcs
    exact ⟨[], InL.nil w⟩
  · simp [Value.cells] at hcs
    obtain ⟨rfl, rfl, rfl⟩ := hcs
    have hmc : m = c := by simpa using hmm
    subst hmc
    have hC : Try.prog.cellsOf 37 = 2 := by kernel_rfl
    have key : ∀ i, i < n → ∃ s : Sp, ∃ b off, a = ⟨b, off, none⟩ ∧ b < w.heap.size ∧
        w.cell? ⟨b, off + i * 2, none⟩ = some (.int .i64 s.1) ∧ w.cell? ⟨b, off + i * 2 + 1, none⟩ = some (.int .i64 s.2) := by
      intro i hi
      obtain ⟨cs, hc, ht⟩ := hel i (by omega)
      rw [hC] at hc
      obtain ⟨xs, n', _, _, hlen, hyl, hg⟩ := DataW.trod_struct Try.underlying37 ht
      obtain ⟨_, hcl, hat⟩ := World.cells?_some hc
      obtain ⟨c0, c1, rfl⟩ : ∃ c0 c1, cs = [c0, c1] := by
        match cs, hcl with
        | [c0, c1], _ => exact ⟨c0, c1, rfl⟩
      obtain ⟨y0, y1, rfl⟩ : ∃ y0 y1, xs = [y0, y1] := by
        match xs, hyl with
        | [y0, y1], _ => exact ⟨y0, y1, rfl⟩
      have g0 := hg 0 _ rfl
      have g1 := hg 1 _ rfl
      change DataW.trod enc Try.prog w 0 (fun _ => true) held n' 3 (([c0, c1].drop 0).take (Try.prog.cellsOf 3)) = some y0 at g0
      change DataW.trod enc Try.prog w 0 (fun _ => true) held n' 3 (([c0, c1].drop 1).take (Try.prog.cellsOf 3)) = some y1 at g1
      rw [show Try.prog.cellsOf 3 = 1 by kernel_rfl] at g0 g1
      obtain ⟨x0, f0, _, _⟩ := DataW.trod_int Try.underlying3 g0
      obtain ⟨x1, f1, _, _⟩ := DataW.trod_int Try.underlying3 g1
      have e0 : c0 = .int .i64 x0 := by simpa using f0
      have e1 : c1 = .int .i64 x1 := by simpa using f1
      clear f0 f1
      subst e0 e1
      obtain ⟨b, off, spot⟩ := a
      have hspot : spot = none := by
        obtain ⟨cs0, hc0, ht0⟩ := hel 0 (by omega)
        rw [hC] at hc0
        obtain ⟨_, hl0, hat0⟩ := World.cells?_some hc0
        match cs0, hl0 with
        | [z0, z1], _ =>
          have h := hat0 0 (by omega)
          have e : ∀ x : Addr, x.add 0 = x := fun x => by unfold Addr.add; rw [if_pos rfl]
          rw [Nat.zero_mul, e, e] at h
          exact World.cell?_spot h
      subst hspot
      have k : ∀ j, j < 2 → w.cell? ⟨b, off + i * 2 + j, none⟩ = [Value.int .i64 x0, Value.int .i64 x1][j]? := fun j hj => by
        have := hat j (by omega)
        rw [Go.WideShapes.add_plain, Go.WideShapes.add_plain] at this
        exact this
      have k0 := k 0 (by omega)
      exact ⟨(x0, x1), b, off, rfl, World.block_lt_of_cell? w _ k0, k0, k 1 (by omega)⟩
    have lists : ∀ n, (∀ i, i < n → ∃ s : Sp, ∃ b off, a = ⟨b, off, none⟩ ∧ b < w.heap.size ∧ w.cell? ⟨b, off + i * 2, none⟩ = some (.int .i64 s.1) ∧ w.cell? ⟨b, off + i * 2 + 1, none⟩ = some (.int .i64 s.2)) →
        ∃ L : List Sp, L.length = n ∧ ∀ (i : Nat) (s : Sp), L[i]? = some s → ∃ b off, a = ⟨b, off, none⟩ ∧ b < w.heap.size ∧ w.cell? ⟨b, off + i * 2, none⟩ = some (.int .i64 s.1) ∧ w.cell? ⟨b, off + i * 2 + 1, none⟩ = some (.int .i64 s.2) := by
      intro n
      induction n with
      | zero => intro _; exact ⟨[], rfl, fun i s hs => by simp at hs⟩
      | succ n ih =>
        intro h
        obtain ⟨L, hl, hL⟩ := ih fun i hi => h i (by omega)
        obtain ⟨t, ht⟩ := h n (by omega)
        refine ⟨L ++ [t], by simp [hl], fun i u hu => ?_⟩
        have hlt := lt_get hu
        rw [List.length_append, List.length_singleton] at hlt
        rcases Nat.lt_or_ge i L.length with h1 | h1
        · rw [List.getElem?_append_left h1] at hu; exact hL i u hu
        · obtain rfl : i = n := by omega
          rw [List.getElem?_append_right h1, hl, Nat.sub_self] at hu
          obtain rfl : t = u := by simpa using hu
          exact ht
    obtain ⟨L, rfl, hL⟩ := lists n key
    refine ⟨L, some a, m, rfl, hl, hm, fun k s hk => ?_⟩
    obtain ⟨b, off, e, h⟩ := hL k s hk
    exact ⟨b, off, by rw [e], h⟩
end
#print axioms is_great
#print axioms open_spans
end Go.Proofs.Ytidgcgnedeekhaa.Span
