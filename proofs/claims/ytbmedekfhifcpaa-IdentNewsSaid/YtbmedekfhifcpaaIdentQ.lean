/- For the frames of layer 6: what comes in; the walks in the frames' words. -/
import Derived.Test.YtbmedekfhifcpaaIdentP
namespace Go.Proofs.Ytbmedekfhifcpaa.Ident
open Go.ChangeShapes Go.WideShapes Go.RowKit Go.Lib Go.Joins
set_option linter.unusedVariables false
set_option maxRecDepth 100000

section
variable {H : Type} {enc : TypeId × Value → H} {w : World} {held : Bool}
theorem list_any {α : Type} {P : Nat → α → Prop} : ∀ n, (∀ i, i < n → ∃ s, P i s) → ∃ L : List α, L.length = n ∧ ∀ (i : Nat) (s : α), L[i]? = some s → P i s := by
  intro n
  induction n with
  | zero => intro _; exact ⟨[], rfl, fun i s hs => by simp at hs⟩
  | succ n ih =>
    intro h
    obtain ⟨L, hl, hL⟩ := ih fun i hi => h i (by omega)
    obtain ⟨t, ht⟩ := h n (by omega)
    refine ⟨L ++ [t], by simp [hl], fun i u hu => ?_⟩
    have hlt := lt_get hu
    rw [List.length_append, List.length_singleton] at hlt
    rcases Nat.lt_or_ge i L.length with h1 | h1
    · rw [List.getElem?_append_left h1] at hu; exact hL i u hu
    · obtain rfl : i = n := by omega
      rw [List.getElem?_append_right h1, hl, Nat.sub_self] at hu
      obtain rfl : t = u := by simpa using hu
      exact ht
/-- A slice of steps that came in. -/
theorem open_steps {r : Reach} {b0 : Nat} {v : Value} {d : DataW H} {p : List MemPlace} (hv : Value.okWide Try.prog w r b0 37 v) (h : DataW.Trod enc Try.prog w 0 (fun _ => true) held 37 v d p) :
    ∃ A c l, v = .slice A l.length c ∧ Stps w A l ∧ SizP l ∧ l.length ≤ 9223372036854775807 := by
  obtain ⟨A, n, c, rfl⟩ := okWide_slice Try.underlying37 hv
  obtain ⟨fuel, hf⟩ := h
  rcases Deep.open_slice Try.underlying37 hf with ⟨hcs, _⟩ | ⟨a, len, cap, m, k, D, Pl, hcs, _, hl, hm, hmm, _, hel⟩
  · simp [Value.cells] at hcs
    obtain ⟨rfl, rfl, rfl⟩ := hcs
    exact ⟨none, 0, [], rfl, Stps.nil _ _, fun s hs => by simp at hs, by simp⟩
  · simp [Value.cells] at hcs
    obtain ⟨rfl, rfl, rfl⟩ := hcs
    have hmc : m = c := by simpa using hmm
    subst hmc
    have hC : Try.prog.cellsOf 39 = 3 := by kernel_rfl
    have key : ∀ i, i < n → ∃ s : Stp, ∃ b off, a = ⟨b, off, none⟩ ∧ b < w.heap.size ∧ s.2.2.size ≤ maxLen ∧
        w.cell? ⟨b, off + i * 3, none⟩ = some (.int .i64 s.1) ∧ w.cell? ⟨b, off + i * 3 + 1, none⟩ = some (.int .i64 s.2.1) ∧ w.cell? ⟨b, off + i * 3 + 2, none⟩ = some (.string s.2.2) := by
      intro i hi
      obtain ⟨cs, hc, ht⟩ := hel i (by omega)
      rw [hC] at hc
      obtain ⟨xs, n', _, _, hlen, hyl, hg⟩ := DataW.trod_struct Try.underlying39 ht
      obtain ⟨_, hcl, hat⟩ := World.cells?_some hc
      obtain ⟨c0, c1, c2, rfl⟩ : ∃ c0 c1 c2, cs = [c0, c1, c2] := by
        match cs, hcl with
        | [c0, c1, c2], _ => exact ⟨c0, c1, c2, rfl⟩
      obtain ⟨y0, y1, y2, rfl⟩ : ∃ y0 y1 y2, xs = [y0, y1, y2] := by
        match xs, hyl with
        | [y0, y1, y2], _ => exact ⟨y0, y1, y2, rfl⟩
      have g0 := hg 0 _ rfl
      have g1 := hg 1 _ rfl
      have g2 := hg 2 _ rfl
      change DataW.trod enc Try.prog w 0 (fun _ => true) held n' 3 (([c0, c1, c2].drop 0).take (Try.prog.cellsOf 3)) = some y0 at g0
      change DataW.trod enc Try.prog w 0 (fun _ => true) held n' 3 (([c0, c1, c2].drop 1).take (Try.prog.cellsOf 3)) = some y1 at g1
      change DataW.trod enc Try.prog w 0 (fun _ => true) held n' 9 (([c0, c1, c2].drop 2).take (Try.prog.cellsOf 9)) = some y2 at g2
      rw [show Try.prog.cellsOf 3 = 1 by kernel_rfl] at g0 g1
      rw [show Try.prog.cellsOf 9 = 1 by kernel_rfl] at g2
      obtain ⟨x0, f0, _, _⟩ := DataW.trod_int Try.underlying3 g0
      obtain ⟨x1, f1, _, _⟩ := DataW.trod_int Try.underlying3 g1
      obtain ⟨x2, f2, _, hsz⟩ := DataW.trod_string Try.underlying9 g2
      have e0 : c0 = .int .i64 x0 := by simpa using f0
      have e1 : c1 = .int .i64 x1 := by simpa using f1
      have e2 : c2 = .string x2 := by simpa using f2
      clear f0 f1 f2
      subst e0 e1 e2
      obtain ⟨b, off, spot⟩ := a
      have hspot : spot = none := by
        obtain ⟨cs0, hc0, ht0⟩ := hel 0 (by omega)
        rw [hC] at hc0
        obtain ⟨_, hl0, hat0⟩ := World.cells?_some hc0
        match cs0, hl0 with
        | [z0, z1, z2], _ =>
          have h := hat0 0 (by omega)
          have e : ∀ x : Addr, x.add 0 = x := fun x => by unfold Addr.add; rw [if_pos rfl]
          rw [Nat.zero_mul, e, e] at h
          exact World.cell?_spot h
      subst hspot
      have k : ∀ j, j < 3 → w.cell? ⟨b, off + i * 3 + j, none⟩ = [Value.int .i64 x0, Value.int .i64 x1, Value.string x2][j]? := fun j hj => by
        have := hat j (by omega)
        rw [Go.WideShapes.add_plain, Go.WideShapes.add_plain] at this
        exact this
      have k0 := k 0 (by omega)
      exact ⟨(x0, x1, x2), b, off, rfl, World.block_lt_of_cell? w _ k0, hsz, k0, k 1 (by omega), k 2 (by omega)⟩
    obtain ⟨L, rfl, hL⟩ := list_any (P := fun i (s : Stp) => ∃ b off, a = ⟨b, off, none⟩ ∧ b < w.heap.size ∧ s.2.2.size ≤ maxLen ∧
        w.cell? ⟨b, off + i * 3, none⟩ = some (.int .i64 s.1) ∧ w.cell? ⟨b, off + i * 3 + 1, none⟩ = some (.int .i64 s.2.1) ∧ w.cell? ⟨b, off + i * 3 + 2, none⟩ = some (.string s.2.2)) n key
    refine ⟨some a, m, L, rfl, fun k s hk => ?_, fun s hs => ?_, by unfold maxLen at hm; omega⟩
    · obtain ⟨b, off, e, h1, _, h2⟩ := hL k s hk
      exact ⟨b, off, by rw [e], h1, h2⟩
    · obtain ⟨j, hj⟩ := List.mem_iff_getElem?.mp hs
      obtain ⟨b, off, e, h1, h2, _⟩ := hL j s hj
      exact h2
theorem u8_of {n : Int} (h : (Lit.int .u8 n).wf = true) : 0 ≤ n ∧ n < 256 := by
  have := bounds_u8 h
  omega
/-- A Change that came in. -/
theorem open_change {r : Reach} {b0 : Nat} {v : Value} {d : DataW H} {p : List MemPlace} (hv : Value.okWide Try.prog w r b0 57 v) (h : DataW.Trod enc Try.prog w 0 (fun _ => true) held 57 v d p) :
    ∃ a c : Int, v = .agg #[.int .u8 a, .int .u8 c] ∧ (0 ≤ a ∧ a < 256) ∧ (0 ≤ c ∧ c < 256) := by
  obtain ⟨v0, v1, y0, y1, n, rfl, _, _, h0, h1⟩ := open_agg2 Try.underlying57 (by kernel_rfl) (by kernel_rfl) hv h
  obtain ⟨x0, f0, _, w0⟩ := DataW.trod_int Try.underlying5 h0
  obtain ⟨x1, f1, _, w1⟩ := DataW.trod_int Try.underlying5 h1
  simp at f0 f1
  subst f0 f1
  exact ⟨x0, x1, rfl, u8_of w0, u8_of w1⟩
end

namespace Law
theorem walk_IdentValids (w : World) (s : ByteArray) (hs : s.size ≤ maxLen) : Calls Try.prog 3 #[.string s] w fun e w' => e = .returned (.bool true) ∧ Below w.heap.size w w' := Ident.walk_IdentValids w s (max_small hs)
theorem walk_IdentAll (w : World) (A : Option Addr) (c : Nat) (L : List ByteArray) (ha : Strs w A L) (hz : Siz L) (hl : L.length ≤ 9223372036854775807) (take : Int) (ht : (Lit.int .u8 take).wf = true) (added : ByteArray) (hs : added.size ≤ maxLen) :
    Calls Try.prog 6 #[.slice A L.length c, .int .u8 take, .string added] w fun e w' => e = .returned (.bool true) ∧ Below w.heap.size w w' :=
  Ident.walk_IdentAll w A c L ha hz hl take (u8_of ht).1 (u8_of ht).2 added hs
theorem walk_IdentBytes (w : World) (s : ByteArray) (hs : s.size ≤ maxLen) (t : ByteArray) (ht : t.size ≤ maxLen) (a c : Int) (ha : 0 ≤ a ∧ a < 256) (hc : 0 ≤ c ∧ c < 256) :
    Calls Try.prog 9 #[.string s, .string t, .agg #[.int .u8 a, .int .u8 c]] w fun e w' => e = .returned (.bool true) ∧ Below w.heap.size w w' :=
  Ident.walk_IdentBytes w s t hs ht a c ha.1 ha.2 hc.1 hc.2
end Law
#print axioms open_steps
end Go.Proofs.Ytbmedekfhifcpaa.Ident
