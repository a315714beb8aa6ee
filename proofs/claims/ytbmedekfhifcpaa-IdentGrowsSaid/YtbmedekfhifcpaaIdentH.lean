/- Contracts of the laws' own functions all, none, same. -/
import Derived.Test.YtbmedekfhifcpaaIdentG
namespace Go.Proofs.Ytbmedekfhifcpaa.Ident
open Go.ChangeShapes Go.WideShapes Go.RowKit Go.Lib
set_option linter.unusedVariables false
set_option maxRecDepth 100000

/-! ### Slices of integers of the call's own -/
def Ints (w : World) (A : Option Addr) (zs : List Int) : Prop :=
  ∀ (k : Nat) (z : Int), zs[k]? = some z → ∃ b off, A = some ⟨b, off, none⟩ ∧ b < w.heap.size ∧ w.cell? ⟨b, off + k, none⟩ = some (.int .i64 z)
theorem Ints.on {w w' : World} {A : Option Addr} {zs : List Int} (h : Ints w A zs) (hb : Below w.heap.size w w') : Ints w' A zs := by
  intro k z hk
  obtain ⟨b, off, e, hlt, hc⟩ := h k z hk
  exact ⟨b, off, e, Nat.lt_of_lt_of_le hlt hb.size, (hb.cell (p := ⟨b, off + k, none⟩) hlt).trans hc⟩
def OwnI (w : World) (v : Value) (zs : List Int) : Prop := w.ownsRow 0 3 1 v zs.length (zs.map (Value.int .i64))
theorem OwnI.nil (w : World) : OwnI w (.slice none 0 0) [] := World.ownsRow_nil _ _ _ _
theorem OwnI.one {w : World} {v : Value} {zs : List Int} (h : OwnI w v zs) : ∃ A c, v = .slice A zs.length c ∧ Ints w A zs := by
  obtain ⟨h1, ⟨rfl, h2⟩ | ⟨g, cap, cur, rfl, h2, h3, h4, h5, h6, h7⟩⟩ := h
  · obtain rfl : zs = [] := List.eq_nil_of_length_eq_zero h2
    exact ⟨none, 0, rfl, fun k z h => by simp at h⟩
  · refine ⟨_, cap, rfl, fun k z hz => ⟨g, 0, rfl, (Array.getElem?_eq_some_iff.mp h3).1, ?_⟩⟩
    rw [cell_of_row w g _ cur _ (0, 0) h3, Nat.zero_add]
    have hu : (cur.toList.take (zs.length * 1))[k]? = some (.int .i64 z) := by rw [h7, List.getElem?_map, hz]; rfl
    rw [List.getElem?_take] at hu
    split at hu
    · simpa using hu
    · cases hu
theorem OwnI.keep {w w' : World} {v : Value} {zs : List Int} (h : OwnI w v zs) (hk : ∀ k, v.ownBlock = some k → w'.heap[k]? = w.heap[k]?) : OwnI w' v zs := by
  obtain ⟨h1, h0 | ⟨g, cap, cur, rfl, h2, h3, h4⟩⟩ := h
  · exact ⟨h1, Or.inl h0⟩
  · exact ⟨h1, Or.inr ⟨g, cap, cur, rfl, h2, (hk g rfl).trans h3, h4⟩⟩
theorem OwnI.lt {w : World} {v : Value} {zs : List Int} (h : OwnI w v zs) : ∀ k, v.ownBlock = some k → k < w.heap.size := fun k hk => (World.ownsRow.lt h k hk).2
theorem OwnI.alloc {w : World} {v : Value} {zs : List Int} (h : OwnI w v zs) (o : Obj) : OwnI (w.alloc o) v zs := World.ownsRow.alloc h o
theorem info_int : (Try.prog.info? 3).map (fun i => (i.zero, i.size, i.bytes)) = some (some (.int .i64 0), 1, 8) := by kernel_rfl
/-- 'append(s, z)', z in a block of its own. -/
theorem append_int {w : World} {ops : Array Oper} {rest : List Oper} {o : Oper} {a : Act} {Q : Exit → Act → World → Prop} (hgd : o.guard = none) (s x : Operand)
    (ho : o.op = .call { callee := .builtin .append, args := #[s, x], argTypes := #[64, 64] })
    (v : Value) (zs : List Int) (hs : a.eval s = v) (hown : OwnI w v zs) (g c : Nat) (z : Int) (hx : a.eval x = .slice (some ⟨g, 0, none⟩) 1 c) (hz : w.cell? ⟨g, 0, none⟩ = some (.int .i64 z))
    (hlen : zs.length + 1 ≤ 1000000)
    (h : ∀ v' w', OwnI w' v' (zs ++ [z]) → w.grownBy w' v.ownBlock → (v'.ownBlock = v.ownBlock ∨ v'.ownBlock = some w.heap.size) → wpList Try.prog ops Q rest (a.put o.dst v') w') : wpList Try.prog ops Q (o :: rest) a w := by
  obtain ⟨i0, hi0, hz0, hz1, hz2⟩ := info_parts info_int
  refine wpList_append_own_at w hgd s x _ ho 0 3 i0 (.int .i64 0) 1 8 Try.underlying64 hi0 hz0 hz1 hz2 rfl (by decide) v zs.length _ hs hown ⟨g, 0, none⟩ 1 c [.int .i64 z] hx rfl ?_ (by intro u hu; simp at hu; subst hu; rfl) (by unfold maxLen; omega) (by omega) (Nat.zero_le _) ?_
  · intro j u hj
    match j, hj with
    | 0, hj => simp at hj; subst hj; rw [Addr.add_lit]; exact hz
  · intro v' w' hown' hg _ hat
    exact h v' w' (by unfold OwnI; rw [List.length_append, List.map_append]; exact hown') hg hat

theorem strs_one_at (w : World) (s : ByteArray) (t : TypeId) {g : Nat} (hg : w.heap.size = g) : Strs (w.alloc (.cells #[.string s] t)) (some ⟨g, 0, none⟩) [s] := hg ▸ strs_one w s t
/-! ### What the function all gathers -/
structure Acc (w1 wr : World) (gl gn : Nat) (v1 v2 : Value) (zs : List Int) (M : List ByteArray) : Prop where
  hl : wr.heap[gl]? = some (.cells #[v1] 64 (0, 0))
  hn : wr.heap[gn]? = some (.cells #[v2] 24 (0, 0))
  o1 : OwnI wr v1 zs
  o2 : OwnS wr v2 M
  b1 : ∀ k, v1.ownBlock = some k → w1.heap.size ≤ k
  b2 : ∀ k, v2.ownBlock = some k → w1.heap.size ≤ k
  ne : ∀ k, v1.ownBlock = some k → v2.ownBlock ≠ some k
  off : Off (fun k => k = gl ∨ k = gn) w1 wr
  ltl : gl < w1.heap.size
  ltn : gn < w1.heap.size
  gg : gl ≠ gn
theorem Acc.pushI {w1 wr w2 : World} {gl gn : Nat} {v1 v2 v1' : Value} {zs zs' : List Int} {M : List ByteArray} {o : Obj} (h : Acc w1 wr gl gn v1 v2 zs M)
    (hown : OwnI w2 v1' zs') (hg : (wr.alloc o).grownBy w2 v1.ownBlock) (hat : v1'.ownBlock = v1.ownBlock ∨ v1'.ownBlock = some (wr.alloc o).heap.size) :
    Acc w1 (w2.setCell ⟨gl, 0, none⟩ v1') gl gn v1' v2 zs' M := by
  have hs := h.off.size
  have hs2 : wr.heap.size + 1 ≤ w2.heap.size := by have := hg.size; simpa using this
  have kl : w2.heap[gl]? = wr.heap[gl]? := by
    have := h.ltl
    rw [hg.block gl (by simp; omega) fun e => by have := h.b1 gl e.symm; omega, Below.heap_alloc _ _ _ (by omega)]
  have kn : w2.heap[gn]? = wr.heap[gn]? := by
    have := h.ltn
    rw [hg.block gn (by simp; omega) fun e => by have := h.b1 gn e.symm; omega, Below.heap_alloc _ _ _ (by omega)]
  have hv : ∀ k, v1'.ownBlock = some k → w1.heap.size ≤ k ∧ v2.ownBlock ≠ some k := fun k hk => by
    rcases hat with e | e
    · rw [e] at hk; exact ⟨h.b1 k hk, h.ne k hk⟩
    · rw [e] at hk; cases hk
      refine ⟨by simp; omega, fun e2 => ?_⟩
      have := h.o2.lt _ e2
      simp at this; omega
  refine ⟨?_, ?_, ?_, ?_, fun k hk => (hv k hk).1, h.b2, fun k hk => (hv k hk).2, ?_, h.ltl, h.ltn, h.gg⟩
  · rw [heap_setCell_same w2 gl 0 _ _ _ (kl.trans h.hl)]; rfl
  · rw [Below.heap_setCell _ _ _ _ (fun e => h.gg (by simpa using e.symm)), kn, h.hn]
  · exact hown.keep fun k hk => Below.heap_setCell _ _ _ _ fun e => by have := (hv k hk).1; have := h.ltl; simp at e; omega
  · refine (h.o2.alloc o).keep fun k hk => ?_
    have hb := h.b2 k hk
    have hkl := h.o2.lt k hk
    rw [Below.heap_setCell _ _ _ _ (fun e => by have := h.ltl; simp at e; omega), hg.block k (by simp; omega) fun e => h.ne k e.symm hk]
  · exact ((h.off.alloc o).grown hg fun k hk => Or.inr (h.b1 k hk)).set (Or.inl (Or.inl rfl)) _
theorem Acc.pushS {w1 wr w2 : World} {gl gn : Nat} {v1 v2 v2' : Value} {zs : List Int} {M M' : List ByteArray} {o : Obj} (h : Acc w1 wr gl gn v1 v2 zs M)
    (hown : OwnS w2 v2' M') (hg : (wr.alloc o).grownBy w2 v2.ownBlock) (hat : v2'.ownBlock = v2.ownBlock ∨ v2'.ownBlock = some (wr.alloc o).heap.size) :
    Acc w1 (w2.setCell ⟨gn, 0, none⟩ v2') gl gn v1 v2' zs M' := by
  have hs := h.off.size
  have hs2 : wr.heap.size + 1 ≤ w2.heap.size := by have := hg.size; simpa using this
  have kl : w2.heap[gl]? = wr.heap[gl]? := by
    have := h.ltl
    rw [hg.block gl (by simp; omega) fun e => by have := h.b2 gl e.symm; omega, Below.heap_alloc _ _ _ (by omega)]
  have kn : w2.heap[gn]? = wr.heap[gn]? := by
    have := h.ltn
    rw [hg.block gn (by simp; omega) fun e => by have := h.b2 gn e.symm; omega, Below.heap_alloc _ _ _ (by omega)]
  have hv : ∀ k, v2'.ownBlock = some k → w1.heap.size ≤ k ∧ v1.ownBlock ≠ some k := fun k hk => by
    rcases hat with e | e
    · rw [e] at hk; exact ⟨h.b2 k hk, fun e2 => h.ne k e2 hk⟩
    · rw [e] at hk; cases hk
      refine ⟨by simp; omega, fun e2 => ?_⟩
      have := h.o1.lt _ e2
      simp at this; omega
  refine ⟨?_, ?_, ?_, ?_, h.b1, fun k hk => (hv k hk).1, fun k hk e => (hv k e).2 hk, ?_, h.ltl, h.ltn, h.gg⟩
  · rw [Below.heap_setCell _ _ _ _ (fun e => h.gg (by simpa using e)), kl, h.hl]
  · rw [heap_setCell_same w2 gn 0 _ _ _ (kn.trans h.hn)]; rfl
  · refine (h.o1.alloc o).keep fun k hk => ?_
    have hb := h.b1 k hk
    have hkl := h.o1.lt k hk
    rw [Below.heap_setCell _ _ _ _ (fun e => by have := h.ltn; simp at e; omega), hg.block k (by simp; omega) fun e => h.ne k hk e.symm]
  · exact hown.keep fun k hk => Below.heap_setCell _ _ _ _ fun e => by have := (hv k hk).1; have := h.ltn; simp at e; omega
  · exact ((h.off.alloc o).grown hg fun k hk => Or.inr (h.b2 k hk)).set (Or.inl (Or.inr rfl)) _
theorem Acc.reads {w1 wr : World} {gl gn : Nat} {v1 v2 : Value} {zs : List Int} {M : List ByteArray} (h : Acc w1 wr gl gn v1 v2 zs M) :
    wr.cell? ⟨gl, 0, none⟩ = some v1 ∧ wr.cell? ⟨gn, 0, none⟩ = some v2 ∧ wr.frozen? ⟨gl, 0, none⟩ = false ∧ wr.frozen? ⟨gn, 0, none⟩ = false :=
  ⟨by rw [cell_of_row _ _ _ _ _ _ h.hl]; rfl, by rw [cell_of_row _ _ _ _ _ _ h.hn]; rfl, frozen_of h.hl _, frozen_of h.hn _⟩
theorem Acc.most {w1 wr : World} {gl gn : Nat} {v1 v2 : Value} {zs : List Int} {M : List ByteArray} (h : Acc w1 wr gl gn v1 v2 zs M) {g : Nat} {u : Value} (hg : w1.cell? ⟨g, 0, none⟩ = some u) (h1 : g ≠ gl) (h2 : g ≠ gn) :
    wr.cell? ⟨g, 0, none⟩ = some u := (World.cell?_of_block (a := ⟨g, 0, none⟩) (h.off.block g (World.block_lt_of_cell? _ _ hg) (fun e => by rcases e with e | e; exact h1 e; exact h2 e))).trans hg

set_option maxHeartbeats 1600000 in
theorem all_yield {w1 wr : World} {gl gn gm : Nat} {v1 v2 : Value} {zs : List Int} {M : List ByteArray} (i most : Int) (s : ByteArray) (h : Acc w1 wr gl gn v1 v2 zs M)
    (hmost : w1.cell? ⟨gm, 0, none⟩ = some (.int .i64 most)) (h1 : gm ≠ gl) (h2 : gm ≠ gn) (hz : zs.length ≤ 600) (hM : M.length ≤ 600) (hlt : (zs.length : Int) + 1 < most) :
    Calls Try.prog 34 #[.int .i64 i, .string s, .pointer (some ⟨gl, 0, none⟩), .pointer (some ⟨gm, 0, none⟩), .pointer (some ⟨gn, 0, none⟩)] wr
      fun e w' => e = .returned (.bool true) ∧ ∃ v1' v2', Acc w1 w' gl gn v1' v2' (zs ++ [i]) (M ++ [s]) := by
  obtain ⟨A1, c1, rfl, -⟩ := h.o1.one
  obtain ⟨A2, c2, rfl, -⟩ := h.o2.one
  obtain ⟨k1, k2, f1, f2⟩ := h.reads
  have m0 := h.most hmost h1 h2
  have hlt1 : (zs.length : Int) < most := by omega
  have H := Lib.hid h
  have HM := Lib.hid hmost
  clear h hmost
  go_enter Try.func34, Try.ntmps34
  go_wp2_with (at_builtin; refine append_int rfl _ _ rfl (.slice A1 zs.length c1) zs rfl (H.out.o1.alloc _) wr.heap.size 1 i rfl (by simp) (by omega) ?_; intro v' w2 hown2 hgrow2 hat2; refine Hid.out ?_)
  obtain ⟨A3, c3, rfl, -⟩ := hown2.one
  rw [show (zs ++ [i]).length = zs.length + 1 by simp] at hown2 hat2
  have HP := Lib.hid (H.out.pushI hown2 hgrow2 hat2)
  have kb2 : w2.heap[gl]? = some (.cells #[.slice A1 zs.length c1] 64 (0, 0)) := by
    have hz := H.out.off.size
    have hl := H.out.ltl
    rw [hgrow2.block gl (by simp; omega) fun e => by have := H.out.b1 gl e.symm; omega, Below.heap_alloc _ _ _ (by omega)]
    exact H.out.hl
  have d1 : w2.cell? ⟨gl, 0, none⟩ = some (.slice A1 zs.length c1) := by rw [cell_of_row _ _ _ _ _ _ kb2]; rfl
  have g1 : w2.frozen? ⟨gl, 0, none⟩ = false := frozen_of kb2 _
  have kb3 : w2.heap[gn]? = some (.cells #[.slice A2 M.length c2] 24 (0, 0)) := by
    have hz := H.out.off.size
    have hl := H.out.ltn
    rw [hgrow2.block gn (by simp; omega) fun e => by have := H.out.b1 gn e.symm; omega, Below.heap_alloc _ _ _ (by omega)]
    exact H.out.hn
  have d2 : w2.cell? ⟨gn, 0, none⟩ = some (.slice A2 M.length c2) := by rw [cell_of_row _ _ _ _ _ _ kb3]; rfl
  have g2 : w2.frozen? ⟨gn, 0, none⟩ = false := frozen_of kb3 _
  have n1 := H.out.gg
  have n2 : gn ≠ gl := fun e => n1 e.symm
  clear hown2 hgrow2 hat2 kb2 kb3 k1 k2 f1 f2 m0
  refine Lib.hid ?_
  go_wp2_with (at_builtin; refine append_strs rfl _ _ rfl (.slice A2 M.length c2) M rfl (HP.out.o2.alloc _) (some ⟨w2.heap.size, 0, none⟩) 1 [s] 1 rfl rfl (strs_one_at _ _ _ (by simp [World.setCell])) (by simp; omega) ?_; intro v' w3 hown3 hgrow3 hat3; refine Hid.out ?_)
  obtain ⟨A4, c4, rfl, -, -, -, -, -⟩ := hown3.one
  rw [show (M ++ [s]).length = M.length + 1 by simp] at hown3 hat3
  have HQ := Lib.hid (HP.out.pushS hown3 hgrow3 hat3)
  have kb2 : w3.heap[gl]? = some (.cells #[.slice A3 (zs.length + 1) c3] 64 (0, 0)) := by
    have hz := HP.out.off.size
    have hl := HP.out.ltl
    rw [hgrow3.block gl (by simp [World.setCell] at hz ⊢; omega) fun e => by have := HP.out.b2 gl e.symm; omega, Below.heap_alloc _ _ _ (by omega)]
    exact HP.out.hl
  have kb3 : w3.heap[gn]? = some (.cells #[.slice A2 M.length c2] 24 (0, 0)) := by
    have hz := HP.out.off.size
    have hl := HP.out.ltn
    rw [hgrow3.block gn (by simp [World.setCell] at hz ⊢; omega) fun e => by have := HP.out.b2 gn e.symm; omega, Below.heap_alloc _ _ _ (by omega)]
    exact HP.out.hn
  have d3 : w3.cell? ⟨gl, 0, none⟩ = some (.slice A3 (zs.length + 1) c3) := by rw [cell_of_row _ _ _ _ _ _ kb2]; rfl
  have d4 : w3.cell? ⟨gn, 0, none⟩ = some (.slice A2 M.length c2) := by rw [cell_of_row _ _ _ _ _ _ kb3]; rfl
  have g4 : w3.frozen? ⟨gn, 0, none⟩ = false := frozen_of kb3 _
  have m3 : w3.cell? ⟨gm, 0, none⟩ = some (.int .i64 most) := by
    have hm := HP.out.most HM.out h1 h2
    have hlt := World.block_lt_of_cell? _ _ HM.out
    have hz := HP.out.off.size
    refine (World.cell?_of_block (a := ⟨gm, 0, none⟩) ?_).trans hm
    rw [hgrow3.block gm (by simp [World.setCell] at hz hlt ⊢; omega) fun e => by have := HP.out.b2 gm e.symm; simp at hlt; omega, Below.heap_alloc _ _ _ (by simp at hlt; omega)]
  clear hown3 hgrow3 hat3 kb2 kb3 d1 g1 d2 g2
  refine Lib.hid ?_
  go_wp2_with fail
  go_ret
  exact ⟨rfl, _, _, HQ.out⟩

#print axioms all_yield
end Go.Proofs.Ytbmedekfhifcpaa.Ident
