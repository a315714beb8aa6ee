/- Contracts of slices.Clone, of All and of the iterator that it returns. -/
import Derived.Test.YtbmedekfhifcpaaIdentF
import Derived.Shelf.Abstract
import Derived.Lib.SliceRun
namespace Go.Proofs.Ytbmedekfhifcpaa.Ident
open Go.ChangeShapes Go.WideShapes Go.RowKit Go.Lib
set_option linter.unusedVariables false
set_option maxRecDepth 100000

theorem strs_none {w : World} {L : List ByteArray} (h : Strs w none L) : L = [] := by
  cases L with
  | nil => rfl
  | cons z zs => obtain ⟨b, off, hA, _⟩ := h 0 z rfl; cases hA
theorem slices_Clone (L : List ByteArray) (A : Option Addr) (c : Nat) (w : World) (ha : Strs w A L) (hl : L.length ≤ 512) :
    Calls Try.prog 32 #[.slice A L.length c] w fun e w' => ∃ A' c', e = .returned (.slice A' L.length c') ∧ Strs w' A' L ∧ (∀ b off, A' = some ⟨b, off, none⟩ → w.heap.size ≤ b) ∧ Below w.heap.size w w' := by
  cases A with
  | none =>
    obtain rfl := strs_none ha
    have hnl : ∀ W : World, (binOp .eql 24 (.slice none 0 c) (.slice none 0 0)).run Try.prog W = .ok (.bool true) W := fun W => Lib.run_eql_slice_nil W 24 9 none 0 c 0 0 Try.underlying24
    clear ha
    go_enter Try.func32, Try.ntmps32
    go_wp2_with fail
    go_ret
    exact ⟨none, 0, rfl, Strs.nil _ _, by simp, Below.refl _ _⟩
  | some ad =>
    have HA := Lib.hid ha
    have hnl : ∀ W : World, (binOp .eql 24 (.slice (some ad) L.length c) (.slice none 0 0)).run Try.prog W = .ok (.bool false) W := fun W => Lib.run_eql_slice_nil W 24 9 (some ad) L.length c 0 0 Try.underlying24
    clear ha
    go_enter Try.func32, Try.ntmps32
    go_wp2_with (at_builtin; refine append_strs rfl _ _ rfl (.slice (some ⟨w.heap.size, 0, none⟩) 0 0) [] rfl (own_empty w) (some ad) c L L.length rfl rfl (HA.out.on (below_alloc _ _)) (by simp; omega) ?_; intro v' w2 hown2 hgrow2 hat2; refine Hid.out ?_)
    rw [List.nil_append] at hown2
    obtain ⟨A2, cp2, rfl, -, -, hstr, -, hob⟩ := hown2.one
    have HW2 := Lib.hid hstr
    have HG2 := Lib.hid hgrow2
    have HO2 : Hid (∀ b off, A2 = some ⟨b, off, none⟩ → w.heap.size ≤ b) := fun b off e => by
      rw [hob, e] at hat2
      rcases hat2 with h | h
      · cases h; exact Nat.le_refl _
      · cases h; simp
    clear hown2 hgrow2 hat2 hstr hob
    refine Lib.hid ?_
    go_wp2_with fail
    go_ret
    exact ⟨A2, cp2, rfl, HW2.out, HO2.out, (below_alloc w _).grown HG2.out (by simp) fun k hk => by cases hk; exact Nat.le_refl _⟩

/-- The iterator's variable: at block g lies a slice of the names L, of its own. -/
def Cl (w : World) (base g : Nat) (L : List ByteArray) : Prop :=
  base ≤ g ∧ g < w.heap.size ∧ ∃ A c, w.cell? ⟨g, 0, none⟩ = some (.slice A L.length c) ∧ Strs w A L ∧ (∀ b off, A = some ⟨b, off, none⟩ → base ≤ b)
theorem ident_All {b : Nat} {S : Nat → Prop} {L : List ByteArray} {w : World} (ht : Tb w b S L) :
    Calls Try.prog 25 #[.pointer (some ⟨b, 0, none⟩)] w fun e w' => ∃ g, e = .returned (.func (.func 33) #[] #[.pointer (some ⟨g, 0, none⟩)]) ∧ Cl w' w.heap.size g L ∧ Below w.heap.size w w' := by
  have hmf : ∀ (fn : Fn) (first cap : Array Value) (w : World), (Instr.makeFunc fn first cap).run Try.prog w = .ok (.func fn first cap) w := fun _ _ _ _ => rfl
  obtain ⟨A, c, bm, D, c0, c1, f0, hown, hstr, hmap, hD, hb, hbm, hne, hrow⟩ := ht.reads
  have hlt := ht.lt b ht.sb
  have HC := Lib.hid (slices_Clone L A c (w.alloc (.cells #[.slice none 0 0] 24)) (hstr.on (below_alloc _ _)) ht.good.len)
  clear ht hown hmap hD hb hrow hstr
  go_enter Try.func25, Try.ntmps25
  go_wp2_with fail
  refine HC.out.mono ?_
  rintro e w1 ⟨A', c', rfl, hs, hA, hbel⟩
  have hsz := hbel.size
  have kb : w1.heap[w.heap.size]? = some (.cells #[.slice none 0 0] 24 (0, 0)) := (hbel.block _ (by simp)).trans (heap_alloc_new w _)
  have d0 : w1.cell? ⟨w.heap.size, 0, none⟩ = some (.slice none 0 0) := by rw [cell_of_row _ _ _ _ _ _ kb]; rfl
  have f1 : w1.frozen? ⟨w.heap.size, 0, none⟩ = false := frozen_of kb _
  have HS := Lib.hid hs
  have HA' := Lib.hid hA
  have HB := Lib.hid hbel
  have KB := Lib.hid kb
  clear hs hA hbel kb
  go_wp2_with fail
  go_ret
  simp at hsz
  refine ⟨w.heap.size, rfl, ⟨Nat.le_refl _, by simp [World.setCell]; omega, A', c', ?_, ?_, fun b off e => ?_⟩, ?_⟩
  · exact World.cell?_setCell_same _ _ _ d0
  · refine HS.out.keep (by simp [World.setCell]) fun b off e hb => Below.heap_setCell _ _ _ _ ?_
    have := HA'.out b off e
    simp at this
    show b ≠ w.heap.size
    omega
  · have := HA'.out b off e
    simp at this; omega
  · exact ((below_alloc w _).trans (HB.out.mono (by simp))).setCell (Nat.le_refl _) _
theorem ident_All_nil (w : World) :
    Calls Try.prog 25 #[.pointer none] w fun e w' => ∃ g, e = .returned (.func (.func 33) #[] #[.pointer (some ⟨g, 0, none⟩)]) ∧ Cl w' w.heap.size g [] ∧ Below w.heap.size w w' := by
  have hmf : ∀ (fn : Fn) (first cap : Array Value) (w : World), (Instr.makeFunc fn first cap).run Try.prog w = .ok (.func fn first cap) w := fun _ _ _ _ => rfl
  go_enter Try.func25, Try.ntmps25
  go_wp2_with fail
  go_ret
  exact ⟨w.heap.size, rfl, ⟨Nat.le_refl _, by simp, none, 0, by simp, Strs.nil _ _, by simp⟩, below_alloc _ _⟩

set_option maxHeartbeats 800000 in
/-- The iterator runs: whatever holds of the memory between the calls of its function. -/
theorem all_run (g : Nat) (caps : Array Value) (eg : ∀ args w, (callFunc g args).run Try.prog w = .ok (.enter g args) w) (L : List ByteArray) (gB : Nat) (A : Option Addr) (c : Nat) (w : World)
    (hm : L.length ≤ 512) (hcell : w.cell? ⟨gB, 0, none⟩ = some (.slice A L.length c)) (I : Nat → World → Prop) (J : World → Prop) (hstr : ∀ k wr, I k wr → Strs wr A L)
    (hcall : ∀ k s wr, L[k]? = some s → I k wr → Calls Try.prog g (#[.int .i64 (k : Int), .string s] ++ caps) wr fun e w' => ∃ r, e = .returned (.bool r) ∧ (r = true → I (k + 1) w') ∧ (r = false → J w'))
    (hend : ∀ wr, I L.length wr → J wr) (h0 : I 0 w) :
    Calls Try.prog 33 #[.func (.func g) #[] caps, .pointer (some ⟨gB, 0, none⟩)] w fun e w' => e = .returned (.tuple #[]) ∧ J w' := by
  have HS := Lib.hid hstr
  have HC := Lib.hid hcall
  have HE := Lib.hid hend
  have H0 := Lib.hid h0
  clear hstr hcall hend h0
  go_enter Try.func33, Try.ntmps33
  go_wp2_with fail
  go_loopw [7] (fun i wr => ∃ k : Nat, k ≤ L.length ∧ i = .int .i64 k ∧ I k wr) (fun i _ => L.length - (intOf i).toNat)
  case atStart => exact ⟨0, Nat.zero_le _, rfl, H0.out⟩
  case round =>
    obtain ⟨k, hk, rfl, hi⟩ := hrel
    have HI := Lib.hid hi
    clear hi
    rcases Nat.lt_or_ge k L.length with hlt | hge
    · obtain ⟨s, hs⟩ := get_lt hlt
      obtain ⟨b', off, rfl, hb', hc⟩ := HS.out k _ HI.out k s hs
      have HX := Lib.hid (HC.out k s _ hs HI.out)
      clear hs
      go_wp2_with (go_at_fn g; refine HX.out.mono ?_; rintro e w' ⟨r, rfl, h1, h2⟩; have H1 := Lib.hid h1; have H2 := Lib.hid h2; clear h1 h2; refine Hid.out ?_)
      cases r with
      | true =>
        refine Lib.hid ?_
        go_wp2_with fail
        go_roundw
        case rel => exact ⟨k + 1, by omega, by go_num, H1.out rfl⟩
        case measure => simp [intOf]; omega
      | false =>
        refine Lib.hid ?_
        go_wp2_with fail
        try simp only [Exit.inBlock, Exit.then]
        refine bodyPost_ret (results_none rfl _ _ _) rfl ?_
        exact ⟨rfl, H2.out (by simp)⟩
    · obtain rfl : k = L.length := by omega
      have HJ := Lib.hid (HE.out _ HI.out)
      go_wp2_with fail
      go_end0
      exact ⟨rfl, HJ.out⟩
#print axioms all_run
end Go.Proofs.Ytbmedekfhifcpaa.Ident
