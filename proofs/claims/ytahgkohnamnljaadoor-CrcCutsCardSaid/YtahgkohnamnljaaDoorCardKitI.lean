/- For the frames of the laws of layer 9: the laid table; slices of bytes, and slices of such slices, that came in. -/
import Derived.Test.YtahgkohnamnljaaDoorLawKit
import Derived.Test.YtahgkohnamnljaaDoorCrcE
import Derived.Test.YtahgkohnamnljaaDoorCrcD
import Derived.Test.YtahgkohnamnljaaDoorWireY
import Derived.Test.YtahgkohnamnljaaDoorTie
import Derived.Test.YtahgkohnamnljaaDoorCards
import Derived.Deep.Strs
import Derived.LaidMore
import Derived.Stop.Joined
import Derived.Stop.LaidErr
import Derived.Lib.LaidTab
import Derived.SevenTiedAt
namespace Go.Proofs.YtahgkohnamnljaaDoor
open Go Go.ChangeShapes Go.WideShapes Go.RowKit Go.Joins
set_option linter.unusedVariables false
set_option maxRecDepth 100000

theorem tTab : (Tryd.prog.globals[0]?).map (·.type) = some 47 := by kernel_rfl
theorem tabData : (Rows.laid_papermill_crc_steps : DataW Unit) = Lib.tabData .u32 Crc.steps := by kernel_rfl
/-- The door's own heap meets the condition. -/
theorem door_met (os : Os) (args : Array Value) : laidMetH Tryd.prog Rows.crcSumsRow.laid ((World.doorLaid Tryd.prog 700 os).forCall (fun _ _ => 0) ⟨#[], args, []⟩).memory :=
  laidMetH_of_parts3 (fuel := 8) (laidMet_of_run' 8 (by kernel_rfl) (by kernel_rfl)) (by kernel_rfl) (by kernel_rfl)
theorem tab_of_laid {W : World} (h : laidMetH Tryd.prog Rows.crcSumsRow.laid W) : Crc.Tab W := by
  rw [MakeChecks.laidMetH_plain _ _ _ (by kernel_rfl)] at h
  have h3 : laidMet Tryd.prog [("papermill/crc.steps", Rows.laid_papermill_crc_steps)] W := h
  rw [tabData] at h3
  exact Lib.tabBelow_of_tabIs (Lib.tabIs_of_head Crc.gTab tTab Tryd.underlying47 Tryd.underlying23 (by kernel_rfl) (by kernel_rfl) h3)
theorem in_of {k : IntKind} {W : World} {A : Option Addr} {n c : Nat} {zs : List Int} (h : InInts k W A n c zs) : InInts k W A n c zs := h
section
variable {H : Type} {enc : TypeId × Value → H} {w : World} {held : Bool}
theorem list_all {α : Type} {P : Nat → α → Prop} : ∀ n, (∀ i, i < n → ∃ s, P i s) → ∃ L : List α, L.length = n ∧ ∀ (i : Nat) (s : α), L[i]? = some s → P i s := by
  intro n
  induction n with
  | zero => intro _; exact ⟨[], rfl, fun i s hs => by simp at hs⟩
  | succ n ih =>
    intro h
    obtain ⟨L, hl, hL⟩ := ih fun i hi => h i (by omega)
    obtain ⟨t, ht⟩ := h n (by omega)
    refine ⟨L ++ [t], by simp [hl], fun i u hu => ?_⟩
    have hlt := Wire.lt_get hu
    rw [List.length_append, List.length_singleton] at hlt
    rcases Nat.lt_or_ge i L.length with h1 | h1
    · rw [List.getElem?_append_left h1] at hu; exact hL i u hu
    · obtain rfl : i = n := by omega
      rw [List.getElem?_append_right h1, hl, Nat.sub_self] at hu
      obtain rfl : t = u := by simpa using hu
      exact ht
/-- A slice of slices of bytes that came in. -/
theorem open_grds {r : Reach} {b0 : Nat} {v : Value} {d : DataW H} {p : List MemPlace} (hv : Value.okWide Tryd.prog w r b0 37 v) (h : DataW.Trod enc Tryd.prog w 0 (fun _ => true) held 37 v d p) :
    ∃ A c M, v = .slice A M.length c ∧ Crc.Grd w A M ∧ M.length ≤ 9223372036854775807 := by
  obtain ⟨A, n, c, rfl⟩ := okWide_slice Tryd.underlying37 hv
  obtain ⟨fuel, hf⟩ := h
  rcases Deep.open_slice1 Tryd.underlying37 (by kernel_rfl) hf with ⟨hcs, _⟩ | ⟨a, len, cap, m, k, V, D, Pl, hcs, _, hl, hm, hmm, _, hx⟩
  · simp [Value.cells] at hcs
    obtain ⟨rfl, rfl, rfl⟩ := hcs
    exact ⟨none, 0, [], rfl, Crc.Grd.nil _ _, by simp⟩
  · simp [Value.cells] at hcs
    obtain ⟨rfl, rfl, rfl⟩ := hcs
    have hmc : m = c := by simpa using hmm
    subst hmc
    have key : ∀ i, i < n → ∃ l : List UInt8, ∃ A' c', w.cell? (a.add i) = some (.slice A' l.length c') ∧ l.length ≤ c' ∧ c' ≤ maxLen ∧ Wire.Byt w A' l := by
      intro i hi
      obtain ⟨hc, ht⟩ := hx i (by omega)
      have hin : ∃ A' n' c' zs, V i = .slice A' n' c' ∧ InInts .u8 w A' n' c' zs := by
        rcases open_ints Tryd.underlying22 Tryd.underlying5 (by kernel_rfl) ht with ⟨hcs, _⟩ | ⟨x, l, c', zs, hcs, _, hl', hm', hz, _, hcell, hwz⟩
        · exact ⟨none, 0, 0, [], by simpa using hcs, rfl, Nat.le_refl _, by unfold maxLen; omega, by simp, by simp⟩
        · have hz' : zs.length = c' := by simpa using hz
          refine ⟨some x, l, c', zs.take l, by simpa using hcs, by simp; omega, hl', hm', fun z hz => hwz z (List.mem_of_mem_take hz), fun j z hj => ?_⟩
          have hjn : j < l := by
            rcases Nat.lt_or_ge j l with h1 | h1
            · exact h1
            · rw [List.getElem?_take, if_neg (by omega)] at hj; cases hj
          rw [List.getElem?_take, if_pos hjn] at hj
          obtain ⟨b, off, rfl, hcb⟩ := ints_at hcell (by omega)
          have hci := hcb j (by omega)
          have ez : zs.getD j 0 = z := by rw [List.getD_eq_getElem?_getD, hj]; rfl
          rw [ez] at hci
          exact ⟨b, off, rfl, World.block_lt_of_cell? w _ hci, hci⟩
      obtain ⟨A', n', c', zs, e, hz⟩ := hin
      obtain ⟨l, rfl, _, _, e2, h1, h2, h3⟩ := Wire.in_y hz
      cases e2
      exact ⟨l, A', c', by rw [hc, e], h1, h2, h3⟩
    obtain ⟨M, rfl, hM⟩ := list_all n key
    refine ⟨some a, m, M, rfl, fun k l hk => ?_, by unfold maxLen at hm; omega⟩
    obtain ⟨A', c', hc, h1, h2, h3⟩ := hM k l hk
    obtain ⟨b, off, spot⟩ := a
    obtain ⟨_, _, h0, _⟩ := hM 0 _ (List.getElem?_eq_getElem (Nat.lt_of_le_of_lt (Nat.zero_le k) (Wire.lt_get hk)))
    have e : ∀ x : Addr, x.add 0 = x := fun x => by unfold Addr.add; rw [if_pos rfl]
    rw [e] at h0
    have hspot : spot = none := World.cell?_spot h0
    subst hspot
    rw [Addr.add_lit] at hc
    exact ⟨b, off, rfl, World.block_lt_of_cell? w _ hc, A', c', hc, h1, h2, h3⟩
end
#print axioms tab_of_laid
#print axioms open_grds
end Go.Proofs.YtahgkohnamnljaaDoor
