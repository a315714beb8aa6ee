/- Contracts of PutText of the program, and of PutText and Same of the reference. -/
import Derived.Test.YtahgkohnamnljaaDoorWireC
namespace Go.Proofs.YtahgkohnamnljaaDoor.Wire
open Go.ChangeShapes Go.WideShapes Go.RowKit
set_option linter.unusedVariables false
set_option maxRecDepth 100000

theorem wire_PutText (v : Value) (l : List UInt8) (s : ByteArray) (w : World) (hv : InY w v l) (hl : l.length ≤ 100000) (hs : s.size ≤ 100000) :
    Calls Tryd.prog 26 #[v, .string s] w (Puts w (l ++ encT (ls s))) := by
  obtain ⟨A, c, rfl, hc, _, hb⟩ := hv
  have HB := Lib.hid hb
  have HT : Hid (encT (ls s) = encI (s.size : Int) ++ ls s) := by show _ = _; unfold encT; rw [ls_len]
  have HI : Hid (isI (s.size : Int)) := len_isI (by omega)
  have HL : Hid ((encI (s.size : Int)).length ≤ 10) := encI_ten HI.out
  clear hb
  go_enter Tryd.func26, Tryd.ntmps26
  go_wp2_with fail
  refine (wire_room A l.length c hc w (by omega)).mono ?_
  rintro e w1 ⟨rfl, rfl⟩
  go_wp2_with fail
  refine (wire_appendInt w.heap.size _ l s.size w HI.out (Or.inl ⟨A, rfl, HB.out⟩) (Nat.le_refl _) hl).mono ?_
  rintro e w1 ⟨v', rfl, ho, hbel⟩
  have HO := Lib.hid ho
  have HBL := Lib.hid hbel
  clear ho hbel
  go_wp2_with (at_builtin; refine append_text rfl _ _ rfl w.heap.size v' (l ++ encI (s.size : Int)) rfl HO.out s rfl (by have := HL.out; rw [List.length_append]; omega) HBL.out.size ?_; intro v2 w2 hown2 hb2; refine Hid.out ?_)
  refine Lib.hid ?_
  have HO2 := Lib.hid hown2
  have HB2 := Lib.hid hb2
  clear hown2 hb2
  go_wp2_with fail
  go_ret
  exact ⟨v2, rfl, by rw [HT.out, ← List.append_assoc]; exact HO2.out, HBL.out.trans HB2.out⟩

#print axioms wire_PutText
end Go.Proofs.YtahgkohnamnljaaDoor.Wire
