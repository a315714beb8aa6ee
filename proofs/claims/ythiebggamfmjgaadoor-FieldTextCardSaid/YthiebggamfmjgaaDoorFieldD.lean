/- Slices of strings in memory; contracts of Join of the program and of the reference. -/
import Derived.Test.YthiebggamfmjgaaDoorFieldC
namespace Go.Proofs.YthiebggamfmjgaaDoor.Field
open Go.ChangeShapes Go.WideShapes Go.RowKit
set_option linter.unusedVariables false
set_option maxRecDepth 100000

/-! ### Slices of strings -/
/-- At the address lie the strings L. -/
def Strs (w : World) (A : Option Addr) (L : List ByteArray) : Prop :=
  ∀ (k : Nat) (s : ByteArray), L[k]? = some s → ∃ b off, A = some ⟨b, off, none⟩ ∧ b < w.heap.size ∧ w.cell? ⟨b, off + k, none⟩ = some (.string s)
def Siz (L : List ByteArray) : Prop := ∀ s ∈ L, s.size ≤ maxLen
theorem max_small {n : Nat} (h : n ≤ maxLen) : n ≤ 9223372036854775807 := by unfold maxLen at h; omega
theorem Siz.at_ {L : List ByteArray} (h : Siz L) {k : Nat} {s : ByteArray} (hk : L[k]? = some s) : s.size ≤ 9223372036854775807 ∧ s.size ≤ maxLen := by
  have := h s (List.mem_of_getElem? hk)
  exact ⟨max_small this, this⟩
theorem Strs.nil (w : World) (A : Option Addr) : Strs w A [] := fun k s h => by simp at h
theorem Strs.keep {w w' : World} {A : Option Addr} {L : List ByteArray} (h : Strs w A L) (hs : w.heap.size ≤ w'.heap.size) (hk : ∀ b off, A = some ⟨b, off, none⟩ → b < w.heap.size → w'.heap[b]? = w.heap[b]?) : Strs w' A L := by
  intro k s hl
  obtain ⟨b, off, e, hlt, hc⟩ := h k s hl
  exact ⟨b, off, e, by omega, (World.cell?_of_block (a := ⟨b, off + k, none⟩) (hk b off e hlt)).trans hc⟩
theorem Strs.on {w w' : World} {A : Option Addr} {L : List ByteArray} (h : Strs w A L) (hb : Below w.heap.size w w') : Strs w' A L := h.keep hb.size fun b _ _ hlt => hb.block b hlt
/-- A slice of the call's own that holds the strings L: its block is B or behind it. -/
def OwnS (B : Nat) (w : World) (v : Value) (L : List ByteArray) : Prop := w.ownsRow B 9 1 v L.length (L.map Value.string)
theorem OwnS.nil (B : Nat) (w : World) : OwnS B w (.slice none 0 0) [] := World.ownsRow_nil _ _ _ _
theorem OwnS.open_ {B : Nat} {w : World} {v : Value} {L : List ByteArray} (h : OwnS B w v L) :
    (v = .slice none 0 0 ∧ L = []) ∨ (∃ g c, v = .slice (some ⟨g, 0, none⟩) L.length c ∧ L.length ≤ c ∧ c ≤ maxLen ∧ Strs w (some ⟨g, 0, none⟩) L ∧ g < w.heap.size ∧ B ≤ g) := by
  obtain ⟨h1, ⟨rfl, h2⟩ | ⟨g, cap, cur, rfl, h2, h3, h4, h5, h6, h7⟩⟩ := h
  · exact Or.inl ⟨rfl, List.eq_nil_of_length_eq_zero h2⟩
  · refine Or.inr ⟨g, cap, rfl, h4, h5, fun k z hz => ⟨g, 0, rfl, (Array.getElem?_eq_some_iff.mp h3).1, ?_⟩, (Array.getElem?_eq_some_iff.mp h3).1, h2⟩
    rw [cell_of_row w g _ cur _ (0, 0) h3, Nat.zero_add]
    have hu : (cur.toList.take (L.length * 1))[k]? = some (.string z) := by rw [h7, List.getElem?_map, hz]; rfl
    rw [List.getElem?_take] at hu
    split at hu
    · simpa using hu
    · cases hu
/-- Its value, in one form. -/
theorem OwnS.one {B : Nat} {w : World} {v : Value} {L : List ByteArray} (h : OwnS B w v L) : ∃ A c, v = .slice A L.length c ∧ L.length ≤ c ∧ c ≤ maxLen ∧ Strs w A L ∧ (∀ a, A = some a → a.spot = none ∧ a.off = 0 ∧ B ≤ a.block ∧ a.block < w.heap.size) ∧ v.ownBlock = A.map (·.block) := by
  rcases h.open_ with ⟨rfl, rfl⟩ | ⟨g, c, rfl, h1, h2, h3, h4, h5⟩
  · exact ⟨none, 0, rfl, Nat.le_refl _, by unfold maxLen; omega, Strs.nil _ _, by simp, rfl⟩
  · exact ⟨_, c, rfl, h1, h2, h3, fun a e => by cases e; exact ⟨rfl, rfl, h5, h4⟩, rfl⟩
theorem OwnS.keep {B : Nat} {w w' : World} {v : Value} {L : List ByteArray} (h : OwnS B w v L) (hk : ∀ k, v.ownBlock = some k → w'.heap[k]? = w.heap[k]?) : OwnS B w' v L := by
  obtain ⟨h1, h0 | ⟨g, cap, cur, rfl, h2, h3, h4⟩⟩ := h
  · exact ⟨h1, Or.inl h0⟩
  · exact ⟨h1, Or.inr ⟨g, cap, cur, rfl, h2, (hk g rfl).trans h3, h4⟩⟩
theorem OwnS.lt {B : Nat} {w : World} {v : Value} {L : List ByteArray} (h : OwnS B w v L) : ∀ k, v.ownBlock = some k → k < w.heap.size := fun k hk => (World.ownsRow.lt h k hk).2
theorem OwnS.ge {B : Nat} {w : World} {v : Value} {L : List ByteArray} (h : OwnS B w v L) : ∀ k, v.ownBlock = some k → B ≤ k := fun k hk => (World.ownsRow.lt h k hk).1
theorem OwnS.alloc {B : Nat} {w : World} {v : Value} {L : List ByteArray} (h : OwnS B w v L) (o : Obj) : OwnS B (w.alloc o) v L := World.ownsRow.alloc h o
theorem OwnS.on {B : Nat} {w w' : World} {v : Value} {L : List ByteArray} (h : OwnS B w v L) (hb : Below w.heap.size w w') : OwnS B w' v L := h.keep fun k hk => hb.block k (h.lt k hk)
theorem info_string : (Tryd.prog.info? 9).map (fun i => (i.zero, i.size, i.bytes)) = some (some (.string ByteArray.empty), 1, 16) := by kernel_rfl
theorem cells_strs {L : List ByteArray} : ∀ u ∈ L.map Value.string, u.oneCell' = true := by
  intro u hu
  obtain ⟨z, _, rfl⟩ := List.mem_map.mp hu
  rfl
/-- 'append(s, x)', x a string in a block of its own. -/
theorem append_str {w : World} {ops : Array Oper} {rest : List Oper} {o : Oper} {a : Act} {Q : Exit → Act → World → Prop} (hgd : o.guard = none) (s x : Operand)
    (ho : o.op = .call { callee := .builtin .append, args := #[s, x], argTypes := #[22, 22] })
    (B : Nat) (v : Value) (L : List ByteArray) (hs : a.eval s = v) (hown : OwnS B w v L) (g c : Nat) (t : ByteArray) (hx : a.eval x = .slice (some ⟨g, 0, none⟩) 1 c) (hz : w.cell? ⟨g, 0, none⟩ = some (.string t))
    (hlen : L.length + 1 ≤ 1000000) (hB : B ≤ w.heap.size)
    (h : ∀ v' w', OwnS B w' v' (L ++ [t]) → w.grownBy w' v.ownBlock → (v'.ownBlock = v.ownBlock ∨ v'.ownBlock = some w.heap.size) → wpList Tryd.prog ops Q rest (a.put o.dst v') w') : wpList Tryd.prog ops Q (o :: rest) a w := by
  obtain ⟨i0, hi0, hz0, hz1, hz2⟩ := info_parts info_string
  refine wpList_append_own_at w hgd s x _ ho B 9 i0 (.string ByteArray.empty) 1 16 Tryd.underlying22 hi0 hz0 hz1 hz2 rfl (by decide) v L.length _ hs hown ⟨g, 0, none⟩ 1 c [.string t] hx rfl ?_ (by intro u hu; simp at hu; subst hu; rfl) (by unfold maxLen; omega) (by omega) hB ?_
  · intro j u hj
    match j, hj with
    | 0, hj => simp at hj; subst hj; rw [Addr.add_lit]; exact hz
  · intro v' w' hown' hg _ hat
    exact h v' w' (by unfold OwnS; rw [List.length_append, List.map_append]; exact hown') hg hat
theorem str_one (w : World) (s : ByteArray) (t : TypeId) {g : Nat} (hg : w.heap.size = g) : (w.alloc (.cells #[.string s] t)).cell? ⟨g, 0, none⟩ = some (.string s) := by subst hg; simp
theorem ownS_below {B : Nat} {w w' : World} {v : Value} {L : List ByteArray} (h : OwnS B w v L) (hg : w.grownBy w' v.ownBlock) (hB : B ≤ w.heap.size) : Below B w w' :=
  ⟨hg.os, hg.tape, hg.output, hg.size, fun i hi => hg.block i (Nat.lt_of_lt_of_le hi hB) fun e => by have := h.ge i e.symm; omega⟩
theorem ret_two {k : IntKind} {s s' : ByteArray} {a b : Int} (h : s = s') (h2 : a = b) : Ending.returned (.tuple #[.string s, .int k a]) = .returned (.tuple #[.string s', .int k b]) := by rw [h, h2]

/-! ### Join of the program -/
/-- What holds when k fields are done. -/
structure JInv (M : List (List UInt8)) (k : Nat) (cur : List UInt8) : Prop where
  f : fstE (M.take k) = 0
  len : cur.length ≤ 1600
  is : cur = lineL (M.take k) ∨ (1024 < cur.length ∧ 1024 < (lineL M).length)
theorem JInv.start (M : List (List UInt8)) : JInv M 0 [] := ⟨rfl, by simp, Or.inl rfl⟩
theorem JInv.bad {M : List (List UInt8)} {k : Nat} {cur x : List UInt8} (h : JInv M k cur) (hx : M[k]? = some x) (hb : fldE x ≠ 0) : joinE M = fldE x ∧ joinL M = [] := by
  have e := fstE_at h.f hx hb
  have e2 : joinE M = fldE x := by rw [joinE_first (by rw [e]; exact hb), e]
  exact ⟨e2, by unfold joinL; rw [e2, if_neg hb]⟩
theorem JInv.skip {M : List (List UInt8)} {k : Nat} {cur x : List UInt8} (h : JInv M k cur) (hx : M[k]? = some x) (hb : fldE x = 0) (hl : 1024 < cur.length) : JInv M (k + 1) cur := by
  refine ⟨fstE_next h.f hx hb, h.len, Or.inr ⟨hl, ?_⟩⟩
  rcases h.is with e | e
  · have := lineL_take M k
    rw [← e] at this; omega
  · exact e.2
theorem line_next {M : List (List UInt8)} {k : Nat} {x : List UInt8} (hx : M[k]? = some x) : lineL (M.take (k + 1)) = if k = 0 then formL x else lineL (M.take k) ++ 32 :: formL x := by
  rw [take_snoc_of hx]
  split
  · next h => subst h; rw [List.take_zero, List.nil_append, lineL_one]
  · next h => exact lineL_snoc (fun e => by have h1 := lt_get hx; have h2 := congrArg List.length e; rw [List.length_take, Nat.min_eq_left (by omega)] at h2; exact h h2) x
theorem JInv.next {M : List (List UInt8)} {k : Nat} {cur x cur' : List UInt8} (h : JInv M k cur) (hx : M[k]? = some x) (hb : fldE x = 0) (hl : ¬ 1024 < cur.length) (hc : cur' = if k = 0 then cur ++ formL x else cur ++ [32] ++ formL x) : JInv M (k + 1) cur' := by
  have e : cur = lineL (M.take k) := by
    rcases h.is with e | e
    · exact e
    · exact absurd e.1 hl
  have hf := formL_len x
  have hx2 := (fldE_ok.mp hb).1
  refine ⟨fstE_next h.f hx hb, ?_, Or.inl ?_⟩
  · rw [hc]; split
    · rw [List.length_append]; omega
    · simp; omega
  · rw [hc, line_next hx]
    split
    · next h0 => rw [e, h0]; simp [lineL]
    · rw [e]; simp
theorem JInv.full {M : List (List UInt8)} {cur : List UInt8} (h : JInv M M.length cur) (hl : 1024 < cur.length) : joinE M = 8 ∧ joinL M = [] := by
  have h1 := h.f
  rw [List.take_length] at h1
  have h2 : 1024 < (lineL M).length := by
    rcases h.is with e | e
    · rw [e, List.take_length] at hl; exact hl
    · exact e.2
  have e2 : joinE M = 8 := by rw [joinE_line h1, if_pos h2]
  exact ⟨e2, by unfold joinL; rw [e2]; rfl⟩
theorem JInv.done {M : List (List UInt8)} {cur : List UInt8} (h : JInv M M.length cur) (hl : ¬ 1024 < cur.length) : joinE M = 0 ∧ joinL M = cur := by
  have h1 := h.f
  rw [List.take_length] at h1
  have e : cur = lineL M := by
    rcases h.is with e | e
    · rw [e, List.take_length]
    · exact absurd e.1 hl
  have e2 : joinE M = 0 := by rw [joinE_line h1, if_neg (by rw [← e]; exact hl)]
  exact ⟨e2, by unfold joinL; rw [e2, e]; rfl⟩
theorem fldE_big {s : ByteArray} (h : 256 < s.size) : fldE s.data.toList = 8 := by unfold fldE; rw [str_len, if_pos h]
theorem fldE_text {s : ByteArray} {b : Bool} (h : ¬ 256 < s.size) (hb : okS s = b) : fldE s.data.toList = if b then 0 else 3 := by
  unfold fldE; rw [str_len, if_neg h, (show s.data.toList.all okB = b from hb)]

set_option maxHeartbeats 3200000 in
theorem field_Join (L : List ByteArray) (A : Option Addr) (c : Nat) (w : World) (hA : Strs w A L) (hz : Siz L) (hm : L.length ≤ 9223372036854775807) :
    Calls Tryd.prog 14 #[.slice A L.length c] w fun e w' => e = .returned (.tuple #[.string (bs (joinL (LL L))), .int .i64 (joinE (LL L))]) ∧ Below w.heap.size w w' := by
  have HA := Lib.hid hA
  have HZ := Lib.hid hz
  clear hA hz
  go_enter Tryd.func14, Tryd.ntmps14
  go_wp2_with fail
  go_loopw [4, 9] (fun v i wr => ∃ (k : Nat) (cur : List UInt8), k ≤ L.length ∧ i = .int .i64 k ∧ JInv (LL L) k cur ∧ OwnY w.heap.size wr v cur ∧ Below w.heap.size w wr) (fun _ i _ => L.length - (intOf i).toNat)
  case atStart => exact ⟨0, [], Nat.zero_le _, rfl, JInv.start _, OwnY.nil _ _, Below.refl _ _⟩
  case round =>
    obtain ⟨k, cur, hk, rfl, hj, hown, hbel⟩ := hrel
    obtain ⟨Av, cv, rfl, hv1, hv2⟩ := hown.len
    have hcl : cur.length ≤ 9223372036854775807 := by have := hj.len; omega
    have HJ := Lib.hid hj
    have HO := Lib.hid hown
    have HB := Lib.hid hbel
    have HBR : Hid (w.heap.size ≤ wr.heap.size) := hbel.size
    rcases Nat.lt_or_ge k L.length with hlt | hge
    · obtain ⟨s, hs⟩ := get_lt hlt
      have hms := (HZ.out.at_ hs).1
      obtain ⟨b, off, rfl, hb, hc⟩ := HA.out.on hbel k s hs
      have HX := Lib.hid (LL_get hs)
      clear hs hj hown hbel
      by_cases h256 : 256 < s.size
      · have i1 : (256 : Int) < (s.size : Int) := by omega
        have HE := Lib.hid (HJ.out.bad HX.out (by rw [fldE_big h256]; decide))
        have HF := Lib.hid (fldE_big h256)
        clear h256
        go_wp2_with fail
        go_ret2
        exact ⟨ret_two (by rw [HE.out.2]; rfl) (by rw [HE.out.1, HF.out]), HB.out⟩
      · have i1 : decide ((256 : Int) < (s.size : Int)) = false := decide_eq_false (by omega)
        cases hok : okS s with
        | false =>
          have HC := Lib.hid (text_is hok hms wr)
          have HF := Lib.hid (fldE_text h256 hok)
          have HE := Lib.hid (HJ.out.bad HX.out (by rw [HF.out]; decide))
          clear h256 hok
          go_wp2_with fail
          refine HC.out.mono ?_
          rintro e1 w1 ⟨rfl, rfl⟩
          go_wp2_with fail
          go_ret2
          exact ⟨ret_two (by rw [HE.out.2]; rfl) (by rw [HE.out.1, HF.out]; rfl), HB.out⟩
        | true =>
          have HC := Lib.hid (text_is hok hms wr)
          have HF : Hid (fldE s.data.toList = 0) := by have := fldE_text h256 hok; exact this
          have HOK := Lib.hid hok
          have HS5 : Hid (s.size ≤ 5000) := show s.size ≤ 5000 by omega
          clear h256 hok
          by_cases hfull : 1024 < cur.length
          · have i2 : (1024 : Int) < (cur.length : Int) := by omega
            have HN := Lib.hid (HJ.out.skip HX.out HF.out hfull)
            clear hfull
            go_wp2_with fail
            refine HC.out.mono ?_
            rintro e1 w1 ⟨rfl, rfl⟩
            go_wp2_with fail
            go_roundw
            case rel => exact ⟨k + 1, cur, by omega, by go_num, HN.out, HO.out, HB.out⟩
            case measure => simp [intOf]; omega
          · have i2 : decide ((1024 : Int) < (cur.length : Int)) = false := decide_eq_false (by omega)
            have hc2 : cur.length ≤ 1024 := by omega
            rcases Nat.eq_zero_or_pos k with h0 | h0
            · have i3 : decide (0 < k) = false := decide_eq_false (by omega)
              have HN := Lib.hid (HJ.out.next (cur' := cur ++ formL (ls s)) HX.out HF.out hfull (by rw [if_pos h0]; rfl))
              clear h0
              have HCF := Lib.hid (field_appendForm w.heap.size (.slice Av cur.length cv) cur s wr HO.out HBR.out HOK.out (by omega) HS5.out)
              clear hfull
              go_wp2_with fail
              refine HC.out.mono ?_
              rintro e1 w1 ⟨rfl, rfl⟩
              go_wp2_with fail
              refine HCF.out.mono ?_
              rintro e1 w1 ⟨v1, rfl, ho1, hb1⟩
              have HO1 := Lib.hid ho1
              have HB1 := Lib.hid hb1
              clear ho1 hb1
              go_wp2_with fail
              go_roundw
              case rel => exact ⟨k + 1, _, by omega, by go_num, HN.out, HO1.out, HB.out.trans HB1.out⟩
              case measure => simp [intOf]; omega
            · have i3 : decide (0 < k) = true := decide_eq_true h0
              have HN := Lib.hid (HJ.out.next (cur' := cur ++ [32] ++ formL (ls s)) HX.out HF.out hfull (by rw [if_neg (by omega)]; rfl))
              have HLN : Hid ((cur ++ [32]).length ≤ 5000) := show _ ≤ _ by simp; omega
              clear hfull
              go_wp2_with fail
              refine HC.out.mono ?_
              rintro e1 w1 ⟨rfl, rfl⟩
              go_wp2_with (at_builtin; refine append_byte rfl _ _ rfl w.heap.size _ cur rfl (HO.out.alloc _) wr.heap.size 1 32 32 rfl rfl (byte_one _ _ _ rfl) (by omega) (by simp; have := HBR.out; omega) ?_; intro v1 w2 hown2 hg2 _; refine Hid.out ?_)
              refine Lib.hid ?_
              have HO3 := Lib.hid hown2
              have HB3 := Lib.hid ((below_alloc wr _).mono HBR.out |>.trans (own_below (HO.out.alloc _) hg2 (Nat.le_trans HBR.out (below_alloc wr _).size)))
              have HCF := Lib.hid (field_appendForm w.heap.size v1 (cur ++ [32]) s w2 hown2 (Nat.le_trans HBR.out HB3.out.size) HOK.out HLN.out HS5.out)
              clear hown2 hg2
              go_wp2_with fail
              refine HCF.out.mono ?_
              rintro e1 w1 ⟨v2, rfl, ho1, hb1⟩
              have HO1 := Lib.hid ho1
              have HB1 := Lib.hid hb1
              clear ho1 hb1
              go_wp2_with fail
              go_roundw
              case rel => exact ⟨k + 1, _, by omega, by go_num, HN.out, HO1.out, HB.out.trans (HB3.out.trans HB1.out)⟩
              case measure => simp [intOf]; omega
    · obtain rfl : k = L.length := by omega
      rw [← LL_len L] at hj
      by_cases hfull : 1024 < cur.length
      · have i2 : (1024 : Int) < (cur.length : Int) := by omega
        have HE := Lib.hid (hj.full hfull)
        clear hfull hj hown hbel
        go_wp2_with fail
        go_ret2
        exact ⟨ret_two (by rw [HE.out.2]; rfl) HE.out.1.symm, HB.out⟩
      · have i2 : decide ((1024 : Int) < (cur.length : Int)) = false := decide_eq_false (by omega)
        have HE := Lib.hid (hj.done hfull)
        have hcv := hown.conv
        clear hfull hj hown hbel
        go_wp2_with fail
        go_ret2
        exact ⟨ret_two (by rw [HE.out.2]) HE.out.1.symm, HB.out⟩
#print axioms field_Join
end Go.Proofs.YthiebggamfmjgaaDoor.Field
