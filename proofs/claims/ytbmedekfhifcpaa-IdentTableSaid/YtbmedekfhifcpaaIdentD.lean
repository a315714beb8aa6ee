/- Contracts of the methods Add, Find, Name, Len of ident. -/
import Derived.Test.YtbmedekfhifcpaaIdentC
namespace Go.Proofs.Ytbmedekfhifcpaa.Ident
open Go.ChangeShapes Go.WideShapes Go.RowKit Go.Lib
set_option linter.unusedVariables false
set_option maxRecDepth 100000

theorem key_of {s : ByteArray} (hs : s.size ≤ maxLen) : keyOf Try.prog 9 (.string s) = some (key s) := WideMaps.keyOf_string_mk Try.underlying9 hs
theorem wf_nat {n : Nat} (h : n ≤ 512) : (Lit.int .i64 (n : Int)).wf = true := WalkArith.wf_i64 (by omega)
theorem max_small {n : Nat} (h : n ≤ maxLen) : n ≤ 9223372036854775807 := by unfold maxLen at h; omega
theorem ret_two {k : IntKind} {a b c d : Int} (h : a = c) (h' : b = d) : Ending.returned (.tuple #[.int .i64 a, .int k b]) = .returned (.tuple #[.int .i64 c, .int k d]) := by rw [h, h']
theorem ret_fnd {a c : Int} {b d : Bool} (h : a = c) (h' : b = d) : Ending.returned (.tuple #[.int .i64 a, .bool b]) = .returned (.tuple #[.int .i64 c, .bool d]) := by rw [h, h']

/-- The table of one name more. -/
theorem Tb.more {w w1 w2 : World} {b bm c : Nat} {S : Nat → Prop} {L : List ByteArray} {A : Option Addr} {D : DataW Unit} {v' : Value} {s : ByteArray}
    (h : Tb w b S L) (hb : w.heap[b]? = some (.cells #[.slice A L.length c, .map (some bm)] 62 (0, 0))) (hD : Dct D L) (hbm : S bm) (hne : b ≠ bm)
    (hrow : ∀ g, (Value.slice A L.length c).ownBlock = some g → S g ∧ g ≠ b ∧ g ≠ bm) (hz : addE L s = 0)
    (hown1 : w1.ownsMap Try.prog 9 (plainElem Try.prog 3) bm (L.length + 1) (D.put (key s) (.lit (.int .i64 (L.length : Int))))) (hg1 : w.grownBy w1 (some bm))
    (T : TypeId) (hown2 : OwnS w2 v' (L ++ [s])) (hg2 : (w1.alloc (.cells #[.string s] T)).grownBy w2 (Value.slice A L.length c).ownBlock)
    (hat : v'.ownBlock = (Value.slice A L.length c).ownBlock ∨ v'.ownBlock = some (w1.alloc (.cells #[.string s] T)).heap.size) :
    Adds w b S (L ++ [s]) (w2.setCell ⟨b, 0, none⟩ v') := by
  obtain ⟨e1, e2, e3⟩ := addE_zero hz
  have hlt : b < w.heap.size := h.lt b h.sb
  have hs1 := hg1.size
  have hs2 : w1.heap.size + 1 ≤ w2.heap.size := by have := hg2.size; simpa using this
  have hblt : ∀ g, (Value.slice A L.length c).ownBlock = some g → g < w.heap.size := fun g hg => h.lt g (hrow g hg).1
  have kb : w2.heap[b]? = w.heap[b]? := by
    rw [hg2.block b (by simp; omega) fun e => (hrow b e.symm).2.1 rfl, Below.heap_alloc _ _ _ (by omega), hg1.block b hlt fun e => hne (by cases e; rfl)]
  have kbm : w2.heap[bm]? = w1.heap[bm]? := by
    have := h.lt bm hbm
    rw [hg2.block bm (by simp; omega) fun e => (hrow bm e.symm).2.2 rfl, Below.heap_alloc _ _ _ (by omega)]
  have hv' : ∀ g, v'.ownBlock = some g → (S g ∧ g < w.heap.size ∨ w.heap.size ≤ g) ∧ g ≠ b ∧ g ≠ bm := fun g hg => by
    rcases hat with e | e
    · rw [e] at hg; exact ⟨Or.inl ⟨(hrow g hg).1, hblt g hg⟩, (hrow g hg).2⟩
    · rw [e] at hg; cases hg
      have := h.lt bm hbm
      simp
      omega
  refine ⟨fun k => S k ∨ v'.ownBlock = some k, ⟨?_, Or.inl h.sb, ?_, bm, v', _, ?_, ?_, by rw [List.length_append, List.length_singleton]; exact map_keep hown1 ((Below.heap_setCell _ _ _ _ hne.symm).trans kbm), ?_, Or.inl hbm, hne, ?_⟩, ?_, ?_⟩
  · exact h.good.snoc e1 (fndB_no e2) e3
  · intro k hk
    have hsz : (w2.setCell ⟨b, 0, none⟩ v').heap.size = w2.heap.size := by simp [World.setCell]
    rw [hsz]
    rcases hk with hk | hk
    · have := h.lt k hk; omega
    · exact hown2.lt k hk
  · rw [heap_setCell_same w2 b 0 _ _ _ (kb.trans hb)]; rfl
  · exact hown2.keep fun k hk => Below.heap_setCell _ _ _ _ (hv' k hk).2.1
  · exact hD.snoc (fndB_no e2)
  · intro g hg
    exact ⟨Or.inr hg, (hv' g hg).2⟩
  · intro k hk
    rcases hk with hk | hk
    · exact Or.inl hk
    · rcases (hv' k hk).1 with h1 | h1
      · exact Or.inl h1.1
      · exact Or.inr h1
  · refine ((((Off.refl S w).grown hg1 fun k e => ?_).alloc _).grown hg2 fun k e => ?_).set (Or.inl h.sb) _
    · cases e; exact Or.inl hbm
    · exact Or.inl (hrow k e).1

set_option maxHeartbeats 1600000 in
theorem ident_Add {b : Nat} {S : Nat → Prop} {L : List ByteArray} {s : ByteArray} {w : World} (ht : Tb w b S L) (hs : s.size ≤ maxLen) :
    Calls Try.prog 16 #[.pointer (some ⟨b, 0, none⟩), .string s] w fun e w' => e = .returned (.tuple #[.int .i64 (addI L s), .int .i64 (addE L s)]) ∧ Adds w b S (addL L s) w' := by
  obtain ⟨A, c, bm, D, c0, c1, f0, hown, hstr, hmap, hD, hb, hbm, hne, hrow⟩ := ht.reads
  have hm := max_small hs
  have hlen := ht.good.len
  have HT := Lib.hid ht
  have HO := Lib.hid hown
  have HM := Lib.hid hmap
  have HD := Lib.hid hD
  have HB := Lib.hid hb
  have HR := Lib.hid hrow
  have HBM := Lib.hid hbm
  have HNE := Lib.hid hne
  have HK := Lib.hid (key_of hs)
  clear ht hstr hown hmap hD hb hrow hs
  cases hv : validB s with
  | false =>
    have HC := valid_is hv hm w
    have HE := Lib.hid (addE_bad (L := L) hv)
    clear hv
    go_enter Try.func16, Try.ntmps16
    go_wp2_with fail
    refine HC.mono ?_
    rintro e w' ⟨rfl, rfl⟩
    go_wp2_with fail
    go_ret2
    obtain ⟨n1, n2⟩ := add_no (L := L) (s := s) (by rw [HE.out]; decide)
    exact ⟨ret_two n1.symm HE.out.symm, by rw [n2]; exact HT.out.stay⟩
  | true =>
    have HC := valid_is hv hm w
    cases hf : fndB s L with
    | true =>
      have HE := Lib.hid (addE_twice hv hf)
      have hh : Maps.has D (key s) = true := (HD.out.has s).trans hf
      clear hv hf
      go_enter Try.func16, Try.ntmps16
      go_wp2_with fail
      refine HC.mono ?_
      rintro e w' ⟨rfl, rfl⟩
      go_wp2_with (first
        | (at_lookup; refine wpList_lookup_own_ok_int _ rfl _ _ 60 rfl 9 3 .i64 law_string Try.underlying60 Try.underlying3 (zero_int _) bm L.length D rfl HM.out _ _ rfl HK.out ?_; intro cc hat hwc)
        | fail)
      go_ret2
      obtain ⟨n1, n2⟩ := add_no (L := L) (s := s) (by rw [HE.out]; decide)
      exact ⟨ret_two n1.symm HE.out.symm, by rw [n2]; exact HT.out.stay⟩
    | false =>
      have hh : Maps.has D (key s) = false := (HD.out.has s).trans hf
      by_cases h5 : L.length = 512
      · have HE := Lib.hid (addE_full hv hf h5)
        have h5' : ((L.length : Int) == 512) = true := by simp [h5]
        clear hv hf h5
        go_enter Try.func16, Try.ntmps16
        go_wp2_with fail
        refine HC.mono ?_
        rintro e w' ⟨rfl, rfl⟩
        go_wp2_with (first
          | (at_lookup; refine wpList_lookup_own_ok_int _ rfl _ _ 60 rfl 9 3 .i64 law_string Try.underlying60 Try.underlying3 (zero_int _) bm L.length D rfl HM.out _ _ rfl HK.out ?_; intro cc hat hwc)
          | fail)
        go_ret2
        obtain ⟨n1, n2⟩ := add_no (L := L) (s := s) (by rw [HE.out]; decide)
        exact ⟨ret_two n1.symm HE.out.symm, by rw [n2]; exact HT.out.stay⟩
      · have HE := Lib.hid (addE_ok hv hf h5)
        have h5' : ((L.length : Int) == 512) = false := by simp; omega
        clear hv hf h5
        go_enter Try.func16, Try.ntmps16
        go_wp2_with fail
        refine HC.mono ?_
        rintro e w' ⟨rfl, rfl⟩
        go_wp2_with (first
          | (at_lookup; refine wpList_lookup_own_ok_int _ rfl _ _ 60 rfl 9 3 .i64 law_string Try.underlying60 Try.underlying3 (zero_int _) bm L.length D rfl HM.out _ _ rfl HK.out ?_; intro cc hat hwc)
          | (at_mapUpdate; refine wpList_mapUpdate_own _ rfl _ _ _ 60 rfl 9 3 law_string Try.underlying60 _ bm L.length D rfl HM.out (by unfold maxLen; omega) _ _ _ rfl rfl HK.out _ [] (plainElem_int Try.underlying3 (wf_nat hlen)) ?_; intro w1 hown1 hgrow1; refine Hid.out ?_)
          | fail)
        have HW1 := Lib.hid hown1
        have HG1 := Lib.hid hgrow1
        have kb : w1.heap[b]? = w.heap[b]? := hgrow1.block b (HT.out.lt b HT.out.sb) fun e => HNE.out (by cases e; rfl)
        have d0 : w1.cell? ⟨b, 0, none⟩ = some (.slice A L.length c) := (World.cell?_of_block (a := ⟨b, 0, none⟩) kb).trans c0
        have HO1 := Lib.hid (HO.out.keep fun k hk => hgrow1.block k (HO.out.lt k hk) fun e => (HR.out k hk).2.2 (by cases e; rfl))
        have KB := Lib.hid kb
        clear hown1 hgrow1 kb hat hwc
        refine Lib.hid ?_
        go_wp2_with (at_builtin; refine append_strs rfl _ _ rfl (.slice A L.length c) L rfl (HO1.out.alloc _) (some ⟨w1.heap.size, 0, none⟩) 1 [s] 1 rfl rfl (strs_one _ _ _) (by simp; omega) ?_; intro v' w2 hown2 hgrow2 hat2; refine Hid.out ?_)
        obtain ⟨A2, cp2, rfl, -, -, -, -, -⟩ := hown2.one
        rw [show (L ++ [s]).length = L.length + 1 by simp] at hown2 hat2
        have HW2 := Lib.hid hown2
        have HG2 := Lib.hid hgrow2
        have HA2 := Lib.hid hat2
        have kb2 : w2.heap[b]? = some (.cells #[.slice A L.length c, .map (some bm)] 62 (0, 0)) := by
          have hlt := HT.out.lt b HT.out.sb
          have := HG1.out.size
          rw [hgrow2.block b (by simp; omega) fun e => (HR.out b e.symm).2.1 rfl, Below.heap_alloc _ _ _ (by omega), KB.out, HB.out]
        have d1 : w2.cell? ⟨b, 0, none⟩ = some (.slice A L.length c) := by rw [cell_of_row _ _ _ _ _ _ kb2]; rfl
        have f1 : w2.frozen? ⟨b, 0, none⟩ = false := frozen_of kb2 _
        clear hown2 hgrow2 hat2 kb2
        refine Lib.hid ?_
        go_wp2_with fail
        go_ret2
        obtain ⟨n1, n2⟩ := add_yes HE.out
        refine ⟨ret_two n1.symm HE.out.symm, ?_⟩
        rw [n2]
        exact HT.out.more HB.out HD.out HBM.out HNE.out HR.out HE.out HW1.out HG1.out _ HW2.out HG2.out HA2.out
theorem ident_Add_nil (s : ByteArray) (w : World) : Calls Try.prog 16 #[.pointer none, .string s] w fun e w' => e = .returned (.tuple #[.int .i64 0, .int .i64 14]) ∧ w = w' := by
  go_enter Try.func16, Try.ntmps16
  go_wp2_with fail
  go_ret2
  exact ⟨rfl, rfl⟩

theorem ident_Find {b : Nat} {S : Nat → Prop} {L : List ByteArray} {s : ByteArray} {w : World} (ht : Tb w b S L) (hs : s.size ≤ maxLen) :
    Calls Try.prog 18 #[.pointer (some ⟨b, 0, none⟩), .string s] w fun e w' => e = .returned (.tuple #[.int .i64 (fndI s L), .bool (fndB s L)]) ∧ w = w' := by
  obtain ⟨A, c, bm, D, c0, c1, f0, hown, hstr, hmap, hD, hb, hbm, hne, hrow⟩ := ht.reads
  have HM := Lib.hid hmap
  have HD := Lib.hid hD
  have HK := Lib.hid (key_of hs)
  clear ht hstr hown hmap hD hb hrow hs
  go_enter Try.func18, Try.ntmps18
  go_wp2_with (first
    | (at_lookup; refine wpList_lookup_own_ok_int _ rfl _ _ 60 rfl 9 3 .i64 law_string Try.underlying60 Try.underlying3 (zero_int _) bm L.length D rfl HM.out _ _ rfl HK.out ?_; intro cc hat hwc; have HAT := Lib.hid hat; clear hat)
    | fail)
  go_ret2
  exact ⟨ret_fnd (HD.out.at_ s HAT.out) (HD.out.has s), rfl⟩
theorem ident_Find_nil (s : ByteArray) (w : World) : Calls Try.prog 18 #[.pointer none, .string s] w fun e w' => e = .returned (.tuple #[.int .i64 0, .bool false]) ∧ w = w' := by
  go_enter Try.func18, Try.ntmps18
  go_wp2_with fail
  go_ret2
  exact ⟨rfl, rfl⟩

theorem ident_Len {b : Nat} {S : Nat → Prop} {L : List ByteArray} {w : World} (ht : Tb w b S L) :
    Calls Try.prog 22 #[.pointer (some ⟨b, 0, none⟩)] w fun e w' => e = .returned (.int .i64 (L.length : Int)) ∧ w = w' := by
  obtain ⟨A, c, bm, D, c0, c1, f0, hown, hstr, hmap, hD, hb, hbm, hne, hrow⟩ := ht.reads
  have hlen := ht.good.len
  clear ht hstr hown hmap hD hb hrow
  go_enter Try.func22, Try.ntmps22
  go_wp2_with fail
  go_ret
  exact ⟨rfl, rfl⟩
theorem ident_Len_nil (w : World) : Calls Try.prog 22 #[.pointer none] w fun e w' => e = .returned (.int .i64 0) ∧ w = w' := by
  go_enter Try.func22, Try.ntmps22
  go_wp2_with fail
  go_ret
  exact ⟨rfl, rfl⟩

/-- The name with an index. -/
def namS (i : Int) (L : List ByteArray) : ByteArray := if 0 ≤ i then (L[i.toNat]?).getD ByteArray.empty else ByteArray.empty
def namB (i : Int) (L : List ByteArray) : Bool := decide (0 ≤ i) && decide (i < (L.length : Int))
theorem nam_at {L : List ByteArray} {k : Nat} {s : ByteArray} (h : L[k]? = some s) : namS (k : Int) L = s ∧ namB (k : Int) L = true := by
  have := lt_get h
  refine ⟨?_, ?_⟩
  · unfold namS; rw [if_pos (by omega), Int.toNat_natCast, h]; rfl
  · unfold namB; rw [decide_eq_true (by omega), decide_eq_true (by omega)]; rfl
theorem nam_out {L : List ByteArray} {i : Int} (h : ¬ (0 ≤ i ∧ i < (L.length : Int))) : namS i L = ByteArray.empty ∧ namB i L = false := by
  refine ⟨?_, ?_⟩
  · unfold namS
    by_cases h0 : 0 ≤ i
    · rw [if_pos h0, List.getElem?_eq_none (by omega)]; rfl
    · rw [if_neg h0]
  · unfold namB
    by_cases h0 : 0 ≤ i
    · rw [decide_eq_false (p := i < (L.length : Int)) (by omega), Bool.and_false]
    · rw [decide_eq_false h0]; rfl
theorem ret_nam {a c : ByteArray} {b d : Bool} (h : a = c) (h' : b = d) : Ending.returned (.tuple #[.string a, .bool b]) = .returned (.tuple #[.string c, .bool d]) := by rw [h, h']
theorem ident_Name {b : Nat} {S : Nat → Prop} {L : List ByteArray} (i : Int) {w : World} (ht : Tb w b S L) :
    Calls Try.prog 20 #[.pointer (some ⟨b, 0, none⟩), .int .i64 i] w fun e w' => e = .returned (.tuple #[.string (namS i L), .bool (namB i L)]) ∧ w = w' := by
  have HL := Lib.hid (ident_Len ht)
  obtain ⟨A, c, bm, D, c0, c1, f0, hown, hstr, hmap, hD, hb, hbm, hne, hrow⟩ := ht.reads
  have hlen := ht.good.len
  have HS := Lib.hid hstr
  clear ht hstr hown hmap hD hb hrow
  by_cases h0 : i < 0
  · have HE := Lib.hid (nam_out (L := L) (i := i) (by omega))
    go_enter Try.func20, Try.ntmps20
    go_wp2_with fail
    go_ret2
    exact ⟨ret_nam HE.out.1.symm HE.out.2.symm, rfl⟩
  · have h0' : decide (i < 0) = false := decide_eq_false h0
    obtain ⟨k, rfl⟩ : ∃ k : Nat, i = (k : Int) := ⟨i.toNat, by omega⟩
    rcases Nat.lt_or_ge k L.length with hlt | hge
    · obtain ⟨s, hs⟩ := get_lt hlt
      obtain ⟨b', off, rfl, hb', hc⟩ := HS.out k s hs
      have HE := Lib.hid (nam_at hs)
      have h1 : decide ((L.length : Int) ≤ (k : Int)) = false := decide_eq_false (by omega)
      clear hs h0
      go_enter Try.func20, Try.ntmps20
      go_wp2_with fail
      refine HL.out.mono ?_
      rintro e w' ⟨rfl, rfl⟩
      go_wp2_with fail
      go_ret2
      exact ⟨ret_nam HE.out.1.symm HE.out.2.symm, rfl⟩
    · have HE := Lib.hid (nam_out (L := L) (i := (k : Int)) (by omega))
      have h1 : (L.length : Int) ≤ (k : Int) := by omega
      clear h0
      go_enter Try.func20, Try.ntmps20
      go_wp2_with fail
      refine HL.out.mono ?_
      rintro e w' ⟨rfl, rfl⟩
      go_wp2_with fail
      go_ret2
      exact ⟨ret_nam HE.out.1.symm HE.out.2.symm, rfl⟩
theorem ident_Name_nil (i : Int) (w : World) : Calls Try.prog 20 #[.pointer none, .int .i64 i] w fun e w' => e = .returned (.tuple #[.string ByteArray.empty, .bool false]) ∧ w = w' := by
  by_cases h0 : i < 0
  · go_enter Try.func20, Try.ntmps20
    go_wp2_with fail
    go_ret2
    exact ⟨rfl, rfl⟩
  · have h0' : decide (i < 0) = false := decide_eq_false h0
    have h1 : 0 ≤ i := by omega
    go_enter Try.func20, Try.ntmps20
    go_wp2_with fail
    refine (ident_Len_nil w).mono ?_
    rintro e w' ⟨rfl, rfl⟩
    go_wp2_with fail
    go_ret2
    exact ⟨rfl, rfl⟩
#print axioms ident_Add
#print axioms ident_Find
#print axioms ident_Name
end Go.Proofs.Ytbmedekfhifcpaa.Ident
