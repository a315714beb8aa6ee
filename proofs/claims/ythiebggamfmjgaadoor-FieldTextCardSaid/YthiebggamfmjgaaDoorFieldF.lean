/- Contract of read of the program. -/
import Derived.Test.YthiebggamfmjgaaDoorFieldE
import Derived.WalkMore
namespace Go.Proofs.YthiebggamfmjgaaDoor.Field
open Go.ChangeShapes Go.WideShapes Go.RowKit
set_option linter.unusedVariables false
set_option maxRecDepth 100000

/-- Fields that are read, and the field that is being read. -/
structure RInv (B : Nat) (w wr : World) (v1 v2 : Value) (f : List UInt8) (fs : List (List UInt8)) : Prop where
  o1 : OwnS B wr v1 (BB fs)
  o2 : OwnY B wr v2 f
  ne : ∀ b, v1.ownBlock = some b → v2.ownBlock ≠ some b
  bel : Below B w wr
  hB : B ≤ wr.heap.size
theorem RInv.start {B : Nat} {w : World} (hB : B ≤ w.heap.size) : RInv B w w (.slice none 0 0) (.slice none 0 0) [] [] := ⟨OwnS.nil _ _, OwnY.nil _ _, fun b h => (by cases h), Below.refl _ _, hB⟩
theorem RInv.push {B : Nat} {w wr w2 : World} {v1 v2 v2' : Value} {f f' : List UInt8} {fs : List (List UInt8)} {o : Obj} (h : RInv B w wr v1 v2 f fs)
    (hown : OwnY B w2 v2' f') (hg : (wr.alloc o).grownBy w2 v2.ownBlock) (hat : v2'.ownBlock = v2.ownBlock ∨ v2'.ownBlock = some (wr.alloc o).heap.size) : RInv B w w2 v1 v2' f' fs := by
  have hs2 : wr.heap.size + 1 ≤ w2.heap.size := by have := hg.size; simpa using this
  refine ⟨?_, hown, fun b hb e => ?_, ?_, ?_⟩
  · refine (h.o1.alloc o).keep fun k hk => hg.block k ?_ fun e => h.ne k hk e.symm
    have := h.o1.lt k hk; simp; omega
  · rcases hat with e2 | e2
    · exact h.ne b hb (e2.symm.trans e)
    · rw [e2] at e; cases e
      have := h.o1.lt _ hb; simp at this; omega
  · exact h.bel.trans (((below_alloc wr o).mono h.hB).trans (own_below (h.o2.alloc o) hg (Nat.le_trans h.hB (below_alloc wr o).size)))
  · have := h.hB; omega
theorem RInv.cut {B : Nat} {w wr w2 : World} {v1 v2 v1' : Value} {f : List UInt8} {fs fs' : List (List UInt8)} {o : Obj} (h : RInv B w wr v1 v2 f fs)
    (hown : OwnS B w2 v1' (BB fs')) (hg : (wr.alloc o).grownBy w2 v1.ownBlock) : RInv B w w2 v1' (.slice none 0 0) [] fs' := by
  have hs2 : wr.heap.size + 1 ≤ w2.heap.size := by have := hg.size; simpa using this
  refine ⟨hown, OwnY.nil _ _, fun b _ e => (by cases e), ?_, ?_⟩
  · exact h.bel.trans (((below_alloc wr o).mono h.hB).trans (ownS_below (h.o1.alloc o) hg (Nat.le_trans h.hB (below_alloc wr o).size)))
  · have := h.hB; omega
theorem byte3_ways (b : UInt8) : ((((b.toNat : Nat) : Int) == 34) = true ∧ b = 34) ∨ ((((b.toNat : Nat) : Int) == 34) = false ∧ (((b.toNat : Nat) : Int) == 32) = true ∧ (((b.toNat : Nat) : Int) == 92) = false ∧ b = 32) ∨
    ((((b.toNat : Nat) : Int) == 34) = false ∧ (((b.toNat : Nat) : Int) == 32) = false ∧ (((b.toNat : Nat) : Int) == 92) = true ∧ b = 92) ∨ ((((b.toNat : Nat) : Int) == 34) = false ∧ (((b.toNat : Nat) : Int) == 32) = false ∧ (((b.toNat : Nat) : Int) == 92) = false ∧ isS b = false) := by
  have h1 := byt_beq (b := b) 34 (n := 34) rfl
  have h2 := byt_beq (b := b) 92 (n := 92) rfl
  have h3 := byt_beq (b := b) 32 (n := 32) rfl
  unfold isS
  by_cases e1 : b = 34
  · subst e1; exact Or.inl ⟨rfl, rfl⟩
  · by_cases e2 : b = 92
    · subst e2; exact Or.inr (Or.inr (Or.inl ⟨rfl, rfl, rfl, rfl⟩))
    · by_cases e3 : b = 32
      · subst e3; exact Or.inr (Or.inl ⟨rfl, rfl, rfl, rfl⟩)
      · have f1 : (b == 34) = false := by simpa using e1
        have f2 : (b == 92) = false := by simpa using e2
        have f3 : (b == 32) = false := by simpa using e3
        rw [h1, h2, h3, f1, f2, f3]; exact Or.inr (Or.inr (Or.inr ⟨rfl, rfl, rfl, rfl⟩))
theorem readL_empty {s : ByteArray} (h : (ls s).isEmpty = true) : readL (ls s) = [] := by unfold readL; rw [if_pos (List.isEmpty_iff.mp h)]
theorem readL_rd {s : ByteArray} (h : (ls s).isEmpty = false) : readL (ls s) = rd false [] [] (ls s) := by
  unfold readL; rw [if_neg]; intro e; rw [e] at h; cases h
theorem drop_end (s : ByteArray) : (ls s).drop s.size = [] := List.drop_eq_nil_of_le (Nat.le_of_eq (ls_len s))
theorem drop_at {s : ByteArray} {k : Nat} {b : UInt8} (h : s.data.toList[k]? = some b) : (ls s).drop k = b :: (ls s).drop (k + 1) := drop_cons_of h

set_option maxHeartbeats 3200000 in
theorem field_read (s : ByteArray) (w : World) (hm : s.size ≤ 100000) :
    Calls Tryd.prog 32 #[.string s] w fun e w' => ∃ v, e = .returned v ∧ OwnS w.heap.size w' v (BB (readL (ls s))) ∧ Below w.heap.size w w' := by
  cases h0 : (ls s).isEmpty with
  | true =>
    have hq : s.toList.isEmpty = true := (emp_of s).trans h0
    have HR := Lib.hid (readL_empty h0)
    clear h0
    go_enter Tryd.func32, Tryd.ntmps32
    go_wp2
    go_step3
    go_wp2
    try rw [Exit.noGoto_ret]
    go_ret
    exact ⟨_, rfl, by rw [HR.out]; exact OwnS.nil _ _, Below.refl _ _⟩
  | false =>
    have hq : s.toList.isEmpty = false := (emp_of s).trans h0
    have HR := Lib.hid (readL_rd h0)
    clear h0
    go_enter Tryd.func32, Tryd.ntmps32
    go_wp2
    go_step3
    go_wp2
    go_step3
    go_wp2
    go_loopw [3, 4, 5, 6] (fun v1 v2 qv i wr => ∃ (k : Nat) (q : Bool) (f : List UInt8) (fs : List (List UInt8)), k ≤ s.size ∧ qv = .bool q ∧ i = .int .i64 k ∧ RInv w.heap.size w wr v1 v2 f fs ∧ fs.length ≤ k ∧ f.length ≤ k ∧ rd q f fs ((ls s).drop k) = readL (ls s)) (fun _ _ _ i _ => s.size - (intOf i).toNat)
    case atStart => exact ⟨0, false, [], [], Nat.zero_le _, rfl, rfl, RInv.start (Nat.le_refl _), Nat.le_refl _, Nat.le_refl _, HR.out.symm⟩
    case round =>
      obtain ⟨k, q, f, fs, hk, rfl, rfl, hinv, hfs, hf, hrd⟩ := hrel
      have HI := Lib.hid hinv
      have HRD := Lib.hid hrd
      have hcv := hinv.o2.conv
      have HBR : Hid (w.heap.size ≤ wr.heap.size) := hinv.hB
      have hbl : (BB fs).length ≤ 100000 := by rw [BB_len]; omega
      have HBL := Lib.hid hbl
      clear hinv hrd hbl
      rcases Nat.lt_or_ge k s.size with hlt | hge
      · have HG := Lib.hid (str_get? s hlt)
        have HD := Lib.hid (drop_at HG.out)
        rcases byte3_ways s[k] with ⟨t1, e1⟩ | ⟨t1, t2, t3, e1⟩ | ⟨t1, t2, t3, e1⟩ | ⟨t1, t2, t3, e1⟩
        · have HN : Hid (rd (!q) f fs ((ls s).drop (k + 1)) = readL (ls s)) := by
            have := HRD.out; rw [HD.out, e1, rd_quote] at this; exact this
          clear e1
          go_wp2_with fail
          go_roundw
          case rel => exact ⟨k + 1, !q, f, fs, by omega, rfl, by go_num, HI.out, by omega, by omega, HN.out⟩
          case measure => simp [intOf]; omega
        · cases q with
          | false =>
            have HN : Hid (rd false [] (fs ++ [f]) ((ls s).drop (k + 1)) = readL (ls s)) := by
              have := HRD.out; rw [HD.out, e1, rd_space] at this; exact this
            clear e1
            go_wp2_with (at_builtin; refine append_str rfl _ _ rfl w.heap.size _ (BB fs) rfl (HI.out.o1.alloc _) wr.heap.size 1 (bs f) rfl (str_one _ _ _ rfl) (by have := HBL.out; omega) (by simp; have := HBR.out; omega) ?_; intro v3 w2 hown2 hg2 hat2; refine Hid.out ?_)
            refine Lib.hid ?_
            rw [← BB_snoc] at hown2
            have HI2 := Lib.hid (HI.out.cut hown2 hg2)
            clear hown2 hg2 hat2
            go_wp2_with fail
            go_roundw
            case rel => exact ⟨k + 1, false, [], fs ++ [f], by omega, rfl, by go_num, HI2.out, by simp; omega, by simp, HN.out⟩
            case measure => simp [intOf]; omega
          | true =>
            have HN : Hid (rd true (f ++ [s[k]]) fs ((ls s).drop (k + 1)) = readL (ls s)) := by
              have := HRD.out; rw [HD.out, rd_other _ _ _ _ _ (by rw [e1]; decide) (by simp) (by rw [e1]; decide)] at this; exact this
            clear e1
            go_wp2_with (at_builtin; refine append_byte rfl _ _ rfl w.heap.size _ f rfl (HI.out.o2.alloc _) wr.heap.size 1 s[k] _ rfl rfl (byte_one _ _ _ rfl) (by omega) (by simp; have := HBR.out; omega) ?_; intro v3 w2 hown2 hg2 hat2; refine Hid.out ?_)
            refine Lib.hid ?_
            have HI2 := Lib.hid (HI.out.push hown2 hg2 hat2)
            clear hown2 hg2 hat2
            go_wp2_with fail
            go_roundw
            case rel => exact ⟨k + 1, true, f ++ [s[k]], fs, by omega, rfl, by go_num, HI2.out, by omega, by simp; omega, HN.out⟩
            case measure => simp [intOf]; omega
        · by_cases hl : k + 1 = s.size
          · have i1 : ((k : Int) + 1 == (s.size : Int)) = true := by simp; omega
            have HN : Hid (fs ++ [f] = readL (ls s)) := by
              have := HRD.out; rw [HD.out, e1, hl, drop_end, rd_last] at this; exact this
            clear e1 hl
            go_wp2_with (at_builtin; refine append_str rfl _ _ rfl w.heap.size _ (BB fs) rfl (HI.out.o1.alloc _) wr.heap.size 1 (bs f) rfl (str_one _ _ _ rfl) (by have := HBL.out; omega) (by simp; have := HBR.out; omega) ?_; intro v3 w2 hown2 hg2 hat2; refine Hid.out ?_)
            refine Lib.hid ?_
            rw [← BB_snoc, HN.out] at hown2
            have HI2 := Lib.hid (HI.out.cut hown2 hg2)
            clear hown2 hg2 hat2
            go_wp2_with fail
            try rw [Exit.noGoto_ret]
            go_ret
            exact ⟨v3, rfl, HI2.out.o1, HI2.out.bel⟩
          · have i1 : ((k : Int) + 1 == (s.size : Int)) = false := by simp; omega
            have hlt2 : k + 1 < s.size := by omega
            have i2 : (k : Int) + 1 < (s.size : Int) := by omega
            have i3 : (0 : Int) ≤ (k : Int) + 1 := by omega
            have HG2 := Lib.hid (str_get? s hlt2)
            have HN : Hid (rd q (f ++ [s[k + 1]]) fs ((ls s).drop (k + 1 + 1)) = readL (ls s)) := by
              have := HRD.out; rw [HD.out, e1, drop_at HG2.out, rd_back] at this; exact this
            clear e1 hl
            go_wp2_with (at_builtin; refine append_byte rfl _ _ rfl w.heap.size _ f rfl (HI.out.o2.alloc _) wr.heap.size 1 s[k + 1] _ rfl rfl (byte_one _ _ _ rfl) (by omega) (by simp; have := HBR.out; omega) ?_; intro v3 w2 hown2 hg2 hat2; refine Hid.out ?_)
            refine Lib.hid ?_
            have HI2 := Lib.hid (HI.out.push hown2 hg2 hat2)
            clear hown2 hg2 hat2
            go_wp2_with fail
            go_roundw
            case rel => exact ⟨k + 2, q, f ++ [s[k + 1]], fs, by omega, rfl, by go_num, HI2.out, by omega, by simp; omega, HN.out⟩
            case measure => simp [intOf]; omega
        · have HN : Hid (rd q (f ++ [s[k]]) fs ((ls s).drop (k + 1)) = readL (ls s)) := by
            obtain ⟨g1, g2, g3⟩ := isS_no e1
            have := HRD.out; rw [HD.out, rd_other _ _ _ _ _ g2 (by simp [g1]) g3] at this; exact this
          clear e1
          go_wp2_with (at_builtin; refine append_byte rfl _ _ rfl w.heap.size _ f rfl (HI.out.o2.alloc _) wr.heap.size 1 s[k] _ rfl rfl (byte_one _ _ _ rfl) (by omega) (by simp; have := HBR.out; omega) ?_; intro v3 w2 hown2 hg2 hat2; refine Hid.out ?_)
          refine Lib.hid ?_
          have HI2 := Lib.hid (HI.out.push hown2 hg2 hat2)
          clear hown2 hg2 hat2
          go_wp2_with fail
          go_roundw
          case rel => exact ⟨k + 1, q, f ++ [s[k]], fs, by omega, rfl, by go_num, HI2.out, by omega, by simp; omega, HN.out⟩
          case measure => simp [intOf]; omega
      · obtain rfl : k = s.size := by omega
        have HN : Hid (fs ++ [f] = readL (ls s)) := by
          have := HRD.out; rw [drop_end, rd_nil] at this; exact this
        go_wp2_with (at_builtin; refine append_str rfl _ _ rfl w.heap.size _ (BB fs) rfl (HI.out.o1.alloc _) wr.heap.size 1 (bs f) rfl (str_one _ _ _ rfl) (by have := HBL.out; omega) (by simp; have := HBR.out; omega) ?_; intro v3 w2 hown2 hg2 hat2; refine Hid.out ?_)
        refine Lib.hid ?_
        rw [← BB_snoc, HN.out] at hown2
        have HI2 := Lib.hid (HI.out.cut hown2 hg2)
        clear hown2 hg2 hat2
        go_wp2_with fail
        try rw [Exit.noGoto_ret]
        go_ret
        exact ⟨v3, rfl, HI2.out.o1, HI2.out.bel⟩
#print axioms field_read
end Go.Proofs.YthiebggamfmjgaaDoor.Field
