/- Contract of Lines of the program. -/
import Derived.Test.YthiebggamfmjgaaDoorFieldI
namespace Go.Proofs.YthiebggamfmjgaaDoor.Field
open Go.ChangeShapes Go.WideShapes Go.RowKit
set_option linter.unusedVariables false
set_option maxRecDepth 100000

def GG (M : List (List (List UInt8))) : List (List ByteArray) := M.map BB
theorem GG_len (M : List (List (List UInt8))) : (GG M).length = M.length := by simp [GG]
theorem GG_snoc (M : List (List (List UInt8))) (x : List (List UInt8)) : GG (M ++ [x]) = GG M ++ [BB x] := by simp [GG]
theorem GG_append (M N : List (List (List UInt8))) : GG (M ++ N) = GG M ++ GG N := by simp [GG]
theorem ends_last {s : ByteArray} (h : 0 < s.size) : endsB (ls s) = (s[s.size - 1] == 10) := by
  have hne : (ls s).isEmpty = false := by
    cases h1 : (ls s).isEmpty with
    | false => rfl
    | true => have := emp_iff.mp h1; omega
  have hl : (ls s).getLast? = some s[s.size - 1] := by
    rw [List.getLast?_eq_getElem?, ls_len]; exact str_get? s (by omega)
  unfold endsB
  rw [hne, hl, Bool.false_or]
  rw [Bool.eq_iff_iff]; simp
theorem suffix_ends {l : List UInt8} (h : l ≠ []) : Lib.hasSuffix l [10] = endsB l := by
  have hne : l.isEmpty = false := by cases l <;> simp_all
  unfold Lib.hasSuffix endsB
  rw [hne, Bool.false_or, List.isSuffixOf]
  rw [← List.head?_reverse]
  cases hr : l.reverse with
  | nil => exact absurd (by simpa using hr) h
  | cons b r =>
    rw [Bool.eq_iff_iff]; simp [List.isPrefixOf]
    exact ⟨fun e => e.symm, fun e => e.symm⟩
/-- A text that is not empty has a first line. -/
theorem first_line (l : List UInt8) : l ≠ [] → endsB l = true → ∃ x y, l = x ++ 10 :: y ∧ (10 : UInt8) ∉ x ∧ endsB y = true := by
  induction l with
  | nil => intro h; exact absurd rfl h
  | cons b r ih =>
    intro _ he
    have he2 := endsB_iff.mp he (by simp)
    by_cases hb : b = 10
    · subst hb
      refine ⟨[], r, rfl, by simp, ?_⟩
      rw [endsB_iff]; intro hr; rwa [List.getLast_cons hr] at he2
    · have hr : r ≠ [] := by
        intro e; subst e; exact hb (by simpa using he2)
      rw [List.getLast_cons hr] at he2
      obtain ⟨x, y, rfl, h1, h2⟩ := ih hr (endsB_iff.mpr fun _ => he2)
      refine ⟨b :: x, y, rfl, ?_, h2⟩
      simp only [List.mem_cons, not_or]
      exact ⟨fun e => hb e.symm, h1⟩
theorem skp_empty {s : ByteArray} (h : s.size = 0) : skp (ls s) = true := by unfold skp; rw [emp_iff.mpr h]; rfl
theorem skp_first {s : ByteArray} (h : 0 < s.size) : skp (ls s) = (s[0] == 35) := by
  have hne : (ls s).isEmpty = false := by
    cases h1 : (ls s).isEmpty with
    | false => rfl
    | true => have := emp_iff.mp h1; omega
  unfold skp
  rw [hne, ls_head h, Bool.false_or, Bool.eq_iff_iff]; simp
theorem linA_skip {acc : List (List (List UInt8))} {l : List UInt8} {r : List (List UInt8)} (h : skp l = true) : linA acc (l :: r) = linA acc r := by rw [linA, if_pos h]
theorem linA_keep {acc : List (List (List UInt8))} {l : List UInt8} {r : List (List UInt8)} (h : skp l = false) (he : splitE l = 0) : linA acc (l :: r) = linA (acc ++ [splitL l]) r := by rw [linA, if_neg (by simp [h]), if_pos he]
theorem linA_stop {acc : List (List (List UInt8))} {l : List UInt8} {r : List (List UInt8)} (h : skp l = false) (he : splitE l ≠ 0) : linA acc (l :: r) = ([], splitE l) := by rw [linA, if_neg (by simp [h]), if_neg he]
/-- What Lines returns. -/
def LRes (w : World) (t : List UInt8) (e : Ending) (w' : World) : Prop := ∃ v, e = .returned (.tuple #[v, .int .i64 (linesE t)]) ∧ OwnG w.heap.size w' v (GG (linesL t)) ∧ Below w.heap.size w w'
theorem LRes.bad {w : World} {t : List UInt8} (h : endsB t = false) : LRes w t (.returned (.tuple #[.slice none 0 0, .int .i64 3])) w := by
  refine ⟨_, ret_sli ?_, ?_, Below.refl _ _⟩
  · unfold linesE; rw [h]; rfl
  · unfold linesL; rw [h]; exact OwnG.nil _ _
/-- Lines that are read, up to a place. -/
structure LInv (w wr : World) (v : Value) (t : List UInt8) (acc : List (List (List UInt8))) (rest : List UInt8) : Prop where
  o : OwnG w.heap.size wr v (GG acc)
  bel : Below w.heap.size w wr
  rd : linA acc (lns rest) = linA [] (lns t)
  n : acc.length + rest.length ≤ t.length
theorem LInv.start (w : World) (t : List UInt8) : LInv w w (.slice none 0 0) t [] t := ⟨OwnG.nil _ _, Below.refl _ _, rfl, by simp⟩
theorem LInv.skip {w wr : World} {v : Value} {t x y : List UInt8} {acc : List (List (List UInt8))} (h : LInv w wr v t acc (x ++ 10 :: y)) (hx : (10 : UInt8) ∉ x) (hs : skp x = true) : LInv w wr v t acc y := by
  refine ⟨h.o, h.bel, ?_, ?_⟩
  · have := h.rd; rwa [lns_line hx, linA_skip hs] at this
  · have := h.n; simp at this; omega
theorem LInv.on {w wr w2 : World} {v : Value} {t rest : List UInt8} {acc : List (List (List UInt8))} (h : LInv w wr v t acc rest) (hb : Below wr.heap.size wr w2) : LInv w w2 v t acc rest :=
  ⟨h.o.on hb, bstep h.bel (hb.mono (Nat.le_refl _)) |> fun k => k, h.rd, h.n⟩
theorem LInv.push {w wr w2 : World} {v v' : Value} {t x y : List UInt8} {acc : List (List (List UInt8))} {o : Obj} (h : LInv w wr v t acc (x ++ 10 :: y)) (hx : (10 : UInt8) ∉ x) (hs : skp x = false) (he : splitE x = 0)
    (hown : OwnG w.heap.size w2 v' (GG acc ++ [BB (splitL x)])) (hg : (wr.alloc o).grownBy w2 v.ownBlock) : LInv w w2 v' t (acc ++ [splitL x]) y := by
  refine ⟨by rw [GG_snoc]; exact hown, ?_, ?_, ?_⟩
  · exact h.bel.trans (((below_alloc wr o).mono h.bel.size).trans (ownG_below (h.o.alloc o) hg (Nat.le_trans h.bel.size (below_alloc wr o).size)))
  · have := h.rd; rwa [lns_line hx, linA_keep hs he] at this
  · have := h.n; simp at this ⊢; omega
theorem LInv.stop {w wr w' : World} {v : Value} {t x y : List UInt8} {acc : List (List (List UInt8))} (h : LInv w wr v t acc (x ++ 10 :: y)) (hx : (10 : UInt8) ∉ x) (hs : skp x = false) (he : splitE x ≠ 0) (ht : endsB t = true) (hb : Below w.heap.size w w') :
    LRes w t (.returned (.tuple #[.slice none 0 0, .int .i64 (splitE x)])) w' := by
  have e := h.rd
  rw [lns_line hx, linA_stop hs he] at e
  refine ⟨_, ret_sli ?_, ?_, hb⟩
  · unfold linesE; rw [if_pos ht, ← e]
  · unfold linesL; rw [if_pos ht, ← e]; exact OwnG.nil _ _
theorem LInv.done {w wr : World} {v : Value} {t rest : List UInt8} {acc : List (List (List UInt8))} (h : LInv w wr v t acc rest) (hr : lns rest = []) (ht : endsB t = true) : LRes w t (.returned (.tuple #[v, .int .i64 0])) wr := by
  have e := h.rd
  rw [hr, linA] at e
  refine ⟨_, ret_sli ?_, ?_, h.bel⟩
  · unfold linesE; rw [if_pos ht, ← e]
  · unfold linesL; rw [if_pos ht, ← e]; exact h.o
theorem LInv.sep {w wr : World} {v : Value} {t rest : List UInt8} {acc : List (List (List UInt8))} (h : LInv w wr v t acc rest) {A : Option Addr} (hA : ∀ a, A = some a → wr.heap.size ≤ a.block) : ∀ a, A = some a → v.ownBlock ≠ some a.block := fun a e e2 => by
  have h1 := hA a e
  have h2 := h.o.lt _ e2
  omega
theorem endsB_empty {s : ByteArray} (h : s.size = 0) : endsB (ls s) = true := by unfold endsB; rw [emp_iff.mpr h]; rfl

set_option maxHeartbeats 6400000 in
theorem field_Lines (s : ByteArray) (w : World) (hm : s.size ≤ 500000) : Calls Tryd.prog 19 #[.string s] w (LRes w (ls s)) := by
  have HLS := Lib.hid (ls_len s)
  obtain ⟨b, hb⟩ : ∃ b, endsB (ls s) = b := ⟨_, rfl⟩
  have HE := Lib.hid hb
  have HSUF : Hid (0 < s.size → Calls Tryd.prog 24 #[.string s, .string ⟨#[10]⟩] w fun e w' => e = .returned (.bool b) ∧ w' = w) := fun h0 => by
    have h1 := Tryd.strings_HasSuffix s ⟨#[10]⟩ w (by omega)
    rw [show Lib.hasSuffix s.data.toList (ByteArray.mk #[10]).data.toList = b from (suffix_ends (l := ls s) (ls_ne h0)).trans hb] at h1
    exact h1
  clear hb
  go_enter Tryd.func19, Tryd.ntmps19
  go_upto_region 1 with fail
  go_cut [14] (fun x wc => x = .bool (!b) ∧ w = wc)
  case first =>
    rcases Nat.eq_zero_or_pos s.size with h0 | h0
    · have hq : s.toList.isEmpty = true := by rw [emp_size, decide_eq_true h0]
      have e : Hid (b = true) := HE.out.symm.trans (endsB_empty h0)
      clear h0
      go_wp2_with fail
      go_meet
      case rel => exact ⟨by rw [e.out]; rfl, rfl⟩
    · have hq : s.toList.isEmpty = false := by rw [emp_size, decide_eq_false (by omega)]
      have HC := Lib.hid (HSUF.out h0)
      clear h0
      go_wp2_with fail
      refine HC.out.mono ?_
      rintro e1 w1 ⟨rfl, rfl⟩
      go_wp2_with fail
      go_meet
      case rel => exact ⟨rfl, rfl⟩
  case rest =>
    obtain ⟨rfl, rfl⟩ := hcut
    cases b with
    | false =>
      go_wp2_with fail
      go_ret2
      exact LRes.bad HE.out
    | true =>
      go_wp2_with fail
      go_loopw [0, 4] (fun tv v wr => ∃ (r : ByteArray) (acc : List (List (List UInt8))), tv = .string r ∧ LInv w wr v (ls s) acc (ls r) ∧ endsB (ls r) = true) (fun tv _ _ => strOf tv)
      case atStart => exact ⟨s, [], rfl, LInv.start w (ls s), HE.out⟩
      case round =>
        obtain ⟨r, acc, rfl, hinv, hends⟩ := hrel
        have hrs : acc.length + r.size ≤ 500000 := by have := hinv.n; rw [ls_len, ls_len] at this; omega
        rcases Nat.eq_zero_or_pos r.size with h0 | h0
        · have hq : r.toList.isEmpty = true := by rw [emp_size, decide_eq_true h0]
          have HD := Lib.hid (hinv.done (show lns (ls r) = [] by rw [show ls r = [] from List.isEmpty_iff.mp (emp_iff.mpr h0)]; rfl) HE.out)
          clear hinv hends h0
          go_wp2_with fail
          go_ret2
          exact HD.out
        · have hq : r.toList.isEmpty = false := by rw [emp_size, decide_eq_false (by omega)]
          obtain ⟨x, y, hxy, hx, hy⟩ := first_line (ls r) (ls_ne h0) hends
          obtain ⟨ln, hln⟩ : ∃ ln, ln = bs x := ⟨_, rfl⟩
          obtain ⟨ry, hry⟩ : ∃ ry, ry = bs y := ⟨_, rfl⟩
          have hlx : ls ln = x := by rw [hln]; exact bs_list x
          have hly : ls ry = y := by rw [hry]; exact bs_list y
          have HC := Lib.hid (cut_line r x y wr hxy hx (by omega))
          rw [← hln, ← hry] at HC
          have hsz : ln.size + 1 + ry.size = r.size := by
            have := congrArg List.length hxy
            rw [ls_len, List.length_append, List.length_cons, ← hlx, ← hly, ls_len, ls_len] at this; omega
          rw [hxy] at hinv
          rw [← hlx] at hinv hx
          rw [← hly] at hinv hy
          have HI := Lib.hid hinv
          have HX := Lib.hid hx
          have HY := Lib.hid hy
          clear hinv hends hxy hx hy hln hry hlx hly
          go_wp2_with fail
          refine HC.out.mono ?_
          rintro e1 w1 ⟨rfl, hb1⟩
          have HI1 := Lib.hid (HI.out.on hb1)
          clear hb1
          rcases Nat.eq_zero_or_pos ln.size with l0 | l0
          · have hq2 : ln.toList.isEmpty = true := by rw [emp_size, decide_eq_true l0]
            have HN := Lib.hid (HI1.out.skip HX.out (skp_empty l0))
            clear l0
            go_wp2_with fail
            go_roundw
            case rel =>
              repeat apply Exists.intro
              exact ⟨⟨ry, acc, rfl, HN.out, HY.out⟩, rfl⟩
            case measure => simp [strOf]; omega
          · have hq2 : ln.toList.isEmpty = false := by rw [emp_size, decide_eq_false (by omega)]
            have hb35 := byt_beq (b := ln[0]) 35 (n := 35) rfl
            have hsk := skp_first l0
            cases h35 : ln[0] == 35 with
            | true =>
              rw [h35] at hb35 hsk
              have HN := Lib.hid (HI1.out.skip HX.out hsk)
              clear h35 hsk
              go_wp2_with fail
              go_roundw
              case rel =>
                repeat apply Exists.intro
                exact ⟨⟨ry, acc, rfl, HN.out, HY.out⟩, rfl⟩
              case measure => simp [strOf]; omega
            | false =>
              rw [h35] at hb35 hsk
              have HSK := Lib.hid hsk
              have HSP := Lib.hid (field_Split ln w1 (by omega))
              clear h35 hsk
              go_wp2_with fail
              refine HSP.out.mono ?_
              rintro e1 w2 ⟨v1, rfl, ho1, hb2⟩
              obtain ⟨A1, c1, rfl, hc1, hc2, hs1, hA1, -⟩ := ho1.one
              have HI2 := Lib.hid (HI1.out.on hb2)
              have HS1 := Lib.hid hs1
              have HSEP := Lib.hid (HI1.out.sep fun a e => (hA1 a e).2.2.1)
              have HLT : Hid (∀ a, A1 = some a → a.block < w2.heap.size) := fun a e => (hA1 a e).2.2.2
              have HB2 := Lib.hid hb2
              clear ho1 hs1 hA1 hb2
              by_cases he : splitE (ls ln) = 0
              · have HEE := Lib.hid he
                rw [he]
                have HBR : Hid (w.heap.size ≤ w2.heap.size) := HI2.out.bel.size
                clear he
                go_wp2_with (at_builtin; refine append_strs rfl _ _ rfl w.heap.size _ (GG acc) rfl (HI2.out.o.alloc _) w2.heap.size 1 A1 (BB (splitL (ls ln))) _ c1 rfl rfl (sl_one _ _ _ _ _ rfl) hc1 hc2 (HS1.out.on (below_alloc _ _)) HSEP.out (fun a e => Nat.lt_of_lt_of_le (HLT.out a e) (below_alloc _ _).size) (by rw [GG_len]; omega) (Nat.le_trans HBR.out (below_alloc _ _).size) ?_; intro v2 w3 hown3 hg3; refine Hid.out ?_)
                refine Lib.hid ?_
                have HN := Lib.hid (HI2.out.push HX.out HSK.out HEE.out hown3 hg3)
                clear hown3 hg3
                go_wp2_with fail
                go_roundw
                case rel =>
                  repeat apply Exists.intro
                  exact ⟨⟨ry, _, rfl, HN.out, HY.out⟩, rfl⟩
                case measure => simp [strOf]; omega
              · have hq3 : (splitE (ls ln) == 0) = false := beq_false_of_ne he
                have HR := Lib.hid (HI2.out.stop HX.out HSK.out he HE.out HI2.out.bel)
                go_wp2_with fail
                go_ret2
                exact HR.out
#print axioms field_Lines
end Go.Proofs.YthiebggamfmjgaaDoor.Field
