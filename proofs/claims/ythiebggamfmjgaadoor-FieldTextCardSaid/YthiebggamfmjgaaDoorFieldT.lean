/- Walk of FieldText. -/
import Derived.Test.YthiebggamfmjgaaDoorFieldQ
import Derived.Lib.SplitLaws
import Derived.Lib.IndexBytes
import Derived.Lib.IndexLaws
namespace Go.Proofs.YthiebggamfmjgaaDoor.Field
open Go.ChangeShapes Go.WideShapes Go.RowKit
set_option linter.unusedVariables false
set_option maxRecDepth 100000

/-! ### The pieces of a text -/
def cutS : List UInt8 → List UInt8 → List (List UInt8)
  | a, [] => [a]
  | a, b :: r => if b = 10 then a :: cutS [] r else cutS (a ++ [b]) r
theorem cutS_line {x : List UInt8} (hx : (10 : UInt8) ∉ x) : ∀ (a r : List UInt8), cutS a (x ++ 10 :: r) = (a ++ x) :: cutS [] r := by
  induction x with
  | nil => intro a r; simp [cutS]
  | cons b y ih =>
    intro a r
    simp only [List.mem_cons, not_or] at hx
    rw [List.cons_append, cutS, if_neg (fun e => hx.1 e.symm), ih hx.2]; simp
theorem cutS_none {x : List UInt8} (hx : (10 : UInt8) ∉ x) : ∀ a : List UInt8, cutS a x = [a ++ x] := by
  induction x with
  | nil => intro a; simp [cutS]
  | cons b y ih =>
    intro a
    simp only [List.mem_cons, not_or] at hx
    rw [cutS, if_neg (fun e => hx.1 e.symm), ih hx.2]; simp
theorem cutL_cutS (u : List UInt8) : ∀ a : List UInt8, cutL a (u ++ [10]) = cutS a u := by
  induction u with
  | nil => intro a; simp [cutL, cutS]
  | cons b r ih =>
    intro a
    rw [List.cons_append, cutL, cutS, ih, ih]
theorem cutS_bound : ∀ (u a x : List UInt8), x ∈ cutS a u → x.length ≤ a.length + u.length := by
  intro u
  induction u with
  | nil => intro a x hx; simp [cutS] at hx; subst hx; simp
  | cons b r ih =>
    intro a x hx
    rw [cutS] at hx
    split at hx
    · rcases List.mem_cons.mp hx with rfl | hx
      · simp
      · have := ih [] x hx; simp at this ⊢; omega
    · have := ih (a ++ [b]) x hx; simp at this ⊢; omega
def nlS : ByteArray := ⟨#[10]⟩
theorem nl_size : nlS.size = 1 := rfl
theorem indexB_nl (s : ByteArray) : Lib.indexB s nlS = Lib.indexByte (ls s) 10 := Lib.index_one (ls s) 10
/-- strings.Split at a line feed. -/
theorem split_pieces : ∀ (n : Nat) (s : ByteArray), s.size ≤ n → LL (Lib.splitB nlS 0 (Lib.countB s nlS) s) = cutS [] (ls s) := by
  intro n
  induction n with
  | zero =>
    intro s hs
    have e : ls s = [] := List.eq_nil_of_length_eq_zero (by rw [ls_len]; omega)
    have hm : Lib.indexB s nlS = -1 := by rw [indexB_nl, e]; rfl
    rw [Lib.countB_miss s nlS hm, Lib.splitB_zero, e]
    show [s.data.toList] = _
    rw [show s.data.toList = [] from e]; rfl
  | succ n ih =>
    intro s hs
    rcases Lib.indexB_cases s nlS with hm | ⟨i, hi, hle⟩
    · have hno : (10 : UInt8) ∉ ls s := fun h => by
        obtain ⟨k, hk⟩ := List.mem_iff_getElem?.mp h
        exact Lib.indexByte_none (by rw [← indexB_nl]; exact hm) k hk
      rw [Lib.countB_miss s nlS hm, Lib.splitB_zero, cutS_none hno]; rfl
    · obtain ⟨h1, h2⟩ := Lib.indexByte_some (l := ls s) (c := 10) (o := i) (by rw [← indexB_nl]; exact hi)
      rw [Lib.countB_hit s nlS i (Nat.le_of_eq nl_size.symm) hi, Nat.add_comm 1, Lib.splitB_hit nlS 0 _ s i hi, nl_size]
      have hd := drop_cons_of h1
      have hx : (10 : UInt8) ∉ (ls s).take i := fun h => by
        obtain ⟨k, hk⟩ := List.mem_iff_getElem?.mp h
        rw [List.getElem?_take] at hk
        split at hk
        · next hki => exact h2 k hki hk
        · cases hk
      have hs' : ls (s.extract (i + 1) s.size) = (ls s).drop (i + 1) := by
        have e : ls (s.extract (i + 1) s.size) = ((ls s).drop (i + 1)).take (s.size - (i + 1)) := ext_list _ _ _
        rw [e, List.take_of_length_le (by rw [List.length_drop, ls_len]; omega)]
      have hp : ls (s.extract 0 (i + 0)) = (ls s).take i := by
        have e : ls (s.extract 0 (i + 0)) = ((ls s).drop 0).take (i + 0 - 0) := ext_list _ _ _
        rw [e]; simp
      have hsplit : ls s = (ls s).take i ++ 10 :: (ls s).drop (i + 1) := by
        have h3 := List.take_append_drop i (ls s)
        rw [hd] at h3; exact h3.symm
      have hz : (s.extract (i + 1) s.size).size ≤ n := by rw [ByteArray.size_extract]; omega
      have e1 := ih _ hz
      show ls (s.extract 0 (i + 0)) :: LL _ = _
      rw [e1, hp, hs']
      conv => rhs; rw [hsplit, cutS_line hx]
      simp

/-! ### What the law gathers -/
def wfold : List (List (List UInt8)) → Int → List (List UInt8) → List (List (List UInt8)) × Int
  | acc, F, [] => (acc, F)
  | acc, F, l :: r => if skp l then wfold acc F r else wfold (acc ++ [splitL l]) (if F = 0 then splitE l else F) r
theorem wfold_bad : ∀ (r : List (List UInt8)) (acc : List (List (List UInt8))) (F : Int), F ≠ 0 → (wfold acc F r).2 = F := by
  intro r
  induction r with
  | nil => intro acc F _; rfl
  | cons l r ih =>
    intro acc F h
    rw [wfold, if_neg h]
    split
    · exact ih acc F h
    · exact ih _ F h
theorem linA_wfold : ∀ (r : List (List UInt8)) (acc : List (List (List UInt8))), linA acc r = if (wfold acc 0 r).2 = 0 then ((wfold acc 0 r).1, 0) else ([], (wfold acc 0 r).2) := by
  intro r
  induction r with
  | nil => intro acc; simp [linA, wfold]
  | cons l r ih =>
    intro acc
    rw [linA, wfold, if_pos rfl]
    split
    · exact ih acc
    · split
      · next he => rw [he]; exact ih _
      · next he => rw [if_neg (by rw [wfold_bad _ _ _ he]; exact he), wfold_bad _ _ _ he]
theorem wfold_skip {acc : List (List (List UInt8))} {F : Int} {l : List UInt8} {r : List (List UInt8)} (h : skp l = true) : wfold acc F (l :: r) = wfold acc F r := by rw [wfold, if_pos h]
theorem wfold_keep {acc : List (List (List UInt8))} {F : Int} {l : List UInt8} {r : List (List UInt8)} (h : skp l = false) : wfold acc F (l :: r) = wfold (acc ++ [splitL l]) (if F = 0 then splitE l else F) r := by rw [wfold, if_neg (by simp [h])]
theorem prefix_skp {s : ByteArray} (h : 0 < s.size) : Lib.hasPrefix s.data.toList [35] = skp (ls s) := by
  rw [skp_first h]
  have e := drop_at (str_get? s h)
  rw [List.drop_zero] at e
  rw [show s.data.toList = s[0] :: (ls s).drop 1 from e]
  unfold Lib.hasPrefix
  rw [Bool.eq_iff_iff]
  simp [List.isPrefixOf]
  exact ⟨fun e => e.symm, fun e => e.symm⟩
/-- What the loop holds. -/
structure TInv (w1 wr : World) (v : Value) (M : List (List UInt8)) (k : Nat) (acc : List (List (List UInt8))) (F : Int) : Prop where
  o : OwnG w1.heap.size wr v (GG acc)
  bel : Below w1.heap.size w1 wr
  rd : wfold acc F (M.drop k) = wfold [] 0 M
  n : acc.length ≤ k
theorem TInv.start (w1 : World) (M : List (List UInt8)) : TInv w1 w1 (.slice none 0 0) M 0 [] 0 := ⟨OwnG.nil _ _, Below.refl _ _, by rw [List.drop_zero], Nat.le_refl _⟩
theorem TInv.skip {w1 wr : World} {v : Value} {M : List (List UInt8)} {k : Nat} {acc : List (List (List UInt8))} {F : Int} {x : List UInt8} (h : TInv w1 wr v M k acc F) (hx : M[k]? = some x) (hs : skp x = true) : TInv w1 wr v M (k + 1) acc F := by
  refine ⟨h.o, h.bel, ?_, by have := h.n; omega⟩
  have := h.rd
  rwa [drop_cons_of hx, wfold_skip hs] at this
theorem TInv.on {w1 wr w2 : World} {v : Value} {M : List (List UInt8)} {k : Nat} {acc : List (List (List UInt8))} {F : Int} (h : TInv w1 wr v M k acc F) (hb : Below wr.heap.size wr w2) : TInv w1 w2 v M k acc F :=
  ⟨h.o.on hb, bstep h.bel hb, h.rd, h.n⟩
theorem TInv.push {w1 wr w2 : World} {v v' : Value} {M : List (List UInt8)} {k : Nat} {acc : List (List (List UInt8))} {F F' : Int} {x : List UInt8} {o : Obj} (h : TInv w1 wr v M k acc F) (hx : M[k]? = some x) (hs : skp x = false)
    (hF : F' = if F = 0 then splitE x else F) (hown : OwnG w1.heap.size w2 v' (GG acc ++ [BB (splitL x)])) (hg : (wr.alloc o).grownBy w2 v.ownBlock) : TInv w1 w2 v' M (k + 1) (acc ++ [splitL x]) F' := by
  refine ⟨by rw [GG_snoc]; exact hown, ?_, ?_, by have := h.n; simp; omega⟩
  · exact h.bel.trans (((below_alloc wr o).mono h.bel.size).trans (ownG_below (h.o.alloc o) hg (Nat.le_trans h.bel.size (below_alloc wr o).size)))
  · have := h.rd
    rw [drop_cons_of hx, wfold_keep hs] at this
    rw [hF]; exact this
theorem TInv.sep {w1 wr : World} {v : Value} {M : List (List UInt8)} {k : Nat} {acc : List (List (List UInt8))} {F : Int} (h : TInv w1 wr v M k acc F) {A : Option Addr} (hA : ∀ a, A = some a → wr.heap.size ≤ a.block) : ∀ a, A = some a → v.ownBlock ≠ some a.block := fun a e e2 => by
  have h1 := hA a e
  have h2 := h.o.lt _ e2
  omega
theorem TInv.done {w1 wr : World} {v : Value} {M : List (List UInt8)} {acc : List (List (List UInt8))} {F : Int} (h : TInv w1 wr v M M.length acc F) : linA [] M = if F = 0 then (acc, 0) else ([], F) := by
  have := h.rd
  rw [List.drop_length, wfold] at this
  rw [linA_wfold, ← this]

theorem TInv.fin {w1 wr : World} {v : Value} {M : List (List UInt8)} {k : Nat} {acc : List (List (List UInt8))} {F : Int} (h : TInv w1 wr v M k acc F) (hk : M.length = k) : linA [] M = if F = 0 then (acc, 0) else ([], F) := by
  subst hk; exact h.done

set_option maxHeartbeats 6400000 in
theorem walk_FieldText (w : World) (s : ByteArray) (hs : s.size ≤ maxLen) (hM : ∃ m, w.cell? ⟨0, 0, none⟩ = some (.int .i64 m)) :
    Calls Tryd.prog 9 #[.string s] w fun e w' => e = .returned (.bool true) ∧ Below w.heap.size w w' := by
  have hms := max_small hs
  clear hs
  obtain ⟨m, hm⟩ := hM
  have HM := Lib.hid hm
  clear hm
  obtain ⟨g, hg⟩ : ∃ g : Bool, g = (decide (1500 < s.size) || (decide (s.size = 0) || !endsB (ls s))) := ⟨_, rfl⟩
  have HG := Lib.hid hg
  clear hg
  go_enter Tryd.func9, Tryd.ntmps9
  go_upto_region 1 with fail
  go_cut [22] (fun x wc => x = .bool g ∧ w = wc)
  case first =>
    rcases wide_test s with ⟨hw, i1⟩ | ⟨hw, i1⟩
    · rcases Nat.eq_zero_or_pos s.size with h0 | h0
      · have hq : s.toList.isEmpty = true := by rw [emp_size, decide_eq_true h0]
        have e : Hid (true = g) := by
          show _ = _
          rw [HG.out, decide_eq_true h0]; simp
        clear h0 hw
        go_wp2_with fail
        go_meet
        case rel => exact ⟨congrArg Value.bool e.out, rfl⟩
      · have hq : s.toList.isEmpty = false := by rw [emp_size, decide_eq_false (by omega)]
        obtain ⟨b, hb⟩ : ∃ b, endsB (ls s) = b := ⟨_, rfl⟩
        have HC : Hid (Calls Tryd.prog 24 #[.string s, .string ⟨#[10]⟩] w fun e w' => e = .returned (.bool b) ∧ w' = w) := by
          have h1 := Tryd.strings_HasSuffix s ⟨#[10]⟩ w (by omega)
          rw [show Lib.hasSuffix s.data.toList (ByteArray.mk #[10]).data.toList = b from (suffix_ends (l := ls s) (ls_ne h0)).trans hb] at h1
          exact h1
        have e : Hid ((!b) = g) := by
          show _ = _
          rw [HG.out, decide_eq_false hw, decide_eq_false (by omega : ¬ s.size = 0), hb]; rfl
        clear h0 hw hb
        go_wp2_with fail
        refine HC.out.mono ?_
        rintro e1 w1 ⟨rfl, rfl⟩
        go_wp2_with fail
        go_meet
        case rel => exact ⟨congrArg Value.bool e.out, rfl⟩
    · have e : Hid (true = g) := by
        show _ = _
        rw [HG.out, decide_eq_true hw]; rfl
      clear hw
      go_wp2_with fail
      go_meet
      case rel => exact ⟨congrArg Value.bool e.out, rfl⟩
  case rest =>
    obtain ⟨rfl, rfl⟩ := hcut
    cases g with
    | true =>
      go_wp2_with fail
      refine (is_awake _).mono ?_
      rintro e w1 ⟨rfl, hb⟩
      have HB := Lib.hid hb
      clear hb
      go_wp2_with fail
      go_ret
      exact ⟨rfl, HB.out⟩
    | false =>
      obtain ⟨h15, h0, hends⟩ : ¬ 1500 < s.size ∧ ¬ s.size = 0 ∧ endsB (ls s) = true := by
        have h := HG.out.symm
        rw [Bool.or_eq_false_iff, Bool.or_eq_false_iff] at h
        exact ⟨of_decide_eq_false h.1, of_decide_eq_false h.2.1, by simpa using h.2.2⟩
      obtain ⟨u, hu⟩ : ∃ u, u = s.extract 0 (s.size - 1) := ⟨_, rfl⟩
      have hus : u.size = s.size - 1 := by rw [hu, ByteArray.size_extract]; omega
      have hlast : ls s = ls u ++ [10] := by
        have e : ls u = ((ls s).drop 0).take (s.size - 1 - 0) := by rw [hu]; exact ext_list _ _ _
        have e10 := ends_last (s := s) (by omega)
        rw [hends] at e10
        have hg10 := str_get? s (k := s.size - 1) (by omega)
        rw [show s[s.size - 1] = 10 by simpa using e10.symm] at hg10
        have h1 : (ls s).take (s.size - 1 + 1) = (ls s).take (s.size - 1) ++ [10] := take_snoc_of hg10
        rw [show s.size - 1 + 1 = s.size by omega, ls_full] at h1
        rw [e, List.drop_zero, Nat.sub_zero]; exact h1
      obtain ⟨P, hP⟩ : ∃ P, P = Lib.splitB nlS 0 (Lib.countB u nlS) u := ⟨_, rfl⟩
      have hPM : LL P = lns (ls s) := by rw [hP, split_pieces u.size u (Nat.le_refl _), hlast]; exact (cutL_cutS (ls u) []).symm
      have hPl : P.length = Lib.countB u nlS + 1 := by rw [hP]; exact Lib.splitB_all nlS (Nat.le_of_eq nl_size.symm) 0 _ u rfl
      have hPb : P.length ≤ 1501 := by rw [hPl]; have := Lib.countB_le nlS (Nat.le_of_eq nl_size.symm) u.size u (Nat.le_refl _); omega
      have hPs : ∀ x ∈ P, x.size ≤ 1500 := fun x hx => by
        have h1 : ls x ∈ LL P := List.mem_map.mpr ⟨x, hx, rfl⟩
        rw [hP, split_pieces u.size u (Nat.le_refl _)] at h1
        have := cutS_bound (ls u) [] _ h1
        rw [ls_len, ls_len] at this; simp at this; omega
      have HSP : Hid (Calls Tryd.prog 25 #[.string u, .string ⟨#[10]⟩] w fun e w' => e = .returned (.slice (some ⟨w.heap.size, 0, none⟩) P.length P.length) ∧ w' = w.alloc (.cells (P.map Value.string).toArray 9)) := by
        have h1 := Tryd.strings_Split u nlS m w (by omega) HM.out (Nat.le_of_eq nl_size.symm)
        rw [← hPl, ← hP] at h1
        exact h1
      have e1 : (s.size : Int) - 1 = ((s.size - 1 : Nat) : Int) := by omega
      have P1 : ∀ W : World, (Instr.slice 9 (.string s) none (some (.int .i64 ((s.size - 1 : Nat) : Int))) none).run Tryd.prog W = .ok (.string u) W := fun W => by
        rw [run_slice_string_h W 9 s Tryd.underlying9 .i64 ((s.size - 1 : Nat) : Int) (by omega) (by omega), hu]; rfl
      obtain ⟨E, hE⟩ : ∃ E, linesE (ls s) = E := ⟨_, rfl⟩
      obtain ⟨M3, hM3⟩ : ∃ L, GG (linesL (ls s)) = L := ⟨_, rfl⟩
      obtain ⟨n3, hn3⟩ : ∃ n, n = M3.length := ⟨_, rfl⟩
      have HLI : Hid (∀ W : World, _) := fun W => lines_is hE hM3 hn3 W (by omega)
      have HPM := Lib.hid hPM
      have HPS := Lib.hid hPs
      have HN3 := Lib.hid hn3
      have HFIN : Hid (∀ acc F, linA [] (lns (ls s)) = (if F = 0 then (acc, 0) else ([], F)) → E = F ∧ M3 = GG (if F = 0 then acc else [])) := fun acc F h => by
        rw [← hE, ← hM3]
        unfold linesE linesL
        rw [if_pos hends, if_pos hends, h]
        split <;> exact ⟨by first | rfl | (simp_all), rfl⟩
      clear hu hus hlast hP hPM hPl hPs hE hM3 hn3 hends
      go_wp2_with fail
      refine HSP.out.mono ?_
      rintro e w1 ⟨rfl, hw1⟩
      have HB1 : Hid (Below w.heap.size w w1) := by rw [hw1]; exact below_alloc _ _
      have HSS : Hid (Strs w1 (some ⟨w.heap.size, 0, none⟩) P) := by rw [hw1]; exact strs_of w P _ rfl
      clear hw1
      go_wp2_with fail
      go_loopw [4, 5, 6] (fun v fv iv wr => ∃ (k : Nat) (acc : List (List (List UInt8))) (F : Int), k ≤ P.length ∧ fv = .int .i64 F ∧ iv = .int .i64 k ∧ TInv w1 wr v (lns (ls s)) k acc F) (fun _ _ iv _ => P.length - (intOf iv).toNat)
      case atStart => exact ⟨0, [], 0, Nat.zero_le _, rfl, rfl, TInv.start _ _⟩
      case round =>
        obtain ⟨k, acc, F, hk, rfl, rfl, hinv⟩ := hrel
        have HI := Lib.hid hinv
        have hacc : acc.length ≤ 1501 := Nat.le_trans hinv.n (Nat.le_trans hk hPb)
        clear hinv
        rcases Nat.lt_or_ge k P.length with hlt | hge
        · obtain ⟨x, hx⟩ := get_lt hlt
          obtain ⟨bb, off, hbo, hbl, hc⟩ := HSS.out.on HI.out.bel k x hx
          cases hbo
          rw [Nat.zero_add] at hc
          have HX : Hid ((lns (ls s))[k]? = some (ls x)) := by rw [← HPM.out]; exact LL_get hx
          have hxz := HPS.out x (List.mem_of_getElem? hx)
          clear hx
          rcases Nat.eq_zero_or_pos x.size with l0 | l0
          · have hq2 : x.toList.isEmpty = true := by rw [emp_size, decide_eq_true l0]
            have HN := Lib.hid (HI.out.skip HX.out (skp_empty l0))
            clear l0
            go_wp2_with fail
            go_roundw
            case rel =>
              first
                | exact ⟨k + 1, acc, F, by omega, rfl, by go_num, HN.out⟩
                | (repeat apply Exists.intro
                   exact ⟨⟨k + 1, acc, F, by omega, rfl, by go_num, HN.out⟩, rfl⟩)
            case measure => simp [intOf]; omega
          · have hq2 : x.toList.isEmpty = false := by rw [emp_size, decide_eq_false (by omega)]
            obtain ⟨p, hp⟩ : ∃ p, skp (ls x) = p := ⟨_, rfl⟩
            have HPF : Hid (∀ W : World, Calls Tryd.prog 26 #[.string x, .string ⟨#[35]⟩] W fun e w' => e = .returned (.bool p) ∧ w' = W) := fun W => by
              have h1 := Tryd.strings_HasPrefix x ⟨#[35]⟩ W
              rw [show Lib.hasPrefix x.data.toList (ByteArray.mk #[35]).data.toList = p from (prefix_skp l0).trans hp] at h1
              exact h1
            have HSK := Lib.hid hp
            clear l0 hp
            cases p with
            | true =>
              have HN := Lib.hid (HI.out.skip HX.out HSK.out)
              go_wp2_with fail
              refine (HPF.out _).mono ?_
              rintro e1 w2 ⟨rfl, rfl⟩
              go_wp2_with fail
              go_roundw
              case rel =>
                first
                  | exact ⟨k + 1, acc, F, by omega, rfl, by go_num, HN.out⟩
                  | (repeat apply Exists.intro
                     exact ⟨⟨k + 1, acc, F, by omega, rfl, by go_num, HN.out⟩, rfl⟩)
              case measure => simp [intOf]; omega
            | false =>
              have HSP2 := Lib.hid (field_Split x wr (by omega))
              go_wp2_with fail
              refine (HPF.out _).mono ?_
              rintro e1 w2 ⟨rfl, rfl⟩
              go_wp2_with fail
              refine HSP2.out.mono ?_
              rintro e1 w2 ⟨v1, rfl, ho1, hb2⟩
              obtain ⟨A1, c1, rfl, hc1, hc2, hs1, hA1, -⟩ := ho1.one
              have HI2 := Lib.hid (HI.out.on hb2)
              have HS1 := Lib.hid hs1
              have HSEP := Lib.hid (HI.out.sep fun a e => (hA1 a e).2.2.1)
              have HLT : Hid (∀ a, A1 = some a → a.block < w2.heap.size) := fun a e => (hA1 a e).2.2.2
              clear ho1 hs1 hA1 hb2
              obtain ⟨e5, he5⟩ : ∃ e5, splitE (ls x) = e5 := ⟨_, rfl⟩
              rw [he5]
              have HE5 := Lib.hid he5
              clear he5
              by_cases hF : F = 0
              · subst hF
                have HBR : Hid (w1.heap.size ≤ w2.heap.size) := HI2.out.bel.size
                go_wp2_with (at_builtin; refine append_strs rfl _ _ rfl w1.heap.size _ (GG acc) rfl (HI2.out.o.alloc _) w2.heap.size 1 A1 (BB (splitL (ls x))) _ c1 rfl rfl (sl_one _ _ _ _ _ rfl) hc1 hc2 (HS1.out.on (below_alloc _ _)) HSEP.out (fun a e => Nat.lt_of_lt_of_le (HLT.out a e) (below_alloc _ _).size) (by rw [GG_len]; omega) (Nat.le_trans HBR.out (below_alloc _ _).size) ?_; intro v2 w3 hown3 hg3; refine Hid.out ?_)
                refine Lib.hid ?_
                have HN := Lib.hid (HI2.out.push (F' := e5) HX.out HSK.out (by rw [if_pos rfl, HE5.out]) hown3 hg3)
                clear hown3 hg3
                go_wp2_with fail
                go_roundw
                case rel =>
                  first
                    | exact ⟨k + 1, _, e5, by omega, rfl, by go_num, HN.out⟩
                    | (repeat apply Exists.intro
                       exact ⟨⟨k + 1, _, e5, by omega, rfl, by go_num, HN.out⟩, rfl⟩)
                case measure => simp [intOf]; omega
              · have hF2 : (F == 0) = false := beq_false_of_ne hF
                have HBR : Hid (w1.heap.size ≤ w2.heap.size) := HI2.out.bel.size
                go_wp2_with (at_builtin; refine append_strs rfl _ _ rfl w1.heap.size _ (GG acc) rfl (HI2.out.o.alloc _) w2.heap.size 1 A1 (BB (splitL (ls x))) _ c1 rfl rfl (sl_one _ _ _ _ _ rfl) hc1 hc2 (HS1.out.on (below_alloc _ _)) HSEP.out (fun a e => Nat.lt_of_lt_of_le (HLT.out a e) (below_alloc _ _).size) (by rw [GG_len]; omega) (Nat.le_trans HBR.out (below_alloc _ _).size) ?_; intro v2 w3 hown3 hg3; refine Hid.out ?_)
                refine Lib.hid ?_
                have HN := Lib.hid (HI2.out.push (F' := F) HX.out HSK.out (by rw [if_neg hF]) hown3 hg3)
                clear hown3 hg3
                go_wp2_with fail
                go_roundw
                case rel =>
                  first
                    | exact ⟨k + 1, _, F, by omega, rfl, by go_num, HN.out⟩
                    | (repeat apply Exists.intro
                       exact ⟨⟨k + 1, _, F, by omega, rfl, by go_num, HN.out⟩, rfl⟩)
                case measure => simp [intOf]; omega
        · obtain rfl : k = P.length := by omega
          have hfin := HFIN.out acc F (HI.out.fin (by rw [← HPM.out, LL_len]))
          obtain ⟨A5, c5, hv5, h51, h52, h53, -⟩ := HI.out.o.grd
          obtain ⟨n5, hn5⟩ : ∃ n, n = (GG acc).length := ⟨_, rfl⟩
          rw [← hn5] at hv5 h51
          subst hv5
          have HG5 := Lib.hid h53
          have HN5 := Lib.hid hn5
          have HL5 : Hid ((GG acc).length ≤ 9223372036854775807) := by show _ ≤ _; rw [GG_len]; omega
          clear h53 hn5
          by_cases hF : F = 0
          · subst hF
            rw [if_pos rfl] at hfin
            obtain ⟨rfl, hM⟩ := hfin
            have HM3 := Lib.hid hM
            clear hM
            go_wp2_with fail
            refine (HLI.out _).mono ?_
            rintro e w3 ⟨A3, c3, rfl, hs3, hb⟩
            have HB3 := Lib.hid hb
            have HI3 := Lib.hid hs3
            clear hb hs3
            go_wp2_with fail
            refine (sameAll_at (L := M3) (M := GG acc) (b := true) (decide_eq_true HM3.out) A3 A5 HN3.out HN5.out c3 c5 w3 HI3.out.hs (HG5.out.on HB3.out) HI3.out.len HL5.out).mono ?_
            rintro e w4 ⟨rfl, hb⟩
            have HB4 := Lib.hid (bstep HB1.out (bstep HI.out.bel (bstep HB3.out hb)))
            clear hb
            go_wp2_with fail
            refine (is_awake _).mono ?_
            rintro e w5 ⟨rfl, hb⟩
            have HB5 := Lib.hid (bstep HB4.out hb)
            clear hb
            go_wp2_with fail
            go_ret
            exact ⟨rfl, HB5.out⟩
          · have hF2 : (F == 0) = false := beq_false_of_ne hF
            rw [if_neg hF] at hfin
            obtain ⟨hEF, hM⟩ := hfin
            subst hEF
            have hn30 : n3 = 0 := by rw [HN3.out, hM]; rfl
            have HM3 := Lib.hid hM
            subst hn30
            clear hM
            go_wp2_with fail
            refine (HLI.out _).mono ?_
            rintro e w3 ⟨A3, c3, rfl, hs3, hb⟩
            have HB3 := Lib.hid hb
            have HI3 := Lib.hid hs3
            clear hb hs3
            go_wp2_with fail
            refine (sameAll_at (L := M3) (M := []) (b := true) (decide_eq_true HM3.out) A3 none HN3.out rfl c3 0 w3 HI3.out.hs (Grd.nil _ _) HI3.out.len (by decide)).mono ?_
            rintro e w4 ⟨rfl, hb⟩
            have HB4 := Lib.hid (bstep HB1.out (bstep HI.out.bel (bstep HB3.out hb)))
            clear hb
            go_wp2_with fail
            refine (is_awake _).mono ?_
            rintro e w5 ⟨rfl, hb⟩
            have HB5 := Lib.hid (bstep HB4.out hb)
            clear hb
            go_wp2_with fail
            go_ret
            exact ⟨rfl, HB5.out⟩
#print axioms walk_FieldText
end Go.Proofs.YthiebggamfmjgaaDoor.Field
