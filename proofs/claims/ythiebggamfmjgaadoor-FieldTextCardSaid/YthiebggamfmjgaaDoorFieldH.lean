/- Contract of Split of the reference. -/
import Derived.Test.YthiebggamfmjgaaDoorFieldG
namespace Go.Proofs.YthiebggamfmjgaaDoor.Field
open Go.ChangeShapes Go.WideShapes Go.RowKit
set_option linter.unusedVariables false
set_option maxRecDepth 100000

/-! ### The field at the beginning -/
def twN (r : ByteArray) : Nat := ((ls r).takeWhile nospc).length
theorem tw_step : ∀ (l : List UInt8) (j : Nat) (b : UInt8), j ≤ (l.takeWhile nospc).length → l[j]? = some b → nospc b = true → j + 1 ≤ (l.takeWhile nospc).length := by
  intro l
  induction l with
  | nil => intro j b h hb _; simp at hb
  | cons a r ih =>
    intro j b h hb hp
    cases j with
    | zero =>
      simp at hb; subst hb
      rw [List.takeWhile_cons, if_pos hp]; simp
    | succ j =>
      rw [List.takeWhile_cons] at h ⊢
      split at h
      · next h1 =>
        rw [if_pos h1]
        have := ih j b (by simpa using h) (by simpa using hb) hp
        simpa using this
      · simp at h
theorem tw_end : ∀ (l : List UInt8) (j : Nat) (b : UInt8), j ≤ (l.takeWhile nospc).length → l[j]? = some b → nospc b = false → (l.takeWhile nospc).length = j := by
  intro l
  induction l with
  | nil => intro j b h hb _; simp at hb
  | cons a r ih =>
    intro j b h hb hp
    cases j with
    | zero =>
      simp at hb; subst hb
      rw [List.takeWhile_cons, if_neg (by simp [hp])]; rfl
    | succ j =>
      rw [List.takeWhile_cons] at h ⊢
      split at h
      · next h1 =>
        rw [if_pos h1]
        have := ih j b (by simpa using h) (by simpa using hb) hp
        simpa using this
      · simp at h
theorem tw_len : ∀ l : List UInt8, (l.takeWhile nospc).length ≤ l.length := by
  intro l
  induction l with
  | nil => simp
  | cons a r ih => rw [List.takeWhile_cons]; split <;> simp <;> omega
theorem tw_is : ∀ l : List UInt8, l.takeWhile nospc = l.take (l.takeWhile nospc).length := by
  intro l
  induction l with
  | nil => rfl
  | cons a r ih =>
    rw [List.takeWhile_cons]
    split
    · rw [List.length_cons, List.take_succ_cons, ← ih]
    · rfl
theorem twN_le (r : ByteArray) : twN r ≤ r.size := by have := tw_len (ls r); rwa [ls_len] at this
theorem twN_next {r : ByteArray} {j : Nat} {b : UInt8} (h : j ≤ twN r) (hg : r.data.toList[j]? = some b) (hb : (b == 32) = false) : j + 1 ≤ twN r := tw_step (ls r) j b h hg (by simp [nospc]; simpa using hb)
theorem twN_stop {r : ByteArray} {j : Nat} {b : UInt8} (h : j ≤ twN r) (hg : r.data.toList[j]? = some b) (hb : (b == 32) = true) : twN r = j := tw_end (ls r) j b h hg (by simp [nospc]; simpa using hb)
theorem ls_head {r : ByteArray} (h : 0 < r.size) : (ls r).head? = some r[0] := by
  rw [List.head?_eq_getElem?]; exact str_get? r h
theorem stp_quoted {r : ByteArray} (h : 0 < r.size) (h0 : r[0] = 34) : stp (ls r) = (quF r, quN r) := by
  unfold stp; rw [ls_head h, h0, if_pos rfl, ← List.drop_one]; rfl
theorem stp_other {r : ByteArray} (h : 0 < r.size) (h0 : r[0] ≠ 34) : stp (ls r) = ((ls r).take (twN r), twN r) := by
  unfold stp; rw [ls_head h, if_neg (by intro e; exact h0 (Option.some.inj e)), ← twN, ← show (ls r).takeWhile nospc = (ls r).take (twN r) from tw_is _]
theorem quN_bound {r : ByteArray} (h : 0 < r.size) : (quF r).length ≤ r.size ∧ quN r ≤ r.size := by
  have := qu_bound ((ls r).drop 1) [] 1
  rw [List.length_drop, ls_len] at this
  unfold quF quN
  simp only [List.length_nil] at this
  omega
theorem stp_bound {r : ByteArray} (h : 0 < r.size) : (stp (ls r)).1.length ≤ r.size ∧ (stp (ls r)).2 ≤ r.size := by
  by_cases h0 : r[0] = 34
  · rw [stp_quoted h h0]; exact quN_bound h
  · rw [stp_other h h0]
    refine ⟨?_, twN_le r⟩
    rw [List.length_take, ls_len]; omega
theorem ls_ne {r : ByteArray} (h : 0 < r.size) : ls r ≠ [] := by intro e; have := ls_len r; rw [e] at this; simp at this; omega
/-- The rest behind the first field. -/
def rest1 (r : ByteArray) : ByteArray := r.extract (min ((stp (ls r)).2 + 1) r.size) r.size
theorem rest1_ls (r : ByteArray) : ls (rest1 r) = (ls r).drop ((stp (ls r)).2 + 1) := by
  have e : ls (rest1 r) = ((ls r).drop (min ((stp (ls r)).2 + 1) r.size)).take (r.size - min ((stp (ls r)).2 + 1) r.size) := ext_list _ _ _
  rw [e, List.take_of_length_le (by rw [List.length_drop, ls_len]; omega)]
  rcases Nat.le_total ((stp (ls r)).2 + 1) r.size with h | h
  · rw [Nat.min_eq_left h]
  · rw [Nat.min_eq_right h, List.drop_eq_nil_of_le (by rw [ls_len]; omega), List.drop_eq_nil_of_le (by rw [ls_len]; omega)]
theorem rest1_size (r : ByteArray) : (rest1 r).size = r.size - ((stp (ls r)).2 + 1) := by rw [← ls_len, rest1_ls, List.length_drop, ls_len]
/-- Fields that are read, and the rest. -/
structure OInv (w wr : World) (v : Value) (s r : ByteArray) (fs : List (List UInt8)) : Prop where
  o : OwnS w.heap.size wr v (BB fs)
  bel : Below w.heap.size w wr
  rd : fs ++ rq (ls r) = rq (ls s)
  n : fs.length + r.size ≤ s.size
  b : ∀ x ∈ fs, x.length ≤ s.size
theorem OInv.start (w : World) (s : ByteArray) : OInv w w (.slice none 0 0) s s [] := ⟨OwnS.nil _ _, Below.refl _ _, rfl, by simp, by simp⟩
theorem OInv.next {w wr w2 : World} {v v' : Value} {s r : ByteArray} {fs : List (List UInt8)} {o : Obj} (h : OInv w wr v s r fs) (h0 : 0 < r.size)
    (hown : OwnS w.heap.size w2 v' (BB fs ++ [bs (stp (ls r)).1])) (hg : (wr.alloc o).grownBy w2 v.ownBlock) : OInv w w2 v' s (rest1 r) (fs ++ [(stp (ls r)).1]) := by
  refine ⟨by rw [BB_snoc]; exact hown, ?_, ?_, ?_, ?_⟩
  · exact h.bel.trans (((below_alloc wr o).mono h.bel.size).trans (ownS_below (h.o.alloc o) hg (Nat.le_trans h.bel.size (below_alloc wr o).size)))
  · rw [rest1_ls, ← h.rd, rq_cons (ls_ne h0)]; simp
  · rw [rest1_size, List.length_append, List.length_singleton]; have := h.n; omega
  · intro x hx
    rw [List.mem_append, List.mem_singleton] at hx
    rcases hx with hx | rfl
    · exact h.b x hx
    · have := (stp_bound h0).1; have := h.n; omega
theorem OInv.done {w wr : World} {v : Value} {s r : ByteArray} {fs : List (List UInt8)} (h : OInv w wr v s r fs) (h0 : r.size = 0) : fs = rq (ls s) := by
  have e : ls r = [] := List.eq_nil_of_length_eq_zero (by rw [ls_len, h0])
  have := h.rd
  rw [e, rq_nil, List.append_nil] at this; exact this
def strOf : Value → Nat
  | .string r => r.size
  | _ => 0
theorem emp_size (r : ByteArray) : r.toList.isEmpty = decide (r.size = 0) := by
  rw [emp_of, Bool.eq_iff_iff, emp_iff]; simp

set_option maxHeartbeats 6400000 in
theorem ref_Split (s : ByteArray) (w : World) (hm : s.size ≤ 9223372036854775807) : Calls Tryd.prog 17 #[.string s] w (SRes w (ls s)) := by
  have HL := Lib.hid (ls_len s)
  by_cases hbig : 1024 < s.size
  · have i1 : (1024 : Int) < (s.size : Int) := by omega
    have HE := Lib.hid (splitE_big (l := ls s) (by rw [ls_len]; exact hbig))
    clear hbig
    go_enter Tryd.func17, Tryd.ntmps17
    go_wp2_with fail
    go_ret2
    exact SRes.no HE.out (by decide) (Below.refl _ _)
  · have i1 : decide ((1024 : Int) < (s.size : Int)) = false := decide_eq_false (by omega)
    have HNB : Hid (¬ 1024 < (ls s).length) := by show ¬ _; rw [ls_len]; exact hbig
    have hsm : s.size ≤ 1024 := by omega
    clear hbig
    go_enter Tryd.func17, Tryd.ntmps17
    go_wp2_with fail
    go_loopw [4, 5] (fun v rv wr => ∃ (r : ByteArray) (fs : List (List UInt8)), rv = .string r ∧ OInv w wr v s r fs) (fun _ rv _ => strOf rv)
    case atStart => exact ⟨s, [], rfl, OInv.start w s⟩
    case round =>
      obtain ⟨r, fs, rfl, hinv⟩ := hrel
      have HI := Lib.hid hinv
      have hbl : (BB fs).length ≤ 100000 := by rw [BB_len]; have := hinv.n; omega
      have HBL := Lib.hid hbl
      have HBR : Hid (w.heap.size ≤ wr.heap.size) := hinv.bel.size
      have hrs : r.size ≤ 1024 := by have := hinv.n; omega
      clear hbl
      rcases Nat.eq_zero_or_pos r.size with h0 | h0
      · have hq : r.toList.isEmpty = true := by rw [emp_size, decide_eq_true h0]
        have e := hinv.done h0
        subst e
        obtain ⟨A1, c1, rfl, hc1, hc2, hs1, -, -⟩ := hinv.o.one
        have HSZ := Lib.hid (siz_of (M := rq (ls s)) (n := s.size) hinv.b (by omega))
        have HJ := Lib.hid (ref_Join (BB (rq (ls s))) A1 c1 wr hs1 HSZ.out (by have := HBL.out; omega))
        rw [LL_BB] at HJ
        clear hinv hs1 h0
        go_wp2_with fail
        refine HJ.out.mono ?_
        rintro e1 w2 ⟨rfl, rfl⟩
        by_cases hj : joinE (rq (ls s)) = 0
        · have hjl : joinL (rq (ls s)) = lineL (rq (ls s)) := by unfold joinL; rw [if_pos hj]
          by_cases hl : lineL (rq (ls s)) = ls s
          · have hq2 := beq_yes (a := bs (joinL (rq (ls s)))) (b := s) (by rw [hjl, hl]; exact bs_of s)
            have HS := Lib.hid (splitL_ok' ⟨hj, hl⟩)
            rw [hj]
            clear hl hjl
            go_wp2_with fail
            go_ret2
            exact ⟨_, ret_sli HS.out.1.symm, by rw [HS.out.2]; exact HI.out.o, HI.out.bel⟩
          · have hq2 := beq_no (a := bs (joinL (rq (ls s)))) (b := s) (fun e => hl (by rw [← hjl]; exact bs_inj (e.trans (bs_of s).symm)))
            have HE := Lib.hid (splitE_no' HNB.out (fun h => hl h.2))
            rw [hj]
            clear hl hjl
            go_wp2_with fail
            go_ret2
            exact SRes.no HE.out (by decide) HI.out.bel
        · have HE := Lib.hid (splitE_no' HNB.out (fun h => hj h.1))
          have hq2 : (joinE (rq (ls s)) == 0) = false := beq_false_of_ne hj
          go_wp2_with fail
          go_ret2
          exact SRes.no HE.out (by decide) HI.out.bel
      · have hq : r.toList.isEmpty = false := by rw [emp_size, decide_eq_false (by omega)]
        have HG0 := Lib.hid (str_get? r h0)
        have hb0 := byt_beq (b := r[0]) 34 (n := 34) rfl
        obtain ⟨n, hn⟩ : ∃ n, n = (stp (ls r)).2 := ⟨_, rfl⟩
        obtain ⟨x, hx⟩ : ∃ x, x = (stp (ls r)).1 := ⟨_, rfl⟩
        obtain ⟨m, hmm⟩ : ∃ m, m = min (n + 1) r.size := ⟨_, rfl⟩
        have hn2 : n ≤ r.size := by rw [hn]; exact (stp_bound h0).2
        have hmi : min ((n : Int) + 1) (r.size : Int) = (m : Int) := by omega
        have hm1 : m ≤ r.size := by omega
        have hrest : r.extract m r.size = rest1 r := by rw [hmm, hn]; rfl
        have hrlt : (rest1 r).size < r.size := by rw [rest1_size]; omega
        have HX := Lib.hid hx
        have HRL := Lib.hid hrlt
        cases h34 : r[0] == 34 with
        | true =>
          rw [h34] at hb0
          have hb1 : (((r[0].toNat : Nat) : Int) != 34) = false := by rw [bne, hb0]; rfl
          have hst := stp_quoted h0 (by simpa using h34)
          have HC := Lib.hid (ref_quoted r wr (by omega) h0)
          rw [show quF r = x by rw [hx, hst], show quN r = n by rw [hn, hst]] at HC
          clear hst h34 hn hx hmm hinv hrlt
          go_wp2_with fail
          refine HC.out.mono ?_
          rintro e1 w1 ⟨rfl, rfl⟩
          go_wp2_with fail
          go_loop [7] (fun i => i = .int .i64 (n : Int)) (fun _ => 0)
          case atStart => rfl
          case round =>
            subst hrel
            cases hxe : (bs x).toList.isEmpty with
            | true =>
              by_cases hnl : n < r.size
              · have j1 : (n : Int) < (r.size : Int) := by omega
                go_wp2_with (at_builtin; refine append_str rfl _ _ rfl w.heap.size _ (BB fs) rfl (HI.out.o.alloc _) wr.heap.size 1 (bs x) rfl (str_one _ _ _ rfl) (by have := HBL.out; omega) (by simp; have := HBR.out; omega) ?_; intro v3 w2 hown2 hg2 hat2; refine Hid.out ?_)
                refine Lib.hid ?_
                have HI2 := Lib.hid (HI.out.next h0 (by rw [← HX.out]; exact hown2) hg2)
                clear hown2 hg2 hat2
                go_wp2_with fail
                go_roundw
                case rel => exact ⟨rest1 r, _, rfl, HI2.out⟩
                case measure => exact HRL.out
              · have j1 : decide ((n : Int) < (r.size : Int)) = false := decide_eq_false (by omega)
                go_wp2_with (at_builtin; refine append_str rfl _ _ rfl w.heap.size _ (BB fs) rfl (HI.out.o.alloc _) wr.heap.size 1 (bs x) rfl (str_one _ _ _ rfl) (by have := HBL.out; omega) (by simp; have := HBR.out; omega) ?_; intro v3 w2 hown2 hg2 hat2; refine Hid.out ?_)
                refine Lib.hid ?_
                have HI2 := Lib.hid (HI.out.next h0 (by rw [← HX.out]; exact hown2) hg2)
                clear hown2 hg2 hat2
                go_wp2_with fail
                go_roundw
                case rel => exact ⟨rest1 r, _, rfl, HI2.out⟩
                case measure => exact HRL.out
            | false =>
              go_wp2_with (at_builtin; refine append_str rfl _ _ rfl w.heap.size _ (BB fs) rfl (HI.out.o.alloc _) wr.heap.size 1 (bs x) rfl (str_one _ _ _ rfl) (by have := HBL.out; omega) (by simp; have := HBR.out; omega) ?_; intro v3 w2 hown2 hg2 hat2; refine Hid.out ?_)
              refine Lib.hid ?_
              have HI2 := Lib.hid (HI.out.next h0 (by rw [← HX.out]; exact hown2) hg2)
              clear hown2 hg2 hat2
              go_wp2_with fail
              go_roundw
              case rel => exact ⟨rest1 r, _, rfl, HI2.out⟩
              case measure => exact HRL.out
        | false =>
          rw [h34] at hb0
          have hb1 : (((r[0].toNat : Nat) : Int) != 34) = true := by rw [bne, hb0]; rfl
          have hst := stp_other h0 (by simpa using h34)
          have hnt : n = twN r := by rw [hn, hst]
          have hxt : r.extract 0 n = bs x := by rw [ext_bs, hx, hst, ← hnt]; simp [ls]
          have HNT := Lib.hid hnt
          clear hst h34 hn hx hmm hinv hrlt hnt
          go_wp2_with fail
          go_loop [7] (fun i => ∃ j : Nat, i = .int .i64 (j : Int) ∧ j ≤ twN r) (fun i => r.size - (intOf i).toNat)
          case atStart => exact ⟨0, rfl, Nat.zero_le _⟩
          case round =>
            obtain ⟨j, rfl, hj⟩ := hrel
            have HJJ := Lib.hid hj
            have hjr : j ≤ r.size := Nat.le_trans hj (twN_le r)
            clear hj
            rcases Nat.lt_or_ge j r.size with hlt | hge
            · have HG := Lib.hid (str_get? r hlt)
              have hb := byt_beq (b := r[j]) 32 (n := 32) rfl
              have jl : (j : Int) < (r.size : Int) := by omega
              cases h32 : r[j] == 32 with
              | false =>
                rw [h32] at hb
                have hb2 : (((r[j].toNat : Nat) : Int) != 32) = true := by rw [bne, hb]; rfl
                have HN := Lib.hid (twN_next HJJ.out HG.out h32)
                clear h32
                go_wp2_with fail
                go_round
                case rel => exact ⟨j + 1, by go_num, HN.out⟩
                case measure => simp [intOf]; omega
              | true =>
                rw [h32] at hb
                have hb2 : (((r[j].toNat : Nat) : Int) != 32) = false := by rw [bne, hb]; rfl
                have e : n = j := HNT.out.trans (twN_stop HJJ.out HG.out h32)
                subst e
                clear h32
                go_wp2_with (at_builtin; refine append_str rfl _ _ rfl w.heap.size _ (BB fs) rfl (HI.out.o.alloc _) wr.heap.size 1 (bs x) rfl (str_one _ _ _ rfl) (by have := HBL.out; omega) (by simp; have := HBR.out; omega) ?_; intro v3 w2 hown2 hg2 hat2; refine Hid.out ?_)
                refine Lib.hid ?_
                have HI2 := Lib.hid (HI.out.next h0 (by rw [← HX.out]; exact hown2) hg2)
                clear hown2 hg2 hat2
                go_wp2_with fail
                go_roundw
                case rel => exact ⟨rest1 r, _, rfl, HI2.out⟩
                case measure => exact HRL.out
            · have e : n = j := by have h1 := HNT.out; have h2 := HJJ.out; have h3 := twN_le r; omega
              subst e
              have jl : decide ((n : Int) < (r.size : Int)) = false := decide_eq_false (by omega)
              go_wp2_with (at_builtin; refine append_str rfl _ _ rfl w.heap.size _ (BB fs) rfl (HI.out.o.alloc _) wr.heap.size 1 (bs x) rfl (str_one _ _ _ rfl) (by have := HBL.out; omega) (by simp; have := HBR.out; omega) ?_; intro v3 w2 hown2 hg2 hat2; refine Hid.out ?_)
              refine Lib.hid ?_
              have HI2 := Lib.hid (HI.out.next h0 (by rw [← HX.out]; exact hown2) hg2)
              clear hown2 hg2 hat2
              go_wp2_with fail
              go_roundw
              case rel => exact ⟨rest1 r, _, rfl, HI2.out⟩
              case measure => exact HRL.out
#print axioms ref_Split
end Go.Proofs.YthiebggamfmjgaaDoor.Field
