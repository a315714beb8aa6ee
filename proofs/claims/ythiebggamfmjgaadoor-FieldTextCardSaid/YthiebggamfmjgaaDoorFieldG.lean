/- Contracts of Split of the program, and of quoted of the reference. -/
import Derived.Test.YthiebggamfmjgaaDoorFieldF
namespace Go.Proofs.YthiebggamfmjgaaDoor.Field
open Go.ChangeShapes Go.WideShapes Go.RowKit
set_option linter.unusedVariables false
set_option maxRecDepth 100000

theorem rdE_bound : ∀ (l : List UInt8) (q e : Bool) (f : List UInt8) (fs : List (List UInt8)) (n : Nat), f.length + l.length ≤ n → (∀ x ∈ fs, x.length ≤ n) → ∀ x ∈ rdE q e f fs l, x.length ≤ n := by
  intro l
  induction l with
  | nil =>
    intro q e f fs n hn hf x hx
    simp only [rdE, List.mem_append, List.mem_singleton] at hx
    rcases hx with hx | rfl
    · exact hf x hx
    · simpa using hn
  | cons b r ih =>
    intro q e f fs n hn hf x hx
    simp only [List.length_cons] at hn
    rw [rdE] at hx
    split at hx
    · exact ih _ _ _ _ n (by simp; omega) hf x hx
    · split at hx
      · exact ih _ _ _ _ n (by omega) hf x hx
      · split at hx
        · refine ih _ _ _ _ n (by simp; omega) (fun y hy => ?_) x hx
          simp only [List.mem_append, List.mem_singleton] at hy
          rcases hy with hy | rfl
          · exact hf y hy
          · omega
        · split at hx
          · exact ih _ _ _ _ n (by omega) hf x hx
          · exact ih _ _ _ _ n (by simp; omega) hf x hx
theorem readL_bound {l x : List UInt8} (hx : x ∈ readL l) : x.length ≤ l.length := by
  unfold readL at hx
  split at hx
  · cases hx
  · exact rdE_bound l false false [] [] l.length (by simp) (by simp) x hx
theorem rdE_count : ∀ (l : List UInt8) (q e : Bool) (f : List UInt8) (fs : List (List UInt8)), (rdE q e f fs l).length ≤ fs.length + l.length + 1 := by
  intro l
  induction l with
  | nil => intro q e f fs; simp [rdE]
  | cons b r ih =>
    intro q e f fs
    rw [rdE, List.length_cons]
    split
    · have := ih q false (f ++ [b]) fs; omega
    · split
      · have := ih (!q) false f fs; omega
      · split
        · have := ih q false [] (fs ++ [f]); simp at this; omega
        · split
          · have := ih q true f fs; omega
          · have := ih q false (f ++ [b]) fs; omega
theorem readL_count (l : List UInt8) : (readL l).length ≤ l.length + 1 := by
  unfold readL
  split
  · simp
  · have := rdE_count l false false [] []; simpa [rd] using this
theorem siz_of {M : List (List UInt8)} {n : Nat} (h : ∀ x ∈ M, x.length ≤ n) (hn : n ≤ 9000000000) : Siz (BB M) := by
  intro s hs
  obtain ⟨x, hx, rfl⟩ := List.mem_map.mp hs
  have := h x hx
  rw [bs_size]; unfold maxLen; omega
theorem beq_str {a b : ByteArray} : (a.toList == b.toList) = decide (a = b) := by
  rw [ByteArray.toList_eq, ByteArray.toList_eq]
  by_cases h : a = b
  · rw [decide_eq_true h, h]; simp
  · rw [decide_eq_false h]
    have : ¬ a.data.toList = b.data.toList := fun e => h (str_ext e)
    simpa using this
theorem beq_yes {a b : ByteArray} (h : a = b) : (a.toList == b.toList) = true := by rw [beq_str, decide_eq_true h]
theorem beq_no {a b : ByteArray} (h : ¬ a = b) : (a.toList == b.toList) = false := by rw [beq_str, decide_eq_false h]
theorem ret_sli {k : IntKind} {v : Value} {a b : Int} (h : a = b) : Ending.returned (.tuple #[v, .int k a]) = .returned (.tuple #[v, .int k b]) := by rw [h]
/-- What Split returns. -/
def SRes (w : World) (l : List UInt8) (e : Ending) (w' : World) : Prop := ∃ v, e = .returned (.tuple #[v, .int .i64 (splitE l)]) ∧ OwnS w.heap.size w' v (BB (splitL l)) ∧ Below w.heap.size w w'
theorem SRes.no {w w' : World} {l : List UInt8} {n : Int} (h : splitE l = n) (hn : n ≠ 0) (hb : Below w.heap.size w w') : SRes w l (.returned (.tuple #[.slice none 0 0, .int .i64 n])) w' :=
  ⟨_, ret_sli h.symm, by rw [splitL_no (by rw [h]; exact hn)]; exact OwnS.nil _ _, hb⟩

set_option maxHeartbeats 1600000 in
theorem field_Split (s : ByteArray) (w : World) (hm : s.size ≤ 9223372036854775807) : Calls Tryd.prog 16 #[.string s] w (SRes w (ls s)) := by
  have HL := Lib.hid (ls_len s)
  by_cases hbig : 1024 < s.size
  · have i1 : (1024 : Int) < (s.size : Int) := by omega
    have HE := Lib.hid (splitE_big (l := ls s) (by rw [ls_len]; exact hbig))
    clear hbig
    go_enter Tryd.func16, Tryd.ntmps16
    go_wp2_with fail
    go_ret2
    exact SRes.no HE.out (by decide) (Below.refl _ _)
  · have i1 : decide ((1024 : Int) < (s.size : Int)) = false := decide_eq_false (by omega)
    have HNB : Hid (¬ 1024 < (ls s).length) := by show ¬ _; rw [ls_len]; exact hbig
    have HC := Lib.hid (field_read s w (by omega))
    have hsm : s.size ≤ 1024 := by omega
    clear hbig
    go_enter Tryd.func16, Tryd.ntmps16
    go_wp2_with fail
    refine HC.out.mono ?_
    rintro e1 w1 ⟨v1, rfl, ho1, hb1⟩
    obtain ⟨A1, c1, rfl, hc1, hc2, hs1, -, -⟩ := ho1.one
    have HB1 := Lib.hid hb1
    have HO1 := Lib.hid ho1
    have HSZ := Lib.hid (siz_of (M := readL (ls s)) (n := (ls s).length) (fun x hx => readL_bound hx) (by have := HL.out; omega))
    have HJ := Lib.hid (field_Join (BB (readL (ls s))) A1 c1 w1 hs1 HSZ.out (by rw [BB_len]; have := readL_count (ls s); have := HL.out; omega))
    rw [LL_BB] at HJ
    clear hb1 ho1 hs1
    go_wp2_with fail
    refine HJ.out.mono ?_
    rintro e1 w2 ⟨rfl, hb2⟩
    have HB2 := Lib.hid hb2
    clear hb2
    by_cases hj : joinE (readL (ls s)) = 0
    · have hjl : joinL (readL (ls s)) = lineL (readL (ls s)) := by unfold joinL; rw [if_pos hj]
      by_cases hl : lineL (readL (ls s)) = ls s
      · have hq := beq_yes (a := bs (joinL (readL (ls s)))) (b := s) (by rw [hjl, hl]; exact bs_of s)
        have HS : Hid (Sp (ls s) (readL (ls s))) := ⟨hj, hl⟩
        rw [hj]
        clear hl hjl
        go_wp2_with fail
        go_ret2
        exact ⟨_, ret_sli (splitE_ok.mpr HS.out).symm, by rw [splitL_ok HS.out]; exact HO1.out.on HB2.out, bstep HB1.out HB2.out⟩
      · have hq := beq_no (a := bs (joinL (readL (ls s)))) (b := s) (fun e => hl (by rw [← hjl]; exact bs_inj (e.trans (bs_of s).symm)))
        have HE := Lib.hid (splitE_no HNB.out (fun h => hl h.2))
        rw [hj]
        clear hl hjl
        go_wp2_with fail
        go_ret2
        exact SRes.no HE.out (by decide) (bstep HB1.out HB2.out)
    · have HE := Lib.hid (splitE_no HNB.out (fun h => hj h.1))
      have hq : (joinE (readL (ls s)) == 0) = false := beq_false_of_ne hj
      go_wp2_with fail
      go_ret2
      exact SRes.no HE.out (by decide) (bstep HB1.out HB2.out)

/-! ### quoted of the reference -/
theorem quE_bound : ∀ (l : List UInt8) (e : Bool) (s : List UInt8) (i : Nat), (quE e s i l).1.length ≤ s.length + l.length + (if e then 1 else 0) ∧ i ≤ (quE e s i l).2 ∧ (quE e s i l).2 ≤ i + l.length := by
  intro l
  induction l with
  | nil => intro e s i; cases e <;> simp [quE]
  | cons b r ih =>
    intro e s i
    rw [quE, List.length_cons]
    split
    · have := ih false (s ++ [b]) (i + 1); simp at this ⊢; omega
    · split
      · simp
      · split
        · have := ih true s (i + 1); simp at this ⊢; omega
        · have := ih false (s ++ [b]) (i + 1); simp at this ⊢; omega
theorem qu_bound (l : List UInt8) (s : List UInt8) (i : Nat) : (qu s i l).1.length ≤ s.length + l.length ∧ i ≤ (qu s i l).2 ∧ (qu s i l).2 ≤ i + l.length := by
  have := quE_bound l false s i
  simpa [qu] using this

/-- What quoted returns. -/
def quF (s : ByteArray) : List UInt8 := (qu [] 1 ((ls s).drop 1)).1
def quN (s : ByteArray) : Nat := (qu [] 1 ((ls s).drop 1)).2
def quIs (s : ByteArray) (f : List UInt8) (k : Nat) : Prop := qu [] 1 ((ls s).drop 1) = qu f k ((ls s).drop k)
def quEnd (s : ByteArray) (f : List UInt8) (n : Nat) : Prop := quF s = f ∧ quN s = n
theorem quEnd_of {s : ByteArray} {f : List UInt8} {n : Nat} (h : qu [] 1 ((ls s).drop 1) = (f, n)) : quEnd s f n := ⟨by unfold quF; rw [h], by unfold quN; rw [h]⟩
set_option maxHeartbeats 1600000 in
theorem ref_quoted (s : ByteArray) (w : World) (hm : s.size ≤ 100000) (h1 : 1 ≤ s.size) :
    Calls Tryd.prog 33 #[.string s] w fun e w' => e = .returned (.tuple #[.string (bs (quF s)), .int .i64 (quN s : Nat)]) ∧ w = w' := by
  have fin : ∀ {f : List UInt8} {n : Nat} {x : Int}, quEnd s f n → x = (n : Int) → Ending.returned (.tuple #[.string (bs f), .int .i64 x]) = .returned (.tuple #[.string (bs (quF s)), .int .i64 (quN s : Nat)]) := by
    intro f n x h hx
    rw [h.1, h.2, hx]
  go_enter Tryd.func33, Tryd.ntmps33
  go_wp2_with fail
  go_loop [4, 5] (fun o i => ∃ (k : Nat) (f : List UInt8), 1 ≤ k ∧ k ≤ s.size ∧ o = .string (bs f) ∧ i = .int .i64 k ∧ f.length ≤ k ∧ quIs s f k) (fun _ i => s.size - (intOf i).toNat)
  case atStart => exact ⟨1, [], Nat.le_refl _, h1, rfl, rfl, by simp, rfl⟩
  case round =>
    obtain ⟨k, f, hk1, hk, rfl, rfl, hf, hq⟩ := hrel
    have HQ := Lib.hid hq
    clear hq
    rcases Nat.lt_or_ge k s.size with hlt | hge
    · have HG := Lib.hid (str_get? s hlt)
      have HD := Lib.hid (drop_at HG.out)
      have he := ext_one s hlt
      have i1 : (0 : Int) ≤ (k : Int) := by omega
      have i2 : (k : Int) ≤ (k : Int) + 1 := by omega
      have i3 : (k : Int) + 1 ≤ (s.size : Int) := by omega
      rcases byte_ways s[k] with ⟨t1, e1⟩ | ⟨t1, t2, e1⟩ | ⟨t1, t2, e1⟩
      · have HN := Lib.hid (quEnd_of (show qu [] 1 ((ls s).drop 1) = (f, k + 1) by rw [(show qu [] 1 ((ls s).drop 1) = _ from HQ.out), HD.out, e1, qu_quote]))
        clear e1
        go_wp2_with fail
        go_ret2
        exact ⟨fin HN.out (by omega), rfl⟩
      · by_cases hl : k + 1 = s.size
        · have j1 : decide ((k : Int) + 1 < (s.size : Int)) = false := decide_eq_false (by omega)
          have C2 := cat_bs f [s[k]] (by simp; omega)
          have HN := Lib.hid (show quIs s (f ++ [s[k]]) (k + 1) by show qu [] 1 ((ls s).drop 1) = _; rw [(show qu [] 1 ((ls s).drop 1) = _ from HQ.out), HD.out, e1, hl, drop_end, qu_last, qu_nil, hl])
          clear e1 hl
          go_wp2_with fail
          go_round
          case rel => exact ⟨k + 1, f ++ [s[k]], by omega, by omega, rfl, by go_num, by simp; omega, HN.out⟩
          case measure => simp [intOf]; omega
        · have hlt2 : k + 1 < s.size := by omega
          have j1 : (k : Int) + 1 < (s.size : Int) := by omega
          have HG2 := Lib.hid (str_get? s hlt2)
          have he2 := ext_one s hlt2
          have C2 := cat_bs f [s[k + 1]] (by simp; omega)
          have HN := Lib.hid (show quIs s (f ++ [s[k + 1]]) (k + 1 + 1) by show qu [] 1 ((ls s).drop 1) = _; rw [(show qu [] 1 ((ls s).drop 1) = _ from HQ.out), HD.out, e1, drop_at HG2.out, qu_back])
          have j2 : (0 : Int) ≤ (k : Int) + 1 := by omega
          have j3 : (k : Int) + 1 ≤ (k : Int) + 1 + 1 := by omega
          have j4 : (k : Int) + 1 + 1 ≤ (s.size : Int) := by omega
          have hsl : ∀ W : World, (Instr.slice 9 (.string s) (some (.int .i64 ((k : Int) + 1))) (some (.int .i64 ((k : Int) + 1 + 1))) none).run Tryd.prog W = .ok (.string (bs [s[k + 1]])) W := fun W => by
            rw [run_slice_string W 9 s .i64 .i64 ((k : Int) + 1) ((k : Int) + 1 + 1) Tryd.underlying9 j2 j3 j4, ← he2]; rfl
          clear e1 he he2 hl
          go_wp2_with fail
          go_round
          case rel => exact ⟨k + 2, f ++ [s[k + 1]], by omega, by omega, rfl, by go_num, by simp; omega, HN.out⟩
          case measure => simp [intOf]; omega
      · have C2 := cat_bs f [s[k]] (by simp; omega)
        have HN := Lib.hid (show quIs s (f ++ [s[k]]) (k + 1) by show qu [] 1 ((ls s).drop 1) = _; rw [(show qu [] 1 ((ls s).drop 1) = _ from HQ.out), HD.out, qu_other _ _ _ _ (isQ_no e1).1 (isQ_no e1).2])
        clear e1
        go_wp2_with fail
        go_round
        case rel => exact ⟨k + 1, f ++ [s[k]], by omega, by omega, rfl, by go_num, by simp; omega, HN.out⟩
        case measure => simp [intOf]; omega
    · obtain rfl : k = s.size := by omega
      have HN := Lib.hid (quEnd_of (show qu [] 1 ((ls s).drop 1) = (f, s.size) by rw [(show qu [] 1 ((ls s).drop 1) = _ from HQ.out), drop_end, qu_nil]))
      go_wp2_with fail
      go_ret2
      exact ⟨fin HN.out rfl, rfl⟩
#print axioms field_Split
#print axioms ref_quoted
end Go.Proofs.YthiebggamfmjgaaDoor.Field
