/- Lists of lists of strings in memory; contracts of Same and SameAll of the reference, and of strings.Cut at a line feed. -/
import Derived.Test.YthiebggamfmjgaaDoorFieldH
namespace Go.Proofs.YthiebggamfmjgaaDoor.Field
open Go.ChangeShapes Go.WideShapes Go.RowKit
set_option linter.unusedVariables false
set_option maxRecDepth 100000

theorem Strs.drewN {w : World} {A : Option Addr} {L : List ByteArray} (h : Strs w A L) (n : Nat) : Strs (w.drewN n) A L := h
set_option maxHeartbeats 1600000 in
theorem ref_Same (L M : List ByteArray) (A A' : Option Addr) (c c' : Nat) (w : World) (ha : Strs w A L) (hb : Strs w A' M) (hl : L.length ≤ 9223372036854775807) (hm : M.length ≤ 9223372036854775807) :
    Calls Tryd.prog 18 #[.slice A L.length c, .slice A' M.length c'] w fun e w' => e = .returned (.bool (decide (L = M))) ∧ ∃ n, w' = w.drewN n := by
  have HA := Lib.hid ha
  have HB := Lib.hid hb
  clear ha hb
  by_cases h : L.length = M.length
  · have h' : ((L.length : Int) == (M.length : Int)) = true := by simp [h]
    have h2 : ((L.length : Int) != (M.length : Int)) = false := by simp [h]
    have HL := Lib.hid h
    clear h
    go_enter Tryd.func18, Tryd.ntmps18
    go_wp2_with fail
    go_loopw [5] (fun i wr => ∃ k n : Nat, k ≤ L.length ∧ i = .int .i64 k ∧ L.take k = M.take k ∧ wr = w.drewN n) (fun i _ => L.length - (intOf i).toNat)
    case atStart => exact ⟨0, 0, Nat.zero_le _, rfl, rfl, rfl⟩
    case round =>
      obtain ⟨k, n, hk, rfl, hv, hw⟩ := hrel
      have HV := Lib.hid hv
      have HW := Lib.hid hw
      clear hv hw
      rcases Nat.lt_or_ge k L.length with hlt | hge
      · have hlt2 : k < M.length := by have := HL.out; omega
        obtain ⟨s, hs⟩ := get_lt hlt
        obtain ⟨t, ht⟩ := get_lt hlt2
        obtain ⟨b1, off1, rfl, hb1, hc1⟩ := (show Strs wr A L from HW.out ▸ HA.out) k s hs
        obtain ⟨b2, off2, rfl, hb2, hc2⟩ := (show Strs wr A' M from HW.out ▸ HB.out) k t ht
        have HS := Lib.hid hs
        have HT := Lib.hid ht
        have i1 : (k : Int) < (L.length : Int) := by omega
        have i2 : (0 : Int) ≤ (k : Int) := by omega
        have i3 : (k : Int) < (M.length : Int) := by omega
        clear hs ht
        by_cases e : s = t
        · have hq := beq_yes e
          have E := Lib.hid e
          clear e
          go_wp2_with fail
          go_quiet (fail)
          go_wp2_with fail
          go_roundw
          case rel => exact ⟨k + 1, _, by omega, by go_num, by rw [take_snoc_of HS.out, take_snoc_of HT.out, HV.out, E.out], by rw [HW.out, World.drewN_drewN]⟩
          case measure => simp [intOf]; omega
        · have hq := beq_no e
          have E : Hid (decide (L = M) = false) := decide_eq_false fun h => by
            subst h
            have e1 := HS.out
            rw [HT.out] at e1; exact e (Option.some.inj e1).symm
          clear e
          go_wp2_with fail
          go_quiet (fail)
          go_wp2_with fail
          go_ret
          exact ⟨ret_bool E.out.symm, n + nq, by rw [HW.out, World.drewN_drewN]⟩
      · obtain rfl : k = L.length := by omega
        have E : Hid (decide (L = M) = true) := decide_eq_true (by
          have := HV.out
          rw [List.take_length, HL.out, List.take_length] at this; exact this)
        go_wp2_with fail
        go_ret
        exact ⟨ret_bool E.out.symm, n, HW.out⟩
  · have hl' : ((L.length : Int) == (M.length : Int)) = false := beq_false_of_ne (by omega)
    have hl2 : ((L.length : Int) != (M.length : Int)) = true := by simp; omega
    have E : Hid (decide (L = M) = false) := decide_eq_false fun h' => h (by rw [h'])
    clear h
    go_enter Tryd.func18, Tryd.ntmps18
    go_wp2_with fail
    go_ret
    exact ⟨ret_bool E.out.symm, 0, rfl⟩
theorem same_is {L M : List ByteArray} {b : Bool} (h : decide (L = M) = b) (A A' : Option Addr) (c c' : Nat) (w : World) (ha : Strs w A L) (hb : Strs w A' M) (hl : L.length ≤ 9223372036854775807) (hm : M.length ≤ 9223372036854775807) :
    Calls Tryd.prog 18 #[.slice A L.length c, .slice A' M.length c'] w fun e w' => e = .returned (.bool b) ∧ ∃ n, w' = w.drewN n := h ▸ ref_Same L M A A' c c' w ha hb hl hm

/-! ### Lists of lists of strings -/
/-- At the address lie slices of the strings of each list. -/
def Grd (w : World) (A : Option Addr) (M : List (List ByteArray)) : Prop :=
  ∀ (k : Nat) (L : List ByteArray), M[k]? = some L → ∃ b off, A = some ⟨b, off, none⟩ ∧ b < w.heap.size ∧
    ∃ A' c', w.cell? ⟨b, off + k, none⟩ = some (.slice A' L.length c') ∧ L.length ≤ c' ∧ c' ≤ maxLen ∧ Strs w A' L ∧ ∀ a, A' = some a → a.block < w.heap.size
theorem Grd.nil (w : World) (A : Option Addr) : Grd w A [] := fun k s h => by simp at h
theorem Grd.on {w w' : World} {A : Option Addr} {M : List (List ByteArray)} (h : Grd w A M) (hb : Below w.heap.size w w') : Grd w' A M := by
  intro k L hk
  obtain ⟨b, off, e, hlt, A', c', hc, h1, h2, h3, h4⟩ := h k L hk
  exact ⟨b, off, e, Nat.lt_of_lt_of_le hlt hb.size, A', c', (hb.cell (p := ⟨b, off + k, none⟩) hlt).trans hc, h1, h2, h3.on hb, fun a e => Nat.lt_of_lt_of_le (h4 a e) hb.size⟩
/-- A slice of the call's own that holds such slices, none of them in its own block. -/
def OwnG (B : Nat) (w : World) (v : Value) (M : List (List ByteArray)) : Prop :=
  ∃ xs, w.ownsRow B 22 1 v M.length xs ∧ ∀ (k : Nat) (L : List ByteArray), M[k]? = some L →
    ∃ A c, xs[k]? = some (.slice A L.length c) ∧ L.length ≤ c ∧ c ≤ maxLen ∧ Strs w A L ∧ ∀ a, A = some a → v.ownBlock ≠ some a.block ∧ a.block < w.heap.size
theorem OwnG.nil (B : Nat) (w : World) : OwnG B w (.slice none 0 0) [] := ⟨[], World.ownsRow_nil _ _ _ _, fun k L h => by simp at h⟩
theorem OwnG.lt {B : Nat} {w : World} {v : Value} {M : List (List ByteArray)} (h : OwnG B w v M) : ∀ k, v.ownBlock = some k → k < w.heap.size := fun k hk => by obtain ⟨xs, h1, _⟩ := h; exact (World.ownsRow.lt h1 k hk).2
theorem OwnG.ge {B : Nat} {w : World} {v : Value} {M : List (List ByteArray)} (h : OwnG B w v M) : ∀ k, v.ownBlock = some k → B ≤ k := fun k hk => by obtain ⟨xs, h1, _⟩ := h; exact (World.ownsRow.lt h1 k hk).1
theorem row_keep {B : Nat} {e : TypeId} {w w' : World} {v : Value} {n : Nat} {xs : List Value} (h : w.ownsRow B e 1 v n xs) (hk : ∀ k, v.ownBlock = some k → w'.heap[k]? = w.heap[k]?) : w'.ownsRow B e 1 v n xs := by
  obtain ⟨h1, h0 | ⟨g, cap, cur, rfl, h2, h3, h4⟩⟩ := h
  · exact ⟨h1, Or.inl h0⟩
  · exact ⟨h1, Or.inr ⟨g, cap, cur, rfl, h2, (hk g rfl).trans h3, h4⟩⟩
theorem OwnG.on {B : Nat} {w w' : World} {v : Value} {M : List (List ByteArray)} (h : OwnG B w v M) (hb : Below w.heap.size w w') : OwnG B w' v M := by
  have hlt := h.lt
  obtain ⟨xs, h1, h2⟩ := h
  refine ⟨xs, row_keep h1 fun k hk => hb.block k (hlt k hk), fun k L hk => ?_⟩
  obtain ⟨A, c, hx, g1, g2, g3, g4⟩ := h2 k L hk
  exact ⟨A, c, hx, g1, g2, g3.on hb, fun a e => ⟨(g4 a e).1, Nat.lt_of_lt_of_le (g4 a e).2 hb.size⟩⟩
theorem OwnG.grd {B : Nat} {w : World} {v : Value} {M : List (List ByteArray)} (h : OwnG B w v M) : ∃ A c, v = .slice A M.length c ∧ M.length ≤ c ∧ c ≤ maxLen ∧ Grd w A M ∧ ∀ a, A = some a → B ≤ a.block := by
  obtain ⟨xs, ⟨h1, ⟨rfl, h0⟩ | ⟨g, cap, cur, rfl, h2, h3, h4, h5, h6, h7⟩⟩, hx⟩ := h
  · have : M = [] := List.eq_nil_of_length_eq_zero h0
    subst this
    exact ⟨none, 0, rfl, Nat.le_refl _, by unfold maxLen; omega, Grd.nil _ _, by simp⟩
  · refine ⟨_, cap, rfl, h4, h5, fun k L hk => ?_, fun a e => by cases e; exact h2⟩
    obtain ⟨A, c, e, g1, g2, g3, g4⟩ := hx k L hk
    refine ⟨g, 0, rfl, (Array.getElem?_eq_some_iff.mp h3).1, A, c, ?_, g1, g2, g3, fun a e => (g4 a e).2⟩
    rw [cell_of_row w g _ cur _ (0, 0) h3, Nat.zero_add]
    rw [← h7, List.getElem?_take] at e
    split at e
    · simpa using e
    · cases e
theorem info_strs : (Tryd.prog.info? 22).map (fun i => (i.zero, i.size, i.bytes)) = some (some (.slice none 0 0), 1, 24) := by kernel_rfl
/-- 'append(s, x)', x a slice of strings in a block of its own. -/
theorem append_strs {w : World} {ops : Array Oper} {rest : List Oper} {o : Oper} {a : Act} {Q : Exit → Act → World → Prop} (hgd : o.guard = none) (s x : Operand)
    (ho : o.op = .call { callee := .builtin .append, args := #[s, x], argTypes := #[33, 33] })
    (B : Nat) (v : Value) (M : List (List ByteArray)) (hs : a.eval s = v) (hown : OwnG B w v M) (g c0 : Nat) (A : Option Addr) (L : List ByteArray) (m c : Nat) (hm : m = L.length) (hx : a.eval x = .slice (some ⟨g, 0, none⟩) 1 c0) (hz : w.cell? ⟨g, 0, none⟩ = some (.slice A m c))
    (hc : L.length ≤ c) (hc2 : c ≤ maxLen) (hL : Strs w A L) (hA : ∀ a, A = some a → v.ownBlock ≠ some a.block) (hAl : ∀ a, A = some a → a.block < w.heap.size)
    (hlen : M.length + 1 ≤ 1000000) (hB : B ≤ w.heap.size)
    (h : ∀ v' w', OwnG B w' v' (M ++ [L]) → w.grownBy w' v.ownBlock → wpList Tryd.prog ops Q rest (a.put o.dst v') w') : wpList Tryd.prog ops Q (o :: rest) a w := by
  subst hm
  obtain ⟨i0, hi0, hz0, hz1, hz2⟩ := info_parts info_strs
  have hlt := hown.lt
  obtain ⟨xs, h1, h2⟩ := hown
  have hxl : xs.length = M.length := by have := h1.1; omega
  refine wpList_append_own_at w hgd s x _ ho B 22 i0 (.slice none 0 0) 1 24 Tryd.underlying33 hi0 hz0 hz1 hz2 rfl (by decide) v M.length xs hs h1 ⟨g, 0, none⟩ 1 c0 [.slice A L.length c] hx rfl ?_ (by intro u hu; simp at hu; subst hu; rfl) (by unfold maxLen; omega) (by omega) hB ?_
  · intro j u hj
    match j, hj with
    | 0, hj => simp at hj; subst hj; rw [Addr.add_lit]; exact hz
  · intro v' w' hown' hg _ hat
    refine h v' w' ⟨xs ++ [.slice A L.length c], by rw [List.length_append, List.length_singleton]; exact hown', ?_⟩ hg
    intro k L' hk
    have keep : ∀ (A' : Option Addr) (L' : List ByteArray), Strs w A' L' → (∀ a, A' = some a → v.ownBlock ≠ some a.block) → Strs w' A' L' := fun A' L' hS hA' =>
      hS.keep hg.size fun b off e hlt => hg.block b hlt fun e2 => hA' ⟨b, off, none⟩ e e2.symm
    have sep : ∀ (A' : Option Addr), (∀ a, A' = some a → v.ownBlock ≠ some a.block) → (∀ a, A' = some a → a.block < w.heap.size) → ∀ a, A' = some a → v'.ownBlock ≠ some a.block ∧ a.block < w'.heap.size := fun A' h1 h2 a e => ⟨fun e2 => by
      rcases hat with e3 | e3
      · exact h1 a e (e3.symm.trans e2)
      · rw [e3] at e2
        have := h2 a e
        have := Option.some.inj e2
        omega, Nat.lt_of_lt_of_le (h2 a e) hg.size⟩
    rcases Nat.lt_or_ge k M.length with hl | hl
    · rw [List.getElem?_append_left hl] at hk
      obtain ⟨A', c', hx', g1, g2, g3, g4⟩ := h2 k L' hk
      exact ⟨A', c', by rw [List.getElem?_append_left (by omega)]; exact hx', g1, g2, keep _ _ g3 (fun a e => (g4 a e).1), sep A' (fun a e => (g4 a e).1) (fun a e => (g4 a e).2)⟩
    · have : k = M.length := by have := lt_get hk; simp at this; omega
      subst this
      rw [List.getElem?_append_right (Nat.le_refl _), Nat.sub_self] at hk
      simp at hk; subst hk
      exact ⟨A, c, by rw [← hxl, List.getElem?_append_right (Nat.le_refl _), Nat.sub_self]; rfl, hc, hc2, keep _ _ hL hA, sep A hA hAl⟩
theorem sl_one (w : World) (A : Option Addr) (n c : Nat) (t : TypeId) {g : Nat} (hg : w.heap.size = g) : (w.alloc (.cells #[.slice A n c] t)).cell? ⟨g, 0, none⟩ = some (.slice A n c) := by subst hg; simp
theorem ownG_below {B : Nat} {w w' : World} {v : Value} {M : List (List ByteArray)} (h : OwnG B w v M) (hg : w.grownBy w' v.ownBlock) (hB : B ≤ w.heap.size) : Below B w w' :=
  ⟨hg.os, hg.tape, hg.output, hg.size, fun i hi => hg.block i (Nat.lt_of_lt_of_le hi hB) fun e => by have := h.ge i e.symm; omega⟩
theorem OwnG.alloc {B : Nat} {w : World} {v : Value} {M : List (List ByteArray)} (h : OwnG B w v M) (o : Obj) : OwnG B (w.alloc o) v M := h.on (below_alloc w o)

/-! ### SameAll -/
set_option maxHeartbeats 1600000 in
theorem ref_SameAll (L M : List (List ByteArray)) (A A' : Option Addr) (c c' : Nat) (w : World) (ha : Grd w A L) (hb : Grd w A' M) (hl : L.length ≤ 9223372036854775807) (hm : M.length ≤ 9223372036854775807) :
    Calls Tryd.prog 21 #[.slice A L.length c, .slice A' M.length c'] w fun e w' => e = .returned (.bool (decide (L = M))) ∧ ∃ n, w' = w.drewN n := by
  have HA := Lib.hid ha
  have HB := Lib.hid hb
  clear ha hb
  by_cases h : L.length = M.length
  · have h' : ((L.length : Int) == (M.length : Int)) = true := by simp [h]
    have h2 : ((L.length : Int) != (M.length : Int)) = false := by simp [h]
    have HL := Lib.hid h
    clear h
    go_enter Tryd.func21, Tryd.ntmps21
    go_wp2_with fail
    go_loopw [5] (fun i wr => ∃ k n : Nat, k ≤ L.length ∧ i = .int .i64 k ∧ L.take k = M.take k ∧ wr = w.drewN n) (fun i _ => L.length - (intOf i).toNat)
    case atStart => exact ⟨0, 0, Nat.zero_le _, rfl, rfl, rfl⟩
    case round =>
      obtain ⟨k, n, hk, rfl, hv, hw⟩ := hrel
      have HV := Lib.hid hv
      have HW := Lib.hid hw
      clear hv hw
      rcases Nat.lt_or_ge k L.length with hlt | hge
      · have hlt2 : k < M.length := by have := HL.out; omega
        obtain ⟨s, hs⟩ := get_lt hlt
        obtain ⟨t, ht⟩ := get_lt hlt2
        obtain ⟨b1, off1, rfl, hb1, A1, c1, hc1, g1, g2, g3, -⟩ := (show Grd wr A L from HW.out ▸ HA.out) k s hs
        obtain ⟨b2, off2, rfl, hb2, A2, c2, hc2, f1, f2, f3, -⟩ := (show Grd wr A' M from HW.out ▸ HB.out) k t ht
        have HS := Lib.hid hs
        have HT := Lib.hid ht
        have i1 : (k : Int) < (L.length : Int) := by omega
        have i2 : (0 : Int) ≤ (k : Int) := by omega
        have i3 : (k : Int) < (M.length : Int) := by omega
        obtain ⟨b, hb⟩ : ∃ b, decide (s = t) = b := ⟨_, rfl⟩
        have HC : Hid (∀ m, Calls Tryd.prog 18 #[.slice A1 s.length c1, .slice A2 t.length c2] (wr.drewN m) fun e w' => e = .returned (.bool b) ∧ ∃ n', w' = wr.drewN n') :=
          fun m => (same_is hb A1 A2 c1 c2 _ (g3.drewN m) (f3.drewN m) (max_small (Nat.le_trans g1 g2)) (max_small (Nat.le_trans f1 f2))).mono fun _ _ ⟨he, n', hw⟩ => ⟨he, m + n', by rw [hw, World.drewN_drewN]⟩
        have HBB := Lib.hid hb
        clear hs ht hb g3 f3
        cases b with
        | true =>
          go_wp2_with fail
          go_quiet ((go_at_call 18; (with_reducible exact HC.out _)))
          go_wp2_with fail
          go_roundw
          case rel => exact ⟨k + 1, _, by omega, by go_num, by rw [take_snoc_of HS.out, take_snoc_of HT.out, HV.out, of_decide_eq_true HBB.out], by rw [HW.out, World.drewN_drewN]⟩
          case measure => simp [intOf]; omega
        | false =>
          have E : Hid (decide (L = M) = false) := decide_eq_false fun h => by
            subst h
            have e1 := HS.out
            rw [HT.out] at e1; exact of_decide_eq_false HBB.out (Option.some.inj e1).symm
          go_wp2_with fail
          go_quiet ((go_at_call 18; (with_reducible exact HC.out _)))
          go_wp2_with fail
          go_ret
          exact ⟨ret_bool E.out.symm, n + nq, by rw [HW.out, World.drewN_drewN]⟩
      · obtain rfl : k = L.length := by omega
        have E : Hid (decide (L = M) = true) := decide_eq_true (by
          have := HV.out
          rw [List.take_length, HL.out, List.take_length] at this; exact this)
        go_wp2_with fail
        go_ret
        exact ⟨ret_bool E.out.symm, n, HW.out⟩
  · have hl' : ((L.length : Int) == (M.length : Int)) = false := beq_false_of_ne (by omega)
    have hl2 : ((L.length : Int) != (M.length : Int)) = true := by simp; omega
    have E : Hid (decide (L = M) = false) := decide_eq_false fun h' => h (by rw [h'])
    clear h
    go_enter Tryd.func21, Tryd.ntmps21
    go_wp2_with fail
    go_ret
    exact ⟨ret_bool E.out.symm, 0, rfl⟩
theorem sameAll_is {L M : List (List ByteArray)} {b : Bool} (h : decide (L = M) = b) (A A' : Option Addr) (c c' : Nat) (w : World) (ha : Grd w A L) (hb : Grd w A' M) (hl : L.length ≤ 9223372036854775807) (hm : M.length ≤ 9223372036854775807) :
    Calls Tryd.prog 21 #[.slice A L.length c, .slice A' M.length c'] w fun e w' => e = .returned (.bool b) ∧ ∃ n, w' = w.drewN n := h ▸ ref_SameAll L M A A' c c' w ha hb hl hm

/-! ### strings.Cut -/
theorem index_line {x : List UInt8} (hx : (10 : UInt8) ∉ x) (y : List UInt8) : Lib.indexByte (x ++ 10 :: y) 10 = (x.length : Int) := by
  induction x with
  | nil => rfl
  | cons b r ih =>
    simp only [List.mem_cons, not_or] at hx
    have hb : (b == 10) = false := by simpa using fun e => hx.1 e.symm
    rw [List.cons_append, Lib.indexByte, hb, ih hx.2]
    have : ((r.length : Int) == -1) = false := beq_false_of_ne (by omega)
    rw [this]; simp
set_option maxHeartbeats 800000 in
theorem lite_cut (s : ByteArray) (x y : List UInt8) (w : World) (hs : ls s = x ++ 10 :: y) (hx : (10 : UInt8) ∉ x) (hm : s.size ≤ 9223372036854775806) :
    Calls Tryd.prog 48 #[.string s, .string ⟨#[10]⟩] w fun e w' => e = .returned (.tuple #[.string (bs x), .string (bs y), .bool true]) ∧ Below w.heap.size w w' := by
  have hl : x.length + 1 + y.length = s.size := by rw [← ls_len, hs]; simp; omega
  have hi := Tryd.stringslite_Index_one s 10 w
  rw [show Lib.indexByte s.data.toList 10 = (x.length : Int) from (congrArg (fun l => Lib.indexByte l 10) hs).trans (index_line hx y)] at hi
  have P1 : ∀ W : World, (Instr.slice 9 (.string s) none (some (.int .i64 (x.length : Int))) none).run Tryd.prog W = .ok (.string (bs x)) W := fun W => by
    rw [run_slice_string_h W 9 s Tryd.underlying9 .i64 (x.length : Int) (by omega) (by omega), ext_bs]
    have e : (s.data.toList.drop 0).take ((x.length : Int).toNat - 0) = x := by
      rw [show s.data.toList = x ++ 10 :: y from hs]; simp
    rw [e]
  have P2 : ∀ W : World, (Instr.slice 9 (.string s) (some (.int .i64 ((x.length : Int) + 1))) none none).run Tryd.prog W = .ok (.string (bs y)) W := fun W => by
    rw [run_slice_string_l W 9 s Tryd.underlying9 .i64 ((x.length : Int) + 1) (by omega) (by omega), ext_bs]
    have e : (s.data.toList.drop ((x.length : Int) + 1).toNat).take (s.size - ((x.length : Int) + 1).toNat) = y := by
      rw [show ((x.length : Int) + 1).toNat = x.length + 1 by omega, show s.data.toList = x ++ 10 :: y from hs, ← List.drop_drop, show s.size - (x.length + 1) = y.length by omega]
      simp
    rw [e]
  have i1 : (0 : Int) ≤ (x.length : Int) := by omega
  have HI := Lib.hid hi
  have HL := Lib.hid hl
  have hxl : x.length + 1 ≤ 9223372036854775807 := by omega
  clear hi hs hx hl
  have wq : IntKind.i64.wrap ((x.length : Int) + 1) = (x.length : Int) + 1 := wrap_id (by omega) (by omega)
  have i2 : (0 : Int) ≤ (x.length : Int) + 1 := by omega
  have i3 : (x.length : Int) + 1 ≤ (s.size : Int) := by have := HL.out; omega
  have i4 : (x.length : Int) ≤ (s.size : Int) := by have := HL.out; omega
  go_enter Tryd.func48, Tryd.ntmps48
  go_wp2_with fail
  refine HI.out.mono ?_
  rintro e1 w1 ⟨rfl, rfl⟩
  go_wp2_with fail
  go_quiet (fail)
  go_wp2_with fail
  go_ret3
  exact ⟨rfl, below_drewN (Below.refl _ _) _⟩
theorem cut_line (s : ByteArray) (x y : List UInt8) (w : World) (hs : ls s = x ++ 10 :: y) (hx : (10 : UInt8) ∉ x) (hm : s.size ≤ 9223372036854775806) :
    Calls Tryd.prog 34 #[.string s, .string ⟨#[10]⟩] w fun e w' => e = .returned (.tuple #[.string (bs x), .string (bs y), .bool true]) ∧ Below w.heap.size w w' := by
  have HC := Lib.hid (lite_cut s x y w hs hx hm)
  clear hs hx
  go_enter Tryd.func34, Tryd.ntmps34
  go_wp2_with fail
  refine HC.out.mono ?_
  rintro e1 w1 ⟨rfl, hb⟩
  have HB := Lib.hid hb
  clear hb
  go_wp2_with fail
  go_ret3
  exact ⟨rfl, HB.out⟩
#print axioms ref_SameAll
#print axioms ref_Same
#print axioms append_strs
end Go.Proofs.YthiebggamfmjgaaDoor.Field
