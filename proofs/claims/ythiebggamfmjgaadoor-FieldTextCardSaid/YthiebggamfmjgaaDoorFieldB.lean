/- Bytes and strings in memory; contracts of isText and appendForm of the program, has and form of the reference. -/
import Derived.Test.YthiebggamfmjgaaDoorFieldA
import Derived.Maps.AppendAt
import Derived.Lib.AppendStr
import Derived.Laws.IdiomStrings
import Derived.BigQuiet
import Derived.Deep.QuietTactic
namespace Go.Proofs.YthiebggamfmjgaaDoor.Field
open Go.ChangeShapes Go.WideShapes Go.RowKit
set_option linter.unusedVariables false
set_option maxRecDepth 100000

theorem get_lt {α : Type} {L : List α} {k : Nat} (h : k < L.length) : ∃ s, L[k]? = some s := ⟨_, List.getElem?_eq_getElem h⟩
theorem lt_get {α : Type} {L : List α} {k : Nat} {s : α} (h : L[k]? = some s) : k < L.length := by
  rcases Nat.lt_or_ge k L.length with h1 | h1
  · exact h1
  · rw [List.getElem?_eq_none h1] at h; cases h
theorem ret_bool {a b : Bool} (h : a = b) : Ending.returned (.bool a) = .returned (.bool b) := by rw [h]
theorem ret_str {a b : ByteArray} (h : a = b) : Ending.returned (.string a) = .returned (.string b) := by rw [h]
theorem wrap_id {x : Int} (h1 : -9223372036854775808 ≤ x) (h2 : x ≤ 9223372036854775807) : IntKind.i64.wrap x = x := by rw [IntKind.wrap_i64]; omega
theorem below_alloc (w : World) (o : Obj) : Below w.heap.size w (w.alloc o) := (Below.refl _ _).alloc (Nat.le_refl _) _
theorem bstep {a b c : World} (h : Below a.heap.size a b) (k : Below b.heap.size b c) : Below a.heap.size a c := h.trans (k.mono h.size)
theorem below_drewN {B : Nat} {a w : World} (h : Below B a w) (n : Nat) : Below B a (w.drewN n) := ⟨h.os, h.tape, h.output, h.size, h.block⟩
theorem cat_bs (a b : List UInt8) (h : a.length + b.length ≤ 9223372036854775807) (W : World) : (Op.stringOp .add (bs a) (bs b)).run Tryd.prog W = .ok (.string (bs (a ++ b))) W := by
  rw [run_string_add_sum W _ _ (by rw [bs_size, bs_size]; exact h)]
  have e : bs a ++ bs b = bs (a ++ b) := bs_eq (by rw [ByteArray.data_append, Array.toList_append, bs_list, bs_list])
  rw [e]
theorem ext_list (s : ByteArray) (i j : Nat) : (s.extract i j).data.toList = (s.data.toList.drop i).take (j - i) := by
  rw [ByteArray.data_extract, Array.toList_extract]
theorem ext_bs (s : ByteArray) (i j : Nat) : s.extract i j = bs ((s.data.toList.drop i).take (j - i)) := bs_eq (ext_list s i j)
theorem ext_one (s : ByteArray) {k : Nat} (h : k < s.size) : s.extract k (k + 1) = bs [s[k]] := by
  rw [ext_bs, drop_cons_of (str_get? s h), show k + 1 - k = 1 by omega]; rfl
theorem byt_ne {b : UInt8} {n : Nat} (hn : n < 256) (h : b ≠ UInt8.ofNat n) : ¬ ((b.toNat : Nat) : Int) = (n : Int) := fun e => h (UInt8.toNat_inj.mp (by rw [UInt8.toNat_ofNat', Nat.mod_eq_of_lt hn]; omega))
theorem byt_beq {b : UInt8} (c : UInt8) {n : Int} (hn : n = (c.toNat : Int)) : (((b.toNat : Nat) : Int) == n) = (b == c) := by
  subst hn
  rw [Bool.eq_iff_iff]
  simp only [beq_iff_eq]
  exact ⟨fun e => UInt8.toNat_inj.mp (by omega), fun e => by rw [e]⟩

/-! ### A slice of bytes of the call's own: its block is B or behind it -/
def OwnY (B : Nat) (w : World) (v : Value) (l : List UInt8) : Prop := w.ownsRow B 5 1 v l.length (Lib.byteCells l)
theorem OwnY.nil (B : Nat) (w : World) : OwnY B w (.slice none 0 0) [] := World.ownsRow_nil _ _ _ _
theorem OwnY.keep {B : Nat} {w w' : World} {v : Value} {l : List UInt8} (h : OwnY B w v l) (hk : ∀ k, v.ownBlock = some k → w'.heap[k]? = w.heap[k]?) : OwnY B w' v l := by
  obtain ⟨h1, h0 | ⟨g, cap, cur, rfl, h2, h3, h4⟩⟩ := h
  · exact ⟨h1, Or.inl h0⟩
  · exact ⟨h1, Or.inr ⟨g, cap, cur, rfl, h2, (hk g rfl).trans h3, h4⟩⟩
theorem OwnY.lt {B : Nat} {w : World} {v : Value} {l : List UInt8} (h : OwnY B w v l) : ∀ k, v.ownBlock = some k → k < w.heap.size := fun k hk => (World.ownsRow.lt h k hk).2
theorem OwnY.ge {B : Nat} {w : World} {v : Value} {l : List UInt8} (h : OwnY B w v l) : ∀ k, v.ownBlock = some k → B ≤ k := fun k hk => (World.ownsRow.lt h k hk).1
theorem OwnY.alloc {B : Nat} {w : World} {v : Value} {l : List UInt8} (h : OwnY B w v l) (o : Obj) : OwnY B (w.alloc o) v l := World.ownsRow.alloc h o
theorem OwnY.on {B : Nat} {w w' : World} {v : Value} {l : List UInt8} (h : OwnY B w v l) (hb : Below w.heap.size w w') : OwnY B w' v l := h.keep fun k hk => hb.block k (h.lt k hk)
theorem OwnY.len {B : Nat} {w : World} {v : Value} {l : List UInt8} (h : OwnY B w v l) : ∃ A c, v = .slice A l.length c ∧ l.length ≤ c ∧ c ≤ maxLen := by
  obtain ⟨h1, ⟨rfl, h2⟩ | ⟨g, cap, cur, rfl, h2, h3, h4, h5, _⟩⟩ := h
  · exact ⟨none, 0, by rw [h2], by omega, by unfold maxLen; omega⟩
  · exact ⟨_, cap, rfl, h4, h5⟩
theorem conv_nil (W : World) : (convert 46 9 (.slice none 0 0)).run Tryd.prog W = .ok (.string (bs [])) W := by
  rw [run_convert_bytes_string W 46 9 5 none 0 0 Tryd.underlying46 Tryd.underlying5 Tryd.underlying9]
  rfl
/-- 'string(b)'. -/
theorem OwnY.conv {B : Nat} {w : World} {v : Value} {l : List UInt8} (h : OwnY B w v l) : (convert 46 9 v).run Tryd.prog w = .ok (.string (bs l)) w := by
  have h0 := h
  obtain ⟨h1, ⟨rfl, h2⟩ | ⟨g, cap, cur, rfl, _⟩⟩ := h
  · obtain rfl : l = [] := List.eq_nil_of_length_eq_zero h2
    exact conv_nil w
  · exact run_convert_bytes_back (P := Tryd.prog) w 46 9 5 ⟨g, 0, none⟩ cap l Tryd.underlying46 Tryd.underlying5 Tryd.underlying9 (fun j hj => World.ownsRow.cells (g := g) h0 rfl j _ (by simp [Lib.byteCells, hj]))
theorem info_byte : (Tryd.prog.info? 5).map (fun i => (i.zero, i.size, i.bytes)) = some (some (.int .u8 0), 1, 1) := by kernel_rfl
theorem byte_one (w : World) (i : Int) (t : TypeId) {g : Nat} (hg : w.heap.size = g) : (w.alloc (.cells #[.int .u8 i] t)).cell? ⟨g, 0, none⟩ = some (.int .u8 i) := by subst hg; simp
/-- 'append(s, b)', b in a block of its own. -/
theorem append_byte {w : World} {ops : Array Oper} {rest : List Oper} {o : Oper} {a : Act} {Q : Exit → Act → World → Prop} (hgd : o.guard = none) (s x : Operand)
    (ho : o.op = .call { callee := .builtin .append, args := #[s, x], argTypes := #[46, 46] })
    (B : Nat) (v : Value) (l : List UInt8) (hs : a.eval s = v) (hown : OwnY B w v l) (g c : Nat) (b : UInt8) (i : Int) (hi : i = (b.toNat : Int)) (hx : a.eval x = .slice (some ⟨g, 0, none⟩) 1 c) (hz : w.cell? ⟨g, 0, none⟩ = some (.int .u8 i))
    (hlen : l.length + 1 ≤ 1000000) (hB : B ≤ w.heap.size)
    (h : ∀ v' w', OwnY B w' v' (l ++ [b]) → w.grownBy w' v.ownBlock → (v'.ownBlock = v.ownBlock ∨ v'.ownBlock = some w.heap.size) → wpList Tryd.prog ops Q rest (a.put o.dst v') w') : wpList Tryd.prog ops Q (o :: rest) a w := by
  subst hi
  obtain ⟨i0, hi0, hz0, hz1, hz2⟩ := info_parts info_byte
  refine wpList_append_own_at w hgd s x _ ho B 5 i0 (.int .u8 0) 1 1 Tryd.underlying46 hi0 hz0 hz1 hz2 rfl (by decide) v l.length _ hs hown ⟨g, 0, none⟩ 1 c [.int .u8 (b.toNat : Int)] hx rfl ?_ (by intro u hu; simp at hu; subst hu; rfl) (by unfold maxLen; omega) (by omega) hB ?_
  · intro j u hj
    match j, hj with
    | 0, hj => simp at hj; subst hj; rw [Addr.add_lit]; exact hz
  · intro v' w' hown' hg _ hat
    refine h v' w' ?_ hg hat
    unfold OwnY
    rw [List.length_append]
    simpa [Lib.byteCells] using hown'

/-- 'append(s, t...)', t a string. -/
theorem append_text {w : World} {ops : Array Oper} {rest : List Oper} {o : Oper} {a : Act} {Q : Exit → Act → World → Prop} (hgd : o.guard = none) (s x : Operand)
    (ho : o.op = .call { callee := .builtin .append, args := #[s, x], argTypes := #[46, 9] })
    (B : Nat) (v : Value) (l : List UInt8) (hs : a.eval s = v) (hown : OwnY B w v l) (t : ByteArray) (hx : a.eval x = .string t) (hlen : l.length + t.size ≤ 1000000) (hB : B ≤ w.heap.size)
    (h : ∀ v' w', OwnY B w' v' (l ++ ls t) → w.grownBy w' v.ownBlock → wpList Tryd.prog ops Q rest (a.put o.dst v') w') : wpList Tryd.prog ops Q (o :: rest) a w := by
  obtain ⟨i0, hi0, hz0, hz1, hz2⟩ := info_parts info_byte
  refine Lib.wpList_append_own_string w hgd s x 46 9 ho B 5 i0 Tryd.underlying46 Tryd.underlying9 hi0 hz0 hz1 hz2 v l.length _ hs hown t hx (by unfold maxLen; omega) (by omega) hB ?_
  intro v' w' hown' hg _
  refine h v' w' ?_ hg
  unfold OwnY
  rw [List.length_append, show (ls t).length = t.size from str_len t]
  have e : Lib.byteCells (l ++ ls t) = Lib.byteCells l ++ Lib.strCells t := by simp [Lib.byteCells, Lib.strCells, ls]
  rw [e]; exact hown'
/-- What a step on an own slice leaves as it was. -/
theorem own_below {B : Nat} {w w' : World} {v : Value} {l : List UInt8} (h : OwnY B w v l) (hg : w.grownBy w' v.ownBlock) (hB : B ≤ w.heap.size) : Below B w w' :=
  ⟨hg.os, hg.tape, hg.output, hg.size, fun i hi => hg.block i (Nat.lt_of_lt_of_le hi hB) fun e => by have := h.ge i e.symm; omega⟩

/-! ### isText -/
def okS (s : ByteArray) : Bool := (ls s).all okB
theorem okS_at {s : ByteArray} {k : Nat} {b : UInt8} (h : s.data.toList[k]? = some b) (hb : okB b = false) : okS s = false := by
  show s.data.toList.all okB = false
  rw [List.all_eq_false]; exact ⟨b, List.mem_of_getElem? h, by simp [hb]⟩
def okT (s : ByteArray) (k : Nat) : Prop := (s.data.toList.take k).all okB = true
theorem okT_next {s : ByteArray} {k : Nat} {b : UInt8} (h : okT s k) (hg : s.data.toList[k]? = some b) (hb : okB b = true) : okT s (k + 1) := by
  show _ = true
  rw [take_snoc_of hg, List.all_append, (show _ = true from h)]; simpa using hb
theorem okT_end {s : ByteArray} (h : okT s s.size) : okS s = true := by
  have h1 : (s.data.toList.take s.size).all okB = true := h
  rwa [← str_len, List.take_length] at h1
def hasS (s : ByteArray) (c : UInt8) : Bool := (ls s).any (· == c)
def hasT (s : ByteArray) (c : UInt8) (k : Nat) : Prop := (s.data.toList.take k).any (· == c) = false
theorem hasS_at {s : ByteArray} {c : UInt8} {k : Nat} {b : UInt8} (h : s.data.toList[k]? = some b) (hb : (b == c) = true) : hasS s c = true :=
  List.any_eq_true.mpr ⟨b, List.mem_of_getElem? h, hb⟩
theorem hasT_next {s : ByteArray} {c : UInt8} {k : Nat} {b : UInt8} (h : hasT s c k) (hg : s.data.toList[k]? = some b) (hb : (b == c) = false) : hasT s c (k + 1) := by
  show _ = false
  rw [take_snoc_of hg, List.any_append, (show _ = false from h)]; simpa using hb
theorem hasT_end {s : ByteArray} {c : UInt8} (h : hasT s c s.size) : hasS s c = false := by
  have h1 : (s.data.toList.take s.size).any (· == c) = false := h
  rwa [← str_len, List.take_length] at h1
set_option maxHeartbeats 800000 in
theorem field_isText (s : ByteArray) (w : World) (hm : s.size ≤ 9223372036854775807) : Calls Tryd.prog 29 #[.string s] w fun e w' => e = .returned (.bool (okS s)) ∧ w = w' := by
  go_enter Tryd.func29, Tryd.ntmps29
  go_wp2_with fail
  go_loop [6] (fun i => ∃ k : Nat, k ≤ s.size ∧ i = .int .i64 k ∧ okT s k) (fun i => s.size - (intOf i).toNat)
  case atStart => exact ⟨0, Nat.zero_le _, rfl, rfl⟩
  case round =>
    obtain ⟨k, hk, rfl, ha⟩ := hrel
    have HA := Lib.hid ha
    clear ha
    rcases Nat.lt_or_ge k s.size with hlt | hge
    · have HG := Lib.hid (str_get? s hlt)
      rcases Nat.lt_or_ge s[k].toNat 32 with h1 | h1
      · have hi : ((s[k].toNat : Nat) : Int) < 32 := by omega
        have HB := Lib.hid (okS_at HG.out (by unfold okB; rw [decide_eq_false (by omega)]; rfl))
        go_wp2_with fail
        go_ret
        exact ⟨ret_bool HB.out.symm, rfl⟩
      · have hi : decide (((s[k].toNat : Nat) : Int) < 32) = false := decide_eq_false (by omega)
        rcases Nat.lt_or_ge 126 s[k].toNat with h2 | h2
        · have hi2 : (126 : Int) < ((s[k].toNat : Nat) : Int) := by omega
          have HB := Lib.hid (okS_at HG.out (by unfold okB; rw [decide_eq_false (p := s[k].toNat ≤ 126) (by omega), Bool.and_false]))
          go_wp2_with fail
          go_ret
          exact ⟨ret_bool HB.out.symm, rfl⟩
        · have hi2 : decide ((126 : Int) < ((s[k].toNat : Nat) : Int)) = false := decide_eq_false (by omega)
          have HB := Lib.hid (okT_next HA.out HG.out (by simp [okB, h1, h2]))
          go_wp2_with fail
          go_round
          case rel => exact ⟨k + 1, by omega, by go_num, HB.out⟩
          case measure => simp [intOf]; omega
    · obtain rfl : k = s.size := by omega
      have HB := Lib.hid (okT_end HA.out)
      go_wp2_with fail
      go_ret
      exact ⟨ret_bool HB.out.symm, rfl⟩
theorem text_is {s : ByteArray} {b : Bool} (h : okS s = b) (hm : s.size ≤ 9223372036854775807) (w : World) : Calls Tryd.prog 29 #[.string s] w fun e w' => e = .returned (.bool b) ∧ w = w' := h ▸ field_isText s w hm

/-! ### has of the reference -/
set_option maxHeartbeats 800000 in
theorem ref_has (s : ByteArray) (c : UInt8) (n : Int) (hn : n = (c.toNat : Int)) (w : World) (hm : s.size ≤ 9223372036854775807) : Calls Tryd.prog 47 #[.string s, .int .u8 n] w fun e w' => e = .returned (.bool (hasS s c)) ∧ w = w' := by
  go_enter Tryd.func47, Tryd.ntmps47
  go_wp2_with fail
  go_loop [5] (fun i => ∃ k : Nat, k ≤ s.size ∧ i = .int .i64 k ∧ hasT s c k) (fun i => s.size - (intOf i).toNat)
  case atStart => exact ⟨0, Nat.zero_le _, rfl, rfl⟩
  case round =>
    obtain ⟨k, hk, rfl, ha⟩ := hrel
    have HA := Lib.hid ha
    clear ha
    rcases Nat.lt_or_ge k s.size with hlt | hge
    · have HG := Lib.hid (str_get? s hlt)
      have hb := byt_beq (b := s[k]) c hn
      cases he : s[k] == c with
      | true =>
        rw [he] at hb
        have HB := Lib.hid (hasS_at HG.out he)
        clear he
        go_wp2_with fail
        go_ret
        exact ⟨ret_bool HB.out.symm, rfl⟩
      | false =>
        rw [he] at hb
        have HB := Lib.hid (hasT_next HA.out HG.out he)
        clear he
        go_wp2_with fail
        go_round
        case rel => exact ⟨k + 1, by omega, by go_num, HB.out⟩
        case measure => simp [intOf]; omega
    · obtain rfl : k = s.size := by omega
      have HB := Lib.hid (hasT_end HA.out)
      go_wp2_with fail
      go_ret
      exact ⟨ret_bool HB.out.symm, rfl⟩
theorem has_is {s : ByteArray} {b : Bool} (c : UInt8) {n : Int} (hn : n = (c.toNat : Int)) (h : hasS s c = b) (hm : s.size ≤ 9223372036854775807) (w : World) : Calls Tryd.prog 47 #[.string s, .int .u8 n] w fun e w' => e = .returned (.bool b) ∧ w = w' := h ▸ ref_has s c n hn w hm
#print axioms append_byte
#print axioms field_isText
#print axioms ref_has
end Go.Proofs.YthiebggamfmjgaaDoor.Field
