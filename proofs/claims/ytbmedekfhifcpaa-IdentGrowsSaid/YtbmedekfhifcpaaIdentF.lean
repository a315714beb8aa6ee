/- Contracts of the reference: find, New, Add, Find, Name, Len. -/
import Derived.Test.YtbmedekfhifcpaaIdentE
namespace Go.Proofs.Ytbmedekfhifcpaa.Ident
open Go.ChangeShapes Go.WideShapes Go.RowKit Go.Lib
set_option linter.unusedVariables false
set_option maxRecDepth 100000

def fndR (s : ByteArray) (L : List ByteArray) : Int := match pos s L with | some k => (k : Int) | none => -1
theorem fndR_some {s : ByteArray} {L : List ByteArray} {k : Nat} (h : pos s L = some k) : fndR s L = (k : Int) := by simp [fndR, h]
theorem fndR_none {s : ByteArray} {L : List ByteArray} (h : pos s L = none) : fndR s L = -1 := by simp [fndR, h]
theorem fndR_yes {s : ByteArray} {L : List ByteArray} (h : fndB s L = true) : 0 ≤ fndR s L ∧ fndI s L = fndR s L ∧ fndR s L < (L.length : Int) := by
  cases hp : pos s L with
  | some k => rw [fndR_some hp, (fnd_some hp).1]; have := pos_lt hp; omega
  | none => rw [(fnd_none hp).2] at h; cases h
theorem fndR_no {s : ByteArray} {L : List ByteArray} (h : fndB s L = false) : fndR s L = -1 ∧ fndI s L = 0 := by
  cases hp : pos s L with
  | some k => rw [(fnd_some hp).2] at h; cases h
  | none => exact ⟨fndR_none hp, (fnd_none hp).1⟩
theorem beq_str {a b : ByteArray} : (a.toList == b.toList) = decide (a = b) := by
  rw [ByteArray.toList_eq, ByteArray.toList_eq]
  by_cases h : a = b
  · rw [decide_eq_true h, h]; simp
  · rw [decide_eq_false h]
    have : ¬ a.data.toList = b.data.toList := fun e => h (str_ext e)
    simpa using this
theorem beq_yes {a b : ByteArray} (h : a = b) : (a.toList == b.toList) = true := by rw [beq_str, decide_eq_true h]
theorem beq_no {a b : ByteArray} (h : ¬ a = b) : (a.toList == b.toList) = false := by rw [beq_str, decide_eq_false h]

set_option maxHeartbeats 800000 in
theorem ref_find (L : List ByteArray) (A : Option Addr) (c : Nat) (s : ByteArray) (w : World) (ha : Strs w A L) (hm : L.length ≤ 9223372036854775807) :
    Calls Try.prog 30 #[.slice A L.length c, .string s] w fun e w' => e = .returned (.int .i64 (fndR s L)) ∧ w = w' := by
  have HA := Lib.hid ha
  clear ha
  go_enter Try.func30, Try.ntmps30
  go_wp2_with fail
  go_loop [5] (fun i => ∃ k : Nat, k ≤ L.length ∧ i = .int .i64 k ∧ (∀ j, j < k → L[j]? ≠ some s)) (fun i => L.length - (intOf i).toNat)
  case atStart => exact ⟨0, Nat.zero_le _, rfl, fun j h => absurd h (by omega)⟩
  case round =>
    obtain ⟨k, hk, rfl, hv⟩ := hrel
    have HV := Lib.hid hv
    clear hv
    rcases Nat.lt_or_ge k L.length with hlt | hge
    · obtain ⟨x, hx⟩ := get_lt hlt
      obtain ⟨b', off, rfl, hb', hc⟩ := HA.out k x hx
      have HX := Lib.hid hx
      clear hx
      by_cases e : x = s
      · have HE : Hid (fndR s L = (k : Int)) := fndR_some (pos_of (by rw [← e]; exact HX.out) HV.out)
        have he := beq_yes e
        clear e
        go_wp2_with fail
        go_ret
        exact ⟨ret_int HE.out.symm, rfl⟩
      · have HE := Lib.hid e
        have he := beq_no e
        clear e
        go_wp2_with fail
        go_round
        case rel =>
          refine ⟨k + 1, by omega, by go_num, fun j hj hu => ?_⟩
          rcases Nat.lt_or_eq_of_le (Nat.le_of_lt_succ hj) with h | h
          · exact HV.out j h hu
          · subst h
            have e := HX.out
            rw [hu] at e; cases e; exact HE.out rfl
        case measure => simp [intOf]; omega
    · obtain rfl : k = L.length := by omega
      have HE : Hid (fndR s L = -1) := fndR_none (pos_none.mpr fun h => by
        obtain ⟨j, hj⟩ := List.mem_iff_getElem?.mp h
        exact HV.out j (lt_get hj) hj)
      go_wp2_with fail
      go_ret
      exact ⟨ret_int HE.out.symm, rfl⟩
theorem find_is {L : List ByteArray} {A : Option Addr} {c : Nat} {s : ByteArray} {w : World} {r : Int} (h : fndR s L = r) (ha : Strs w A L) (hm : L.length ≤ 9223372036854775807) :
    Calls Try.prog 30 #[.slice A L.length c, .string s] w fun e w' => e = .returned (.int .i64 r) ∧ w = w' := h ▸ ref_find L A c s w ha hm

/-- The reference's table of other names. -/
theorem Rt.put {w wx w2 : World} {b c : Nat} {S : Nat → Prop} {L M : List ByteArray} {A : Option Addr} {v' : Value}
    (h : Rt w b S L) (hb : w.heap[b]? = some (.cells #[.slice A L.length c] 35 (0, 0)))
    (hrow : ∀ g, (Value.slice A L.length c).ownBlock = some g → S g ∧ g ≠ b) (hM : Good M) (hx : Below w.heap.size w wx)
    (hown2 : OwnS w2 v' M) (hg2 : wx.grownBy w2 (Value.slice A L.length c).ownBlock)
    (hat : v'.ownBlock = (Value.slice A L.length c).ownBlock ∨ v'.ownBlock = some wx.heap.size) :
    RAdds w b S M (w2.setCell ⟨b, 0, none⟩ v') := by
  have hlt : b < w.heap.size := h.lt b h.sb
  have hs1 := hx.size
  have hs2 := hg2.size
  have hblt : ∀ g, (Value.slice A L.length c).ownBlock = some g → g < w.heap.size := fun g hg => h.lt g (hrow g hg).1
  have kb : w2.heap[b]? = w.heap[b]? := by
    rw [hg2.block b (by omega) fun e => (hrow b e.symm).2 rfl, hx.block b hlt]
  have hv' : ∀ g, v'.ownBlock = some g → (S g ∧ g < w.heap.size ∨ w.heap.size ≤ g) ∧ g ≠ b := fun g hg => by
    rcases hat with e | e
    · rw [e] at hg; exact ⟨Or.inl ⟨(hrow g hg).1, hblt g hg⟩, (hrow g hg).2⟩
    · rw [e] at hg; cases hg
      omega
  have hsz : (w2.setCell ⟨b, 0, none⟩ v').heap.size = w2.heap.size := by simp [World.setCell]
  refine ⟨fun k => S k ∨ v'.ownBlock = some k, ⟨hM, Or.inl h.sb, ?_, v', ?_, ?_, ?_⟩, ?_, ?_⟩
  · intro k hk
    rw [hsz]
    rcases hk with hk | hk
    · have := h.lt k hk; omega
    · exact hown2.lt k hk
  · rw [heap_setCell_same w2 b 0 _ _ _ (kb.trans hb)]; rfl
  · exact hown2.keep fun k hk => Below.heap_setCell _ _ _ _ (hv' k hk).2
  · intro g hg
    exact ⟨Or.inr hg, (hv' g hg).2⟩
  · intro k hk
    rcases hk with hk | hk
    · exact Or.inl hk
    · rcases (hv' k hk).1 with h1 | h1
      · exact Or.inl h1.1
      · exact Or.inr h1
  · exact ((Off.of_below (S := S) hx).grown hg2 fun k e => Or.inl (hrow k e).1).set (Or.inl h.sb) _

set_option maxHeartbeats 1600000 in
theorem ref_Add {b : Nat} {S : Nat → Prop} {L : List ByteArray} {s : ByteArray} {w : World} (ht : Rt w b S L) (hs : s.size ≤ maxLen) :
    Calls Try.prog 17 #[.pointer (some ⟨b, 0, none⟩), .string s] w fun e w' => e = .returned (.tuple #[.int .i64 (addI L s), .int .i64 (addE L s)]) ∧ RAdds w b S (addL L s) w' := by
  obtain ⟨A, c, c0, f0, hown, hstr, hb, hrow⟩ := ht.reads
  have hm := max_small hs
  have hlen := ht.good.len
  have HT := Lib.hid ht
  have HO := Lib.hid hown
  have HS := Lib.hid hstr
  have HB := Lib.hid hb
  have HR := Lib.hid hrow
  clear ht hstr hown hb hrow hs
  cases hv : validB s with
  | false =>
    have HC := rvalid_is hv hm w
    have HE := Lib.hid (addE_bad (L := L) hv)
    clear hv
    go_enter Try.func17, Try.ntmps17
    go_wp2_with fail
    refine HC.mono ?_
    rintro e w' ⟨rfl, rfl⟩
    go_wp2_with fail
    go_ret2
    obtain ⟨n1, n2⟩ := add_no (L := L) (s := s) (by rw [HE.out]; decide)
    exact ⟨ret_two n1.symm HE.out.symm, by rw [n2]; exact HT.out.stay⟩
  | true =>
    have HC := rvalid_is hv hm w
    cases hf : fndB s L with
    | true =>
      have HE := Lib.hid (addE_twice hv hf)
      obtain ⟨r0, -, -⟩ := fndR_yes hf
      have HF := Lib.hid (find_is (c := c) rfl HS.out (by omega : L.length ≤ 9223372036854775807) (s := s))
      clear hv hf
      go_enter Try.func17, Try.ntmps17
      go_wp2_with fail
      refine HC.mono ?_
      rintro e w' ⟨rfl, rfl⟩
      go_wp2_with fail
      refine HF.out.mono ?_
      rintro e w' ⟨rfl, rfl⟩
      go_wp2_with fail
      go_ret2
      obtain ⟨n1, n2⟩ := add_no (L := L) (s := s) (by rw [HE.out]; decide)
      exact ⟨ret_two n1.symm HE.out.symm, by rw [n2]; exact HT.out.stay⟩
    | false =>
      have HF := Lib.hid (find_is (c := c) (fndR_no hf).1 HS.out (by omega : L.length ≤ 9223372036854775807))
      by_cases h5 : L.length = 512
      · have HE := Lib.hid (addE_full hv hf h5)
        have h5' : (512 : Int) ≤ (L.length : Int) := by omega
        clear hv hf h5
        go_enter Try.func17, Try.ntmps17
        go_wp2_with fail
        refine HC.mono ?_
        rintro e w' ⟨rfl, rfl⟩
        go_wp2_with fail
        refine HF.out.mono ?_
        rintro e w' ⟨rfl, rfl⟩
        go_wp2_with fail
        go_ret2
        obtain ⟨n1, n2⟩ := add_no (L := L) (s := s) (by rw [HE.out]; decide)
        exact ⟨ret_two n1.symm HE.out.symm, by rw [n2]; exact HT.out.stay⟩
      · have HE := Lib.hid (addE_ok hv hf h5)
        have h5' : decide ((512 : Int) ≤ (L.length : Int)) = false := decide_eq_false (by omega)
        have HFN := Lib.hid (fndB_no hf)
        have HV := Lib.hid hv
        have H5 := Lib.hid h5
        clear hv hf h5
        go_enter Try.func17, Try.ntmps17
        go_wp2_with fail
        refine HC.mono ?_
        rintro e w' ⟨rfl, rfl⟩
        go_wp2_with fail
        refine HF.out.mono ?_
        rintro e w' ⟨rfl, rfl⟩
        go_wp2_with (at_builtin; refine append_strs rfl _ _ rfl (.slice A L.length c) L rfl (HO.out.alloc _) (some ⟨w.heap.size, 0, none⟩) 1 [s] 1 rfl rfl (strs_one _ _ _) (by simp; omega) ?_; intro v' w2 hown2 hgrow2 hat2; refine Hid.out ?_)
        obtain ⟨A2, cp2, rfl, -, -, -, -, -⟩ := hown2.one
        rw [show (L ++ [s]).length = L.length + 1 by simp] at hown2 hat2
        have HW2 := Lib.hid hown2
        have HG2 := Lib.hid hgrow2
        have HA2 := Lib.hid hat2
        have kb2 : w2.heap[b]? = some (.cells #[.slice A L.length c] 35 (0, 0)) := by
          have hlt := HT.out.lt b HT.out.sb
          rw [hgrow2.block b (by simp; omega) fun e => (HR.out b e.symm).2 rfl, Below.heap_alloc _ _ _ (by omega), HB.out]
        have d1 : w2.cell? ⟨b, 0, none⟩ = some (.slice A L.length c) := by rw [cell_of_row _ _ _ _ _ _ kb2]; rfl
        have f1 : w2.frozen? ⟨b, 0, none⟩ = false := frozen_of kb2 _
        clear hown2 hgrow2 hat2 kb2
        refine Lib.hid ?_
        go_wp2_with fail
        go_ret2
        obtain ⟨n1, n2⟩ := add_yes HE.out
        refine ⟨ret_two ?_ HE.out.symm, ?_⟩
        · rw [n1]
        · rw [n2]
          exact HT.out.put HB.out HR.out (HT.out.good.snoc HV.out HFN.out H5.out) (below_alloc _ _) HW2.out HG2.out HA2.out
theorem ref_Add_nil (s : ByteArray) (w : World) : Calls Try.prog 17 #[.pointer none, .string s] w fun e w' => e = .returned (.tuple #[.int .i64 0, .int .i64 14]) ∧ w = w' := by
  go_enter Try.func17, Try.ntmps17
  go_wp2_with fail
  go_ret2
  exact ⟨rfl, rfl⟩
theorem ref_Find {b : Nat} {S : Nat → Prop} {L : List ByteArray} (s : ByteArray) {w : World} (ht : Rt w b S L) :
    Calls Try.prog 19 #[.pointer (some ⟨b, 0, none⟩), .string s] w fun e w' => e = .returned (.tuple #[.int .i64 (fndI s L), .bool (fndB s L)]) ∧ w = w' := by
  obtain ⟨A, c, c0, f0, hown, hstr, hb, hrow⟩ := ht.reads
  have hlen := ht.good.len
  have HS := Lib.hid hstr
  clear ht hstr hown hb hrow
  cases hf : fndB s L with
  | true =>
    obtain ⟨r0, r1, -⟩ := fndR_yes hf
    have r0' : decide (fndR s L < 0) = false := decide_eq_false (by omega)
    have HF := Lib.hid (find_is (c := c) (r := fndR s L) rfl HS.out (by omega : L.length ≤ 9223372036854775807) (s := s))
    have HE := Lib.hid r1
    clear hf r1
    go_enter Try.func19, Try.ntmps19
    go_wp2_with fail
    refine HF.out.mono ?_
    rintro e w' ⟨rfl, rfl⟩
    go_wp2_with fail
    refine HF.out.mono ?_
    rintro e w' ⟨rfl, rfl⟩
    go_wp2_with fail
    go_ret2
    exact ⟨ret_fnd HE.out.symm rfl, rfl⟩
  | false =>
    have HF := Lib.hid (find_is (c := c) (fndR_no hf).1 HS.out (by omega : L.length ≤ 9223372036854775807))
    have HE := Lib.hid (fndR_no hf).2
    clear hf
    go_enter Try.func19, Try.ntmps19
    go_wp2_with fail
    refine HF.out.mono ?_
    rintro e w' ⟨rfl, rfl⟩
    go_wp2_with fail
    go_ret2
    exact ⟨ret_fnd HE.out.symm rfl, rfl⟩
theorem ref_Find_nil (s : ByteArray) (w : World) : Calls Try.prog 19 #[.pointer none, .string s] w fun e w' => e = .returned (.tuple #[.int .i64 0, .bool false]) ∧ w = w' := by
  go_enter Try.func19, Try.ntmps19
  go_wp2_with fail
  go_ret2
  exact ⟨rfl, rfl⟩
theorem ref_Len {b : Nat} {S : Nat → Prop} {L : List ByteArray} {w : World} (ht : Rt w b S L) :
    Calls Try.prog 23 #[.pointer (some ⟨b, 0, none⟩)] w fun e w' => e = .returned (.int .i64 (L.length : Int)) ∧ w = w' := by
  obtain ⟨A, c, c0, f0, hown, hstr, hb, hrow⟩ := ht.reads
  have hlen := ht.good.len
  clear ht hstr hown hb hrow
  go_enter Try.func23, Try.ntmps23
  go_wp2_with fail
  go_ret
  exact ⟨rfl, rfl⟩
theorem ref_Len_nil (w : World) : Calls Try.prog 23 #[.pointer none] w fun e w' => e = .returned (.int .i64 0) ∧ w = w' := by
  go_enter Try.func23, Try.ntmps23
  go_wp2_with fail
  go_ret
  exact ⟨rfl, rfl⟩
theorem ref_Name {b : Nat} {S : Nat → Prop} {L : List ByteArray} (i : Int) {w : World} (ht : Rt w b S L) :
    Calls Try.prog 21 #[.pointer (some ⟨b, 0, none⟩), .int .i64 i] w fun e w' => e = .returned (.tuple #[.string (namS i L), .bool (namB i L)]) ∧ w = w' := by
  obtain ⟨A, c, c0, f0, hown, hstr, hb, hrow⟩ := ht.reads
  have hlen := ht.good.len
  have HS := Lib.hid hstr
  clear ht hstr hown hb hrow
  by_cases h0 : i < 0
  · have HE := Lib.hid (nam_out (L := L) (i := i) (by omega))
    go_enter Try.func21, Try.ntmps21
    go_wp2_with fail
    go_ret2
    exact ⟨ret_nam HE.out.1.symm HE.out.2.symm, rfl⟩
  · have h0' : decide (i < 0) = false := decide_eq_false h0
    obtain ⟨k, rfl⟩ : ∃ k : Nat, i = (k : Int) := ⟨i.toNat, by omega⟩
    rcases Nat.lt_or_ge k L.length with hlt | hge
    · obtain ⟨s, hs⟩ := get_lt hlt
      obtain ⟨b', off, rfl, hb', hc⟩ := HS.out k s hs
      have HE := Lib.hid (nam_at hs)
      have h1 : decide ((L.length : Int) ≤ (k : Int)) = false := decide_eq_false (by omega)
      clear hs h0
      go_enter Try.func21, Try.ntmps21
      go_wp2_with fail
      go_ret2
      exact ⟨ret_nam HE.out.1.symm HE.out.2.symm, rfl⟩
    · have HE := Lib.hid (nam_out (L := L) (i := (k : Int)) (by omega))
      have h1 : (L.length : Int) ≤ (k : Int) := by omega
      clear h0
      go_enter Try.func21, Try.ntmps21
      go_wp2_with fail
      go_ret2
      exact ⟨ret_nam HE.out.1.symm HE.out.2.symm, rfl⟩
theorem ref_Name_nil (i : Int) (w : World) : Calls Try.prog 21 #[.pointer none, .int .i64 i] w fun e w' => e = .returned (.tuple #[.string ByteArray.empty, .bool false]) ∧ w = w' := by
  go_enter Try.func21, Try.ntmps21
  go_wp2_with fail
  go_ret2
  exact ⟨rfl, rfl⟩

def RNewRes (L : List ByteArray) (w : World) (e : Ending) (w' : World) : Prop :=
  Below w.heap.size w w' ∧
  ((newE L = 0 ∧ ∃ b S, e = .returned (.tuple #[.pointer (some ⟨b, 0, none⟩), .int .i64 0]) ∧ Rt w' b S L ∧ ∀ k, S k → w.heap.size ≤ k) ∨
   (newE L ≠ 0 ∧ e = .returned (.tuple #[.pointer none, .int .i64 (newE L)])))
theorem Rt.new (w : World) : Rt (w.alloc (.cells #[.slice none 0 0] 35)) w.heap.size (fun k => k = w.heap.size) [] :=
  ⟨Good.nil, rfl, fun k hk => by simp; omega, .slice none 0 0, heap_alloc_new w _, OwnS.nil _, fun g hg => by cases hg⟩

set_option maxHeartbeats 1600000 in
theorem ref_New (L : List ByteArray) (A : Option Addr) (c : Nat) (w : World) (ha : Strs w A L) (hz : Siz L) (hm : L.length ≤ 9223372036854775807) :
    Calls Try.prog 14 #[.slice A L.length c] w (RNewRes L w) := by
  have HA := Lib.hid ha
  have HZ := Lib.hid hz
  clear ha hz
  by_cases hf : 512 < L.length
  · have HE := Lib.hid (newE_full hf)
    have hf' : (512 : Int) < (L.length : Int) := by omega
    clear hf
    go_enter Try.func14, Try.ntmps14
    go_wp2_with fail
    go_ret2
    exact ⟨Below.refl _ _, Or.inr ⟨by rw [HE.out]; decide, ret_err HE.out⟩⟩
  · have hf' : decide ((512 : Int) < (L.length : Int)) = false := decide_eq_false (by omega)
    have HF := Lib.hid hf
    have hl512 : L.length ≤ 512 := by omega
    clear hf
    go_enter Try.func14, Try.ntmps14
    go_wp2_with fail
    go_loop [4] (fun i => ∃ k : Nat, k ≤ L.length ∧ i = .int .i64 k ∧ (∀ j s, j < k → L[j]? = some s → validB s = true)) (fun i => L.length - (intOf i).toNat)
    case atStart => exact ⟨0, Nat.zero_le _, rfl, fun j s h => absurd h (by omega)⟩
    case round =>
      obtain ⟨k, hk, rfl, hv⟩ := hrel
      have HV := Lib.hid hv
      clear hv
      rcases Nat.lt_or_ge k L.length with hlt | hge
      · obtain ⟨s, hs⟩ := get_lt hlt
        obtain ⟨b', off, rfl, hb', hc⟩ := HA.out k s hs
        have HS := Lib.hid hs
        have hsz := (HZ.out.at_ hs).1
        clear hs
        cases hv : validB s with
        | false =>
          have HC := rvalid_is hv hsz w
          have HE : Hid (newE L = 5) := newE_bad HF.out (by rw [List.all_eq_false]; exact ⟨s, List.mem_of_getElem? HS.out, by simp [hv]⟩)
          clear hv
          go_wp2_with fail
          refine HC.mono ?_
          rintro e w' ⟨rfl, rfl⟩
          go_wp2_with fail
          go_ret2
          exact ⟨Below.refl _ _, Or.inr ⟨by rw [HE.out]; decide, ret_err HE.out⟩⟩
        | true =>
          have HC := rvalid_is hv hsz w
          have HVV := Lib.hid hv
          clear hv
          go_wp2_with fail
          refine HC.mono ?_
          rintro e w' ⟨rfl, rfl⟩
          go_wp2_with fail
          go_round
          case rel =>
            refine ⟨k + 1, by omega, by go_num, fun j u hj hu => ?_⟩
            rcases Nat.lt_or_eq_of_le (Nat.le_of_lt_succ hj) with h | h
            · exact HV.out j u h hu
            · subst h
              have e := HS.out
              rw [hu] at e; cases e; exact HVV.out
          case measure => simp [intOf]; omega
      · obtain rfl : k = L.length := by omega
        have HALL : Hid (L.all validB = true) := List.all_eq_true.mpr fun s hs => by
          obtain ⟨j, hj⟩ := List.mem_iff_getElem?.mp hs
          exact HV.out j s (lt_get hj) hj
        clear hk
        go_wp2_with fail
        go_loop [5] (fun i => ∃ k : Nat, k ≤ L.length ∧ i = .int .i64 k ∧ (∀ j s, j < k → L[j]? = some s → fndR s L = (j : Int))) (fun i => L.length - (intOf i).toNat)
        case atStart => exact ⟨0, Nat.zero_le _, rfl, fun j s h => absurd h (by omega)⟩
        case round =>
          obtain ⟨k, hk, rfl, hv⟩ := hrel
          have HV := Lib.hid hv
          clear hv
          rcases Nat.lt_or_ge k L.length with hlt | hge
          · obtain ⟨s, hs⟩ := get_lt hlt
            obtain ⟨b', off, rfl, hb', hc⟩ := HA.out k s hs
            have HS := Lib.hid hs
            have HC := find_is (c := c) (s := s) rfl HA.out hm
            obtain ⟨j, hj⟩ : ∃ j, pos s L = some j := by
              cases h : pos s L with
              | some j => exact ⟨j, rfl⟩
              | none => exact absurd (List.mem_of_getElem? hs) (pos_none.mp h)
            have hR := fndR_some hj
            rw [hR] at HC
            have hjl : j ≤ k := by
              rcases Nat.lt_or_ge k j with h | h
              · exact absurd hs ((pos_some hj).2 k h)
              · exact h
            by_cases hjk : j < k
            · have HE : Hid (newE L = 6) := newE_twice HF.out HALL.out fun hn => by have := pos_at hn hs; rw [hj] at this; cases this; omega
              clear hs hj hR
              have hi : (j : Int) < (k : Int) := by omega
              go_wp2_with fail
              refine HC.mono ?_
              rintro e w' ⟨rfl, rfl⟩
              go_wp2_with fail
              go_ret2
              exact ⟨Below.refl _ _, Or.inr ⟨by rw [HE.out]; decide, ret_err HE.out⟩⟩
            · obtain rfl : j = k := by omega
              have HE := Lib.hid hR
              clear hs hj hR hjk hjl
              go_wp2_with fail
              refine HC.mono ?_
              rintro e w' ⟨rfl, rfl⟩
              go_wp2_with fail
              go_round
              case rel =>
                refine ⟨j + 1, by omega, by go_num, fun i u hi hu => ?_⟩
                rcases Nat.lt_or_eq_of_le (Nat.le_of_lt_succ hi) with h | h
                · exact HV.out i u h hu
                · subst h
                  have e := HS.out
                  rw [hu] at e; cases e; exact HE.out
              case measure => simp [intOf]; omega
          · obtain rfl : k = L.length := by omega
            have HN : Hid L.Nodup := by
              rw [List.Nodup, List.pairwise_iff_getElem]
              intro i j hi hj hij e
              have h1 := HV.out i L[i] hi (List.getElem?_eq_getElem hi)
              have h2 := HV.out j L[j] hj (List.getElem?_eq_getElem hj)
              rw [e, h2] at h1
              omega
            have HG : Hid (Good L) := newE_zero.mp (newE_ok HF.out HALL.out HN.out)
            go_wp2_with (at_builtin; refine append_strs rfl _ _ rfl (.slice none 0 0) [] rfl (OwnS.nil _) A c L L.length rfl rfl (HA.out.on (below_alloc _ _)) (by simp; omega) ?_; intro v' w2 hown2 hgrow2 hat2; refine Hid.out ?_)
            rw [List.nil_append] at hown2
            obtain ⟨A2, cp2, rfl, -, -, -, -, -⟩ := hown2.one
            have HW2 := Lib.hid hown2
            have HG2 := Lib.hid hgrow2
            have HA2 := Lib.hid hat2
            have kb2 : w2.heap[w.heap.size]? = some (.cells #[.slice none 0 0] 35 (0, 0)) := by
              rw [hgrow2.block w.heap.size (by simp) fun e => by cases e]
              exact heap_alloc_new w _
            have d1 : w2.cell? ⟨w.heap.size, 0, none⟩ = some (.slice none 0 0) := by rw [cell_of_row _ _ _ _ _ _ kb2]; rfl
            have f1 : w2.frozen? ⟨w.heap.size, 0, none⟩ = false := frozen_of kb2 _
            clear hown2 hgrow2 hat2 kb2
            refine Lib.hid ?_
            go_wp2_with fail
            go_ret2
            obtain ⟨S', h1, h2, h3⟩ := (Rt.new w).put (heap_alloc_new w _) (fun g hg => by cases hg) HG.out (Below.refl _ _) HW2.out HG2.out HA2.out
            refine ⟨(below_alloc w _).trans (h3.below (by simp) fun x hx => by omega), Or.inl ⟨newE_zero.mpr HG.out, _, S', rfl, h1, fun k hk => ?_⟩⟩
            rcases h2 k hk with h | h
            · omega
            · simp at h; omega
#print axioms ref_Add
#print axioms ref_Find
#print axioms ref_Name
#print axioms ref_New
end Go.Proofs.Ytbmedekfhifcpaa.Ident
