/- Contracts of Open of the program and of the reference. -/
import Derived.Test.YtahgkohnamnljaaDoorCrcF
import Derived.Test.YtahgkohnamnljaaDoorWireG
import Derived.Lib.SmallJoins
namespace Go.Proofs.YtahgkohnamnljaaDoor.Crc
open Go.ChangeShapes Go.WideShapes Go.RowKit
open Wire (Byt InY OwnY below_alloc lt_get bstep get_lt ret_int ret_bool wrap_id byte_of cells Puts append_own conv_at encI encI_ten len_isI ls_len ls bs bs_list slice_mid takeI take_ok takeT lenR takeT_def lenR_def len_ok wire_TakeText ref_TakeInt SRes TRes ls_bs bs_size)
set_option linter.unusedVariables false
set_option maxRecDepth 100000

/-! ### Pure -/
theorem text_err {l : List UInt8} (h : ¬ (takeT l 65536).e = 0) : openR l = ⟨[], 0, (takeT l 65536).e⟩ := by
  rw [openR_def]
  rw [takeT_def, lenR_def] at h ⊢
  by_cases h0 : (takeI l).e = 0
  · rw [if_pos h0] at h ⊢
    rw [if_pos h0]
    by_cases h1 : (takeI l).x < 0
    · rw [if_pos h1]; rw [if_pos h1]; rfl
    · rw [if_neg h1] at h ⊢
      rw [if_neg h1]
      by_cases h2 : 65536 < (takeI l).x
      · rw [if_pos h2]; rw [if_pos h2]; rfl
      · rw [if_neg h2] at h ⊢
        rw [if_neg h2]
        simp only [if_true] at h ⊢
        by_cases h3 : (l.length : Int) - ((takeI l).k : Int) < (takeI l).x
        · rw [if_pos h3]; rw [if_pos (by omega)]
        · rw [if_neg h3] at h
          exact absurd rfl h
  · rw [if_neg h0]; rw [if_neg h0]
    simp only [if_neg h0]
theorem text_ok {l : List UInt8} (h : (takeT l 65536).e = 0) : (takeT l 65536).k ≤ l.length ∧ (takeT l 65536).s.length ≤ 65536 ∧
    openR l = if l.length < (takeT l 65536).k + 4 then ⟨[], 0, 4⟩ else if (l.drop (takeT l 65536).k).take 4 = four (chk (takeT l 65536).s) then ⟨(takeT l 65536).s, (takeT l 65536).k + 4, 0⟩ else ⟨[], 0, 15⟩ := by
  rw [openR_def]
  rw [takeT_def, lenR_def] at h ⊢
  by_cases h0 : (takeI l).e = 0
  · obtain ⟨c1, c2, c3, c4, c5⟩ := take_ok h0
    rw [if_pos h0] at h ⊢
    rw [if_pos h0]
    by_cases h1 : (takeI l).x < 0
    · rw [if_pos h1] at h; simp at h
    · rw [if_neg h1] at h ⊢
      rw [if_neg h1]
      by_cases h2 : 65536 < (takeI l).x
      · rw [if_pos h2] at h; simp at h
      · rw [if_neg h2] at h ⊢
        rw [if_neg h2]
        simp only [if_true] at h ⊢
        by_cases h3 : (l.length : Int) - ((takeI l).k : Int) < (takeI l).x
        · rw [if_pos h3] at h; simp at h
        · rw [if_neg h3]
          simp only
          refine ⟨by omega, by rw [List.length_take]; omega, ?_⟩
          by_cases h4 : l.length < (takeI l).k + (takeI l).x.toNat + 4
          · rw [if_pos h4, if_pos (by omega)]
          · rw [if_neg h4, if_neg (by omega)]
  · rw [if_neg h0] at h; simp only [if_neg h0] at h; exact absurd h h0

/-! ### Bytes that the call made -/
def NewY (B : Nat) (w : World) (v : Value) (l : List UInt8) : Prop := ∃ A c, v = .slice A l.length c ∧ l.length ≤ c ∧ c ≤ maxLen ∧ Byt w A l ∧ ∀ a, A = some a → B ≤ a.block ∧ a.block < w.heap.size
theorem NewY.nil (B : Nat) (w : World) : NewY B w (.slice none 0 0) [] := ⟨none, 0, rfl, Nat.le_refl _, by unfold maxLen; omega, Byt.nil _ _, fun a h => by cases h⟩
theorem NewY.inY {B : Nat} {w : World} {v : Value} {l : List UInt8} (h : NewY B w v l) : InY w v l := by
  obtain ⟨A, c, e, h1, h2, h3, _⟩ := h; exact ⟨A, c, e, h1, h2, h3⟩
theorem NewY.on {B : Nat} {w w' : World} {v : Value} {l : List UInt8} (h : NewY B w v l) (hb : Below w.heap.size w w') : NewY B w' v l := by
  obtain ⟨A, c, e, h1, h2, h3, h4⟩ := h; exact ⟨A, c, e, h1, h2, h3.on hb, fun a ha => ⟨(h4 a ha).1, Nat.lt_of_lt_of_le (h4 a ha).2 hb.size⟩⟩
theorem NewY.base {B B' : Nat} {w : World} {v : Value} {l : List UInt8} (h : NewY B' w v l) (hB : B ≤ B') : NewY B w v l := by
  obtain ⟨A, c, e, h1, h2, h3, h4⟩ := h; exact ⟨A, c, e, h1, h2, h3, fun a ha => ⟨Nat.le_trans hB (h4 a ha).1, (h4 a ha).2⟩⟩
theorem own_new {B : Nat} {w : World} {v : Value} {l : List UInt8} (h : OwnY B w v l) : NewY B w v l := by
  obtain ⟨A, c, e, h1, h2, h3⟩ := h.inY
  subst e
  refine ⟨A, c, rfl, h1, h2, h3, fun a ha => ?_⟩
  subst ha
  obtain ⟨_, ⟨h0, _⟩ | ⟨g, cap, cur, h0, hg, hc, _⟩⟩ := h
  · cases h0
  · cases h0
    exact ⟨hg, (Array.getElem?_eq_some_iff.mp hc).1⟩
/-- '[]byte(s)'. -/
theorem conv_new (w : World) (s : ByteArray) (hs : s.size ≤ 1000000) : ∃ A c w1, (convert 9 22 (.string s)).run Tryd.prog w = .ok (.slice A s.size c) w1 ∧ NewY w.heap.size w1 (.slice A s.size c) (ls s) ∧ Below w.heap.size w w1 := by
  refine ⟨_, _, _, Lib.run_convert_string_bytes w 9 22 5 s Tryd.underlying9 Tryd.underlying22 Tryd.underlying5, ?_, Joins.below_bytesWorld w.heap.size w _ s (Nat.le_refl _)⟩
  refine ⟨_, _, by rw [ls_len], by rw [ls_len]; exact grownCap_ge w s.size 0 5, grownCap_le_maxLen w s.size 0 5 (by unfold maxLen; omega), ?_, ?_⟩
  · intro k b hb
    refine ⟨w.heap.size, 0, rfl, by rw [Lib.bytesWorld_size]; omega, ?_⟩
    have hlt := lt_get hb
    rw [ls_len] at hlt
    rw [Nat.zero_add, Lib.bytesWorld_cell w _ s k hlt]
    have : s.data.toList.getD k 0 = b := by rw [List.getD_eq_getElem?_getD]; unfold ls at hb; rw [hb]; rfl
    rw [this]
  · intro a ha
    cases ha
    exact ⟨Nat.le_refl _, by rw [Lib.bytesWorld_size]; exact Nat.lt_succ_self _⟩

/-- 'b[k:k+d]'. -/
theorem slice_in {w : World} {A : Option Addr} {c : Nat} {l : List UInt8} (h : Byt w A l) (hc : l.length ≤ c) (hm : c ≤ maxLen) (k d : Nat) (hk : k + d ≤ l.length) :
    ∃ A' c' m, ((l.drop k).take d).length = m ∧ (∀ W : World, (Instr.slice 22 (.slice A l.length c) (some (.int .i64 (k : Int))) (some (.int .i64 ((k + d : Nat) : Int))) none).run Tryd.prog W = .ok (.slice A' m c') W) ∧ InY w (.slice A' m c') ((l.drop k).take d) := by
  have ht : Tryd.prog.underlying 22 = some (.slice (Tryd.prog.elem 22)) := by kernel_rfl
  have hd : ((l.drop k).take d).length = d := by rw [List.length_take, List.length_drop]; omega
  refine ⟨if c = k then A else A.map (·.add (k * 1)), c - k, d, hd, fun W => ?_, _, _, by rw [hd], by omega, by omega, fun j z hz => ?_⟩
  · have hs : (sizeOf (Tryd.prog.elem 22)).run Tryd.prog W = .ok 1 W := Tryd.sizeOf5 W
    rw [run_slice_lh W 22 A l.length c ht .i64 .i64 k (k + d : Nat) (by omega) (by omega) (by omega), hs]
    simp [sliced, Result.andThen]
    omega
  · rw [List.getElem?_take] at hz
    split at hz
    · rw [List.getElem?_drop] at hz
      obtain ⟨b, off, rfl, hlt, hcell⟩ := h (k + j) z hz
      have := lt_get hz
      rw [if_neg (by omega)]
      refine ⟨b, off + k, by simp [Addr.add_lit], hlt, ?_⟩
      rw [show off + k + j = off + (k + j) by omega]; exact hcell
    · cases hz

/-! ### Open -/
def ORes (t : OR) (w : World) (e : Ending) (w' : World) : Prop := ∃ v, e = .returned (.tuple #[v, .int .i64 (t.k : Int), .int .i64 t.e]) ∧ NewY w.heap.size w' v t.c ∧ Below w.heap.size w w'
theorem own_4 {B : Nat} {w : World} {v : Value} {n : Nat} (h : OwnY B w v (four n)) : ∃ A c, v = .slice A 4 c ∧ InY w (.slice A 4 c) (four n) := by
  have h1 := h.inY
  obtain ⟨A, c, e, _⟩ := h1
  rw [four_len] at e
  exact ⟨A, c, e, e ▸ h.inY⟩
set_option maxHeartbeats 1600000 in
theorem crc_Open (v : Value) (l : List UInt8) (w : World) (hv : InY w v l) (hl : l.length ≤ 1000000) (ht : Tab w) :
    Calls Tryd.prog 20 #[v] w (ORes (openR l) w) := by
  have HC := Lib.hid (wire_TakeText v l 65536 w hv hl)
  have HT := Lib.hid ht
  have HR0 := fun h => Lib.hid (text_err (l := l) h)
  have HR1 := fun h => Lib.hid (text_ok (l := l) h)
  obtain ⟨A, c, rfl, hc, hcm, hb⟩ := hv
  have HB := Lib.hid hb
  have HM := Lib.hid hcm
  obtain ⟨N, hN⟩ : ∃ N, N = l.length := ⟨_, rfl⟩
  have HN := Lib.hid hN
  rw [← hN] at hl hc HC HR1 ⊢
  clear hcm
  obtain ⟨t, ht2⟩ : ∃ t, takeT l 65536 = t := ⟨_, rfl⟩
  rw [ht2] at HC HR0 HR1
  obtain ⟨x, u, e⟩ := t
  simp only at HR0 HR1
  clear hb ht hN ht2
  go_enter Tryd.func20, Tryd.ntmps20
  go_wp2_with fail
  refine HC.out.mono ?_
  rintro e1 w1 ⟨rfl, rfl⟩
  by_cases he : e = 0
  · subst he
    obtain ⟨hu, hx, ho⟩ := (HR1 rfl).out
    have HO := Lib.hid ho
    obtain ⟨s, hs⟩ : ∃ s, bs x = s := ⟨_, rfl⟩
    have hxs : x = ls s := by rw [← hs, ls_bs]
    simp only [hs]
    subst hxs
    rw [ls_len] at hx
    obtain ⟨A1, c1, w1, hcv, hny, hbel⟩ := conv_new w s (by omega)
    have HY := Lib.hid hny
    have HB1 := Lib.hid hbel
    clear hs ho hny hbel HR0 HR1
    go_wp2_with fail
    refine (crc_sumBytes (.slice A1 s.size c1) (ls s) w1 HY.out.inY (by rw [ls_len]; omega) (HT.out.on HB1.out)).mono ?_
    rintro e w2 ⟨v2, rfl, ho2, hbel2⟩
    obtain ⟨A2, c2, rfl, h2⟩ := own_4 ho2
    have H2 := Lib.hid h2
    have HY2 := Lib.hid (HY.out.on hbel2)
    have HB2 := Lib.hid (bstep HB1.out hbel2)
    clear ho2 hbel2 h2 hcv
    rcases Nat.lt_or_ge N (u + 4) with h4 | h4
    · have h4' : (N : Int) - (u : Int) < 4 := by omega
      have HF : Hid (openR l = ⟨[], 0, 4⟩) := show _ = _ by rw [HO.out, if_pos h4]
      clear h4
      go_wp2_with fail
      go_ret3
      exact ⟨_, by rw [HF.out]; rfl, by rw [HF.out]; exact NewY.nil _ _, HB2.out⟩
    · have h4' : decide ((N : Int) - (u : Int) < 4) = false := decide_eq_false (by omega)
      obtain ⟨A3, c3, m, hm, hsl, hbt⟩ := slice_in (c := c) (HB.out.on HB2.out) (by rw [← HN.out]; exact hc) HM.out u 4 (by rw [← HN.out]; omega)
      have HN4 := Lib.hid h4
      obtain ⟨E, hE⟩ : ∃ E : Int, E = ((u + 4 : Nat) : Int) := ⟨_, rfl⟩
      have hE1 : (u : Int) + 4 = E := by omega
      have hE2 : IntKind.i64.wrap E = E := wrap_id (by omega) (by omega)
      have HE := Lib.hid hE
      rw [← HN.out, ← hE] at hsl
      have HI3 := Lib.hid hbt
      obtain ⟨p, hp⟩ : ∃ p, p = decide ((l.drop u).take 4 = four (chk (ls s))) := ⟨_, rfl⟩
      have HQ := Lib.hid (bytes_Equal _ _ _ _ w2 HI3.out H2.out)
      rw [← hp] at HQ
      have HP := Lib.hid hp
      clear hm hbt hE hp h4
      go_wp2_with fail
      refine HQ.out.mono ?_
      rintro e3 w3 ⟨rfl, rfl⟩
      cases p with
      | false =>
        have HF : Hid (openR l = ⟨[], 0, 15⟩) := show _ = _ by rw [HO.out, if_neg (Nat.not_lt.mpr HN4.out), if_neg (of_decide_eq_false HP.out.symm)]
        go_wp2_with fail
        go_ret3
        exact ⟨_, by rw [HF.out]; rfl, by rw [HF.out]; exact NewY.nil _ _, HB2.out⟩
      | true =>
        have HF : Hid (openR l = ⟨ls s, u + 4, 0⟩) := show _ = _ by rw [HO.out, if_neg (Nat.not_lt.mpr HN4.out), if_pos (of_decide_eq_true HP.out.symm)]
        go_wp2_with fail
        go_ret3
        exact ⟨_, by rw [HF.out, HE.out]; rfl, by rw [HF.out]; exact HY2.out, HB2.out⟩
  · have he0 : (e == 0) = false := by simpa using he
    have HF := Lib.hid ((HR0 he).out)
    clear he HR0 HR1
    go_wp2_with fail
    go_ret3
    exact ⟨_, by rw [HF.out]; rfl, by rw [HF.out]; exact NewY.nil _ _, Below.refl _ _⟩
#print axioms crc_Open
end Go.Proofs.YtahgkohnamnljaaDoor.Crc
