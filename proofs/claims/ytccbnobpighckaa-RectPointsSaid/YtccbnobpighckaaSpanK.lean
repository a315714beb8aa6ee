/- Contracts of span.Norm, span.Total, span.Move. -/
import Derived.Test.YtccbnobpighckaaSpanJ
namespace Go.Proofs.Ytccbnobpighckaa.Span
open Go.ChangeShapes Go.WideShapes Go.RowKit Go.Lib Go.Proofs
set_option linter.unusedVariables false
set_option maxRecDepth 100000

theorem chk_nil : chkE [] = 0 := by decide
/-- The set of one list. -/
theorem orF_nil (L : List Sp) (x : Int) : orF L [] x = hasB L x := by simp [orF, setF, hasB_nil]
theorem cmbL_range {f : Int → Bool} {a b N : List Sp} (hn : chkE a = 0 → chkE b = 0 → IsNf f N) (hf : chkE a = 0 → chkE b = 0 → ∀ x, f x = true → 0 ≤ x ∧ x < 17179869184) :
    (cmbL a b N).length ≤ 256 ∧ ∀ s ∈ cmbL a b N, 0 ≤ s.1 ∧ s.1 ≤ s.2 ∧ s.2 ≤ 17179869184 := by
  by_cases h : cmbE a b N = 0
  · obtain ⟨h1, h2, h3⟩ := cmbE_zero h
    rw [cmbL_ok h]
    exact ⟨h3, (hn h1 h2).range (hf h1 h2)⟩
  · rw [cmbL_no h]; exact ⟨by simp, fun s hs => by simp at hs⟩
theorem orF_range {L : List Sp} (h : chkE L = 0) (x : Int) (hx : orF L [] x = true) : 0 ≤ x ∧ x < 17179869184 := chk_range h (by rw [← orF_nil]; exact hx)
theorem tot_take {M : List Sp} {k : Nat} {s : Sp} (h : M[k]? = some s) : tot (M.take (k + 1)) = tot (M.take k) + (s.2 - s.1) := by rw [take_snoc_of h, tot_snoc]

theorem span_Norm (a : List Sp) (A : Option Addr) (c : Nat) (w : World) (ha : Sps w A a) (hma : a.length ≤ 9223372036854775807) :
    Calls Try.prog 46 #[.slice A a.length c] w (SetRes (orF a []) a [] w) := by
  have H := Lib.hid (span_Union a [] A none c 0 w ha (Sps.nil _ _) hma (by simp))
  clear ha
  go_enter Try.func46, Try.ntmps46
  go_wp2_with fail
  refine H.out.mono ?_
  intro e w1 h
  obtain ⟨N, V, cap, rfl, hm, hin, hnf, hb1⟩ := h.open_
  have HIN := Lib.hid hin
  have HN := Lib.hid hnf
  have HB := Lib.hid hb1
  clear h hin hnf hb1
  go_wp2_with fail
  go_ret2
  exact ⟨N, _, rfl, HIN.out, HN.out, HB.out⟩

def TotRes (L : List Sp) (w : World) (e : Ending) (w' : World) : Prop :=
  ∃ N, e = .returned (.tuple #[.int .i64 (tot (cmbL L [] N)), .int .i64 (cmbE L [] N)]) ∧ (chkE L = 0 → IsNf (orF L []) N) ∧ Below w.heap.size w w'
set_option maxHeartbeats 800000 in
theorem span_Total (a : List Sp) (A : Option Addr) (c : Nat) (w : World) (ha : Sps w A a) (hma : a.length ≤ 9223372036854775807) :
    Calls Try.prog 40 #[.slice A a.length c] w (TotRes a w) := by
  have H := Lib.hid (span_Norm a A c w ha hma)
  clear ha
  go_enter Try.func40, Try.ntmps40
  go_wp2_with fail
  refine H.out.mono ?_
  intro e w1 h
  obtain ⟨N, V, cap, rfl, hm, hin, hnf, hb1⟩ := h.open_
  obtain ⟨hl, hr⟩ := cmbL_range (f := orF a []) hnf fun h _ => orF_range h
  have HN := Lib.hid hnf
  have HB := Lib.hid hb1
  have HR := Lib.hid hr
  obtain ⟨M, hM⟩ : ∃ M, M = cmbL a [] N := ⟨_, rfl⟩
  obtain ⟨E, hE⟩ : ∃ E, E = cmbE a [] N := ⟨_, rfl⟩
  rw [← hM] at HR hl hin hm ⊢
  rw [← hE]
  have HIN := Lib.hid hin
  have EM := Lib.hid hM
  have EE := Lib.hid hE
  clear h hin hnf hb1 hr hM hE
  go_wp2_with fail
  go_loopw [6, 16] (fun t i wr => ∃ k : Nat, k ≤ M.length ∧ i = .int .i64 k ∧ t = .int .i64 (tot (M.take k)) ∧ Below w1.heap.size w1 wr) (fun _ i _ => M.length - (intOf i).toNat)
  case atStart => exact ⟨0, Nat.zero_le _, rfl, rfl, Below.refl _ _⟩
  case round =>
    obtain ⟨k, hk, rfl, rfl, hbel⟩ := hrel
    have HW := Lib.hid hbel
    clear hbel
    have hbd := tot_bound (N := M.take k) fun s hs => HR.out s (List.mem_of_mem_take hs)
    have hll : (M.take k).length ≤ k := List.length_take_le _ _
    have b1 : 0 ≤ tot (M.take k) := by omega
    have b2 : tot (M.take k) ≤ 17179869184 * 256 := by omega
    clear hbd hll
    rcases Nat.lt_or_ge k M.length with hlt | hge
    · obtain ⟨s, hs⟩ := get_lt hlt
      obtain ⟨V', cap', e1, -, -, hsp⟩ := HIN.out.on HW.out
      cases e1
      obtain ⟨b, off, rfl, hb, h0, h1⟩ := hsp k s hs
      obtain ⟨r1, r2, r3⟩ := HR.out s (List.mem_of_getElem? hs)
      have HT := Lib.hid (tot_take hs)
      clear hs hsp
      go_wp2_with fail
      go_roundw
      case rel => exact ⟨k + 1, by omega, by go_num, by rw [HT.out], HW.out.alloc HW.out.size _⟩
      case measure => simp [intOf]; omega
    · obtain rfl : k = M.length := by omega
      have HT := Lib.hid (show tot (M.take M.length) = tot M by rw [List.take_length])
      go_wp2_with fail
      go_ret2
      refine ⟨N, ?_, fun h => HN.out h chk_nil, bstep HB.out HW.out⟩
      rw [← EM.out, ← EE.out, ← HT.out]; rfl

/-! ### Move -/
def mov (L : List Sp) (n : Int) : List Sp := L.map fun s => (s.1 + n, s.2 + n)
def movE (L : List Sp) (n : Int) : Int := if chkE L = 0 then (if (mov L n).all okS then 0 else 1) else chkE L
def movL (L : List Sp) (n : Int) : List Sp := if movE L n = 0 then mov L n else []
theorem movE_chk {L : List Sp} {n : Int} (h : ¬ chkE L = 0) : movE L n = chkE L := if_neg h
theorem movE_bad {L : List Sp} {n : Int} (h : chkE L = 0) {k : Nat} {s : Sp} (hs : L[k]? = some s) (hb : n < -s.1 ∨ 17179869184 - s.2 < n) : movE L n = 1 := by
  unfold movE
  rw [if_pos h]
  have e : (mov L n).all okS = false := all_not (j := k) (s := (s.1 + n, s.2 + n)) (by simp [mov, hs]) (by
    cases h2 : okS (s.1 + n, s.2 + n) with
    | false => rfl
    | true => have := okS_iff.mp h2; simp at this; omega)
  rw [e]; rfl
theorem movE_ok {L : List Sp} {n : Int} (h : chkE L = 0) (hb : ∀ (j : Nat) (s : Sp), j < L.length → L[j]? = some s → ¬ (n < -s.1) ∧ ¬ (17179869184 - s.2 < n)) : movE L n = 0 := by
  unfold movE
  rw [if_pos h, if_pos]
  refine all_of fun j t hj ht => ?_
  rw [mov, List.getElem?_map] at ht
  cases hs : L[j]? with
  | none => rw [hs] at ht; cases ht
  | some s =>
    rw [hs] at ht
    obtain rfl : (s.1 + n, s.2 + n) = t := by simpa using ht
    have h1 := hb j s (lt_get hs) hs
    have h2 := chk_all h s (List.mem_of_getElem? hs)
    exact okS_iff.mpr ⟨by show 0 ≤ s.1 + n; omega, by show s.1 + n ≤ s.2 + n; omega, by show s.2 + n ≤ 17179869184; omega⟩
theorem movE_zero {L : List Sp} {n : Int} (h : movE L n = 0) : chkE L = 0 ∧ (mov L n).all okS = true := by
  unfold movE at h
  by_cases h1 : chkE L = 0
  · rw [if_pos h1] at h
    by_cases h2 : (mov L n).all okS = true
    · exact ⟨h1, h2⟩
    · rw [if_neg h2] at h; cases h
  · rw [if_neg h1] at h; exact absurd h h1
theorem movL_ok {L : List Sp} {n : Int} (h : movE L n = 0) : movL L n = mov L n := if_pos h
theorem movL_no {L : List Sp} {n : Int} (h : ¬ movE L n = 0) : movL L n = [] := if_neg h
theorem mov_length (L : List Sp) (n : Int) : (mov L n).length = L.length := by simp [mov]
def MovRes (L : List Sp) (n : Int) (w : World) (e : Ending) (w' : World) : Prop :=
  ∃ v, e = .returned (.tuple #[v, .int .i64 (movE L n)]) ∧ InL w' v (movL L n) ∧ Below w.heap.size w w'
theorem MovRes.err {L : List Sp} {n z : Int} {w w' : World} (hz : movE L n = z) (h0 : ¬ z = 0) (hb : Below w.heap.size w w') : MovRes L n w (.returned (.tuple #[.slice none 0 0, .int .i64 z])) w' :=
  ⟨_, by rw [hz], by rw [movL_no (by rw [hz]; exact h0)]; exact InL.nil _, hb⟩

/-- The first spans of a made row. -/
def Fil (w : World) (g n : Nat) (D : List Sp) : Prop :=
  ∃ cur, w.heap[g]? = some (.cells cur 52 (0, 0)) ∧ cur.size = n * 2 ∧ (∀ j, j < n * 2 → ∃ z, cur[j]? = some (.int .i64 z)) ∧
    ∀ (k : Nat) (s : Sp), D[k]? = some s → cur[k * 2]? = some (.int .i64 s.1) ∧ cur[k * 2 + 1]? = some (.int .i64 s.2)
theorem Fil.lt {w : World} {g n : Nat} {D : List Sp} (h : Fil w g n D) : g < w.heap.size := by
  obtain ⟨cur, hg, _⟩ := h; exact (Array.getElem?_eq_some_iff.mp hg).1
theorem Fil.keep {w w' : World} {g n : Nat} {D : List Sp} (h : Fil w g n D) (hk : w'.heap[g]? = w.heap[g]?) : Fil w' g n D := by
  obtain ⟨cur, hg, h1⟩ := h; exact ⟨cur, hk.trans hg, h1⟩
theorem Fil.on {w w' : World} {g n : Nat} {D : List Sp} (h : Fil w g n D) (hb : Below w.heap.size w w') : Fil w' g n D := h.keep (hb.block g h.lt)
theorem Fil.at_ {w : World} {g n : Nat} {D : List Sp} (h : Fil w g n D) {j : Nat} (hj : j < n * 2) : (∃ z, w.cell? ⟨g, j, none⟩ = some (.int .i64 z)) ∧ w.frozen? ⟨g, j, none⟩ = false := by
  obtain ⟨cur, hg, _, h1, _⟩ := h
  obtain ⟨z, hz⟩ := h1 j hj
  exact ⟨⟨z, by rw [cell_of_row w g j cur _ (0, 0) hg]; exact hz⟩, frozen_of hg _⟩
theorem Fil.store {w : World} {g n : Nat} {D : List Sp} (h : Fil w g n D) {k : Nat} (hk : k = D.length) (hl : k < n) (x y : Int) :
    Fil ((w.setCell ⟨g, k * 2, none⟩ (.int .i64 x)).setCell ⟨g, k * 2 + 1, none⟩ (.int .i64 y)) g n (D ++ [(x, y)]) := by
  subst hk
  obtain ⟨cur, hg, hs, h1, h2⟩ := h
  refine ⟨(cur.set! (D.length * 2) (.int .i64 x)).set! (D.length * 2 + 1) (.int .i64 y), by simp [World.setCell, Array.getElem?_modify, hg], by simp [hs], fun j hj => ?_, fun k s hk => ?_⟩
  · obtain ⟨z, hz⟩ := h1 j hj
    simp only [Array.set!_eq_setIfInBounds, Array.getElem?_setIfInBounds, Array.size_setIfInBounds]
    split
    · exact ⟨y, by rw [if_pos (by omega)]⟩
    · split
      · exact ⟨x, by rw [if_pos (by omega)]⟩
      · exact ⟨z, hz⟩
  · have hkl := lt_get hk
    rw [List.length_append, List.length_singleton] at hkl
    simp only [Array.set!_eq_setIfInBounds, Array.getElem?_setIfInBounds, Array.size_setIfInBounds]
    rcases Nat.lt_or_eq_of_le (Nat.le_of_lt_succ hkl) with h3 | rfl
    · rw [List.getElem?_append_left h3] at hk
      rw [if_neg (by omega), if_neg (by omega), if_neg (by omega), if_neg (by omega)]
      exact h2 k s hk
    · rw [List.getElem?_append_right (Nat.le_refl _), Nat.sub_self] at hk
      obtain rfl : (x, y) = s := by simpa using hk
      rw [if_neg (by omega), if_pos rfl, if_pos (by omega), if_pos rfl, if_pos (by omega)]
      exact ⟨rfl, rfl⟩
theorem Fil.inL {w : World} {g n : Nat} {D : List Sp} (h : Fil w g n D) (hn : n = D.length) (hm : n ≤ maxLen) : InL w (.slice (some ⟨g, 0, none⟩) n n) D := by
  subst hn
  refine ⟨_, _, rfl, Nat.le_refl _, hm, fun k s hs => ⟨g, 0, rfl, h.lt, ?_, ?_⟩⟩
  · obtain ⟨cur, hg, _, _, h2⟩ := h
    rw [cell_of_row w g _ cur _ (0, 0) hg, Nat.zero_add]; exact (h2 k s hs).1
  · obtain ⟨cur, hg, _, _, h2⟩ := h
    rw [cell_of_row w g _ cur _ (0, 0) hg, Nat.zero_add]; exact (h2 k s hs).2
theorem make_spans (n : Nat) (hn : n ≤ 5000) (W : World) :
    (Instr.makeSlice 39 (.int .i64 (n : Int)) (.int .i64 (n : Int))).run Try.prog W = .ok (.slice (some ⟨W.heap.size, 0, none⟩) n n) (W.alloc (.cells (madeCells #[.int .i64 0, .int .i64 0] (n * 2)) 52)) := by
  obtain ⟨i, hi, hz, hs, hb⟩ := info_parts info_span
  have h := run_make (P := Try.prog) (w := W) 39 52 i _ Try.underlying39 hi hz .i64 .i64 (n : Int) (n : Int) (by omega) (by omega) (by rw [hb]; omega) (by omega)
  rw [hs, Int.toNat_natCast] at h
  exact h
theorem fil_start (W : World) (n : Nat) : Fil (W.alloc (.cells (madeCells #[.int .i64 0, .int .i64 0] (n * 2)) 52)) W.heap.size n [] := by
  refine ⟨_, heap_alloc_new W _, by simp [madeCells], fun j hj => ⟨0, ?_⟩, fun k s hs => by simp at hs⟩
  have hm : j % 2 = 0 ∨ j % 2 = 1 := by omega
  unfold madeCells
  rcases hm with hm | hm <;> simp [hj, hm]
#print axioms span_Total
#print axioms Fil.store
#print axioms fil_start
end Go.Proofs.Ytccbnobpighckaa.Span
