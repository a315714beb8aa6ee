/- Contracts of takeLength, TakeText of the program, and of length, TakeText of the reference. -/
import Derived.Test.YtahgkohnamnljaaDoorWireF
import Derived.Test.YtahgkohnamnljaaDoorWireD
namespace Go.Proofs.YtahgkohnamnljaaDoor.Wire
open Go.ChangeShapes Go.WideShapes Go.RowKit
set_option linter.unusedVariables false
set_option maxRecDepth 100000

theorem lenR_def (b : List UInt8) (most : Int) : lenR b most = if (takeI b).e = 0 then (if (takeI b).x < 0 then ⟨0, 0, 3⟩ else if most < (takeI b).x then ⟨0, 0, 8⟩ else ⟨(takeI b).x, (takeI b).k, 0⟩) else ⟨0, 0, (takeI b).e⟩ := rfl
theorem takeT_def (b : List UInt8) (most : Int) : takeT b most = if (lenR b most).e = 0 then (if (b.length : Int) - ((lenR b most).k : Int) < (lenR b most).x then ⟨[], 0, 4⟩ else ⟨(b.drop (lenR b most).k).take (lenR b most).x.toNat, (lenR b most).k + (lenR b most).x.toNat, 0⟩) else ⟨[], 0, (lenR b most).e⟩ := rfl
theorem takeL_def (b : List UInt8) (most : Int) : takeL b most = if (lenR b most).e = 0 then items b (lenR b most).x.toNat (lenR b most).k [] else ⟨[], 0, (lenR b most).e⟩ := rfl
theorem len_facts {l : List UInt8} {most : Int} (h : (lenR l most).e = 0) : 0 ≤ (lenR l most).x ∧ (lenR l most).k ≤ l.length ∧ (lenR l most).x ≤ most ∧ isI (lenR l most).x := by
  obtain ⟨a1, a2, a3, a4⟩ := len_ok h
  obtain ⟨c1, c2, c3, c4, c5⟩ := take_ok a1
  rw [a4]; exact ⟨a2, c3, a3, c5⟩
theorem items_go (b : List UInt8) (k : Nat) (acc : List Int) {n : Nat} (hn : 0 < n) (h : (takeI (b.drop k)).e = 0) : items b n k acc = items b (n - 1) (k + (takeI (b.drop k)).k) (acc ++ [(takeI (b.drop k)).x]) := by
  obtain ⟨m, rfl⟩ : ∃ m, n = m + 1 := ⟨n - 1, by omega⟩
  rw [items, if_pos h]; rfl
theorem items_no (b : List UInt8) (k : Nat) (acc : List Int) {n : Nat} (hn : 0 < n) (h : ¬ (takeI (b.drop k)).e = 0) : items b n k acc = ⟨[], 0, (takeI (b.drop k)).e⟩ := by
  obtain ⟨m, rfl⟩ : ∃ m, n = m + 1 := ⟨n - 1, by omega⟩
  rw [items, if_neg h]
def SRes (t : SR) (w : World) (e : Ending) (w' : World) : Prop := e = .returned (.tuple #[.string (bs t.s), .int .i64 (t.k : Int), .int .i64 t.e]) ∧ w = w'

/-! ### Integers of the call's own -/
theorem info_int : (Tryd.prog.info? 3).map (fun i => (i.zero, i.size, i.bytes)) = some (some (.int .i64 0), 1, 8) := by kernel_rfl
def OwnI (B : Nat) (w : World) (v : Value) (zs : List Int) : Prop := w.ownsRow B 3 1 v zs.length (zs.map (Value.int .i64))
theorem OwnI.nil (B : Nat) (w : World) : OwnI B w (.slice none 0 0) [] := World.ownsRow_nil _ _ _ _
theorem OwnI.ge {B : Nat} {w : World} {v : Value} {zs : List Int} (h : OwnI B w v zs) : ∀ k, v.ownBlock = some k → B ≤ k := fun k hk => (World.ownsRow.lt h k hk).1
theorem OwnI.alloc {B : Nat} {w : World} {v : Value} {zs : List Int} (h : OwnI B w v zs) (o : Obj) : OwnI B (w.alloc o) v zs := World.ownsRow.alloc h o
theorem OwnI.inI {B : Nat} {w : World} {v : Value} {zs : List Int} (h : OwnI B w v zs) : InI w v zs := by
  obtain ⟨h1, ⟨rfl, h2⟩ | ⟨g, cap, cur, rfl, h2, h3, h4, h5, h6, h7⟩⟩ := h
  · obtain rfl : zs = [] := List.eq_nil_of_length_eq_zero h2
    exact InI.nil w
  · refine ⟨_, cap, rfl, h4, h5, fun k z hz => ⟨g, 0, rfl, (Array.getElem?_eq_some_iff.mp h3).1, ?_⟩⟩
    rw [cell_of_row w g _ cur _ (0, 0) h3, Nat.zero_add]
    have hu : (cur.toList.take (zs.length * 1))[k]? = some (.int .i64 z) := by rw [h7, List.getElem?_map, hz]; rfl
    rw [List.getElem?_take] at hu
    split at hu
    · simpa using hu
    · cases hu
theorem int_one (w : World) (i : Int) (t : TypeId) {g : Nat} (hg : w.heap.size = g) : (w.alloc (.cells #[.int .i64 i] t)).cell? ⟨g, 0, none⟩ = some (.int .i64 i) := by subst hg; simp
def LRes (t : LR) (w : World) (e : Ending) (w' : World) : Prop := ∃ v, e = .returned (.tuple #[v, .int .i64 (t.k : Int), .int .i64 t.e]) ∧ OwnI w.heap.size w' v t.l ∧ Below w.heap.size w w'
/-- The rounds of TakeList. -/
def Ll (l : List UInt8) (most : Int) (D : Nat) (w : World) (used v idx : Value) (wr : World) : Prop :=
  ∃ (i k : Nat) (acc : List Int), used = .int .i64 (k : Int) ∧ idx = .int .i64 (i : Int) ∧ i ≤ D ∧ k ≤ l.length ∧ acc.length ≤ k ∧ takeL l most = items l (D - i) k acc ∧ OwnI w.heap.size wr v acc ∧ Below w.heap.size w wr

set_option maxHeartbeats 800000 in
theorem wire_length (v : Value) (l : List UInt8) (most : Int) (w : World) (hv : InY w v l) (hl : l.length ≤ 1000000) :
    Calls Tryd.prog 37 #[v, .int .i64 most] w (TRes (lenR l most) w) := by
  have HC := Lib.hid (wire_TakeInt v l w hv hl)
  have HR := Lib.hid (lenR_def l most)
  obtain ⟨t, ht⟩ : ∃ t, takeI l = t := ⟨_, rfl⟩
  rw [ht] at HC HR
  obtain ⟨x, k, e⟩ := t
  simp only at HR
  clear ht hv
  go_enter Tryd.func37, Tryd.ntmps37
  go_wp2_with fail
  refine HC.out.mono ?_
  rintro e1 w1 ⟨rfl, rfl⟩
  by_cases he : e = 0
  · subst he
    rcases Int.lt_or_le x 0 with hx | hx
    · have HF : Hid (lenR l most = ⟨0, 0, 3⟩) := show _ = _ by rw [HR.out, if_pos rfl, if_pos hx]
      go_wp2_with fail
      go_ret3
      exact ⟨by rw [HF.out] <;> rfl, rfl⟩
    · have hx0 : decide (x < 0) = false := decide_eq_false (by omega)
      rcases Int.lt_or_le most x with hm | hm
      · have HF : Hid (lenR l most = ⟨0, 0, 8⟩) := show _ = _ by rw [HR.out, if_pos rfl, if_neg (by omega), if_pos hm]
        go_wp2_with fail
        go_ret3
        exact ⟨by rw [HF.out] <;> rfl, rfl⟩
      · have hm0 : decide (most < x) = false := decide_eq_false (by omega)
        have HF : Hid (lenR l most = ⟨x, k, 0⟩) := show _ = _ by rw [HR.out, if_pos rfl, if_neg (by omega), if_neg (by omega)]
        go_wp2_with fail
        go_ret3
        exact ⟨by rw [HF.out] <;> rfl, rfl⟩
  · have he0 : (e == 0) = false := by simpa using he
    have HF : Hid (lenR l most = ⟨0, 0, e⟩) := show _ = _ by rw [HR.out, if_neg he]
    clear he
    go_wp2_with fail
    go_ret3
    exact ⟨by rw [HF.out] <;> rfl, rfl⟩
set_option maxHeartbeats 800000 in
theorem wire_TakeText (v : Value) (l : List UInt8) (most : Int) (w : World) (hv : InY w v l) (hl : l.length ≤ 1000000) :
    Calls Tryd.prog 30 #[v, .int .i64 most] w (SRes (takeT l most) w) := by
  have HC := Lib.hid (wire_length v l most w hv hl)
  obtain ⟨A, c, rfl, hc, _, hb⟩ := hv
  have HB := Lib.hid hb
  have HR := Lib.hid (takeT_def l most)
  have HOK := fun h => Lib.hid (len_facts (l := l) (most := most) h)
  obtain ⟨N, hN⟩ : ∃ N, N = l.length := ⟨_, rfl⟩
  have HN := Lib.hid hN
  rw [← hN] at hl HC ⊢
  rw [← hN] at HR
  obtain ⟨t, ht⟩ : ∃ t, lenR l most = t := ⟨_, rfl⟩
  rw [ht] at HC HR HOK
  obtain ⟨x, k, e⟩ := t
  simp only at HR HOK
  clear ht hb hN
  go_enter Tryd.func30, Tryd.ntmps30
  go_wp2_with fail
  refine HC.out.mono ?_
  rintro e1 w1 ⟨rfl, rfl⟩
  by_cases he : e = 0
  · subst he
    obtain ⟨hx, hk, _, hi⟩ := (HOK rfl).out
    rw [← HN.out] at hk
    obtain ⟨d, rfl⟩ := Int.eq_ofNat_of_zero_le hx
    rw [if_pos rfl] at HR
    clear hx HOK
    rcases Int.lt_or_le ((N : Int) - (k : Int)) (d : Int) with h1 | h1
    · have HF : Hid (takeT l most = ⟨[], 0, 4⟩) := show _ = _ by rw [HR.out, if_pos h1]
      go_wp2_with fail
      go_ret3
      exact ⟨by rw [HF.out] <;> rfl, rfl⟩
    · have h1' : decide ((N : Int) - (k : Int) < (d : Int)) = false := decide_eq_false (by omega)
      have HF : Hid (takeT l most = ⟨(l.drop k).take d, k + d, 0⟩) := show _ = _ by rw [HR.out, if_neg (by omega), Int.toNat_natCast]
      obtain ⟨A', c', m, hm, hsl, hbt⟩ := slice_mid (c := c) HB.out hc k d (by rw [← HN.out]; omega)
      have hcv := conv_at (c := c') hbt hm
      obtain ⟨E, hE⟩ : ∃ E : Int, E = ((k + d : Nat) : Int) := ⟨_, rfl⟩
      have hE1 : (k : Int) + (d : Int) = E := by omega
      have hE2 : IntKind.i64.wrap E = E := wrap_id (by omega) (by omega)
      have HE := Lib.hid hE
      rw [← HN.out, ← hE] at hsl
      clear hm hbt h1 hE
      go_wp2_with fail
      go_ret3
      exact ⟨by rw [HF.out, HE.out] <;> rfl, rfl⟩
  · have he0 : (e == 0) = false := by simpa using he
    have HF : Hid (takeT l most = ⟨[], 0, e⟩) := show _ = _ by rw [HR.out, if_neg he]
    clear he HOK
    go_wp2_with fail
    go_ret3
    exact ⟨by rw [HF.out] <;> rfl, rfl⟩
#print axioms wire_length
#print axioms wire_TakeText
end Go.Proofs.YtahgkohnamnljaaDoor.Wire
