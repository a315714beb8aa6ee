/- slices.Repeat of a slice of one integer. -/
import Derived.Test.YtdolhanniiejfaaMemA
import Derived.Test.YtdolhanniiejfaaShelf
import Derived.Laws.CopyOwn
namespace Go.Proofs.Ytdolhanniiejfaa.Mem
open Go.ChangeShapes Go.WideShapes Go.RowKit Go.Lib
set_option linter.unusedVariables false
set_option maxRecDepth 100000

def rpt (N : Nat) (z : Int) (n : Nat) : List Value := List.replicate n (.int .i64 z) ++ List.replicate (N - n) (.int .i64 0)
theorem rpt_len {N : Nat} {z : Int} {n : Nat} (h : n ≤ N) : (rpt N z n).length = N := by unfold rpt; simp; omega
theorem rpt_splice {N : Nat} {z : Int} {n m : Nat} (h : n + m ≤ N) : splice (rpt N z n) n (List.replicate m (.int .i64 z)) = rpt N z (n + m) := by
  unfold splice rpt
  rw [List.take_left' (by simp), List.length_replicate, List.drop_append, List.drop_eq_nil_of_le (by simp), List.nil_append, List.drop_replicate, ← List.append_assoc, List.replicate_append_replicate, List.length_replicate]
  congr 2
  omega
theorem rpt_get {N : Nat} {z : Int} {n j : Nat} (h : j < n) : (rpt N z n)[j]? = some (.int .i64 z) := by
  unfold rpt
  rw [List.getElem?_append_left (by simpa using h), List.getElem?_replicate, if_pos h]
theorem own_rpt {w : World} {g N B : Nat} {z : Int} {t : TypeId} (hg : w.heap[g]? = some (.cells (rpt N z N).toArray t (0, 0))) (hB : B ≤ g) (hN : N ≤ 1000) : Own eI t B w (.slice (some ⟨g, 0, none⟩) N N) (List.replicate N z) := by
  have e : rpt N z N = (List.replicate N z).map eI := by unfold rpt; simp
  refine ⟨by simp, Or.inr ⟨g, N, (rpt N z N).toArray, by simp, hB, hg, by simp, by unfold maxLen; omega, by simp [rpt_len], ?_⟩⟩
  rw [← e]
  simp
  exact List.take_of_length_le (by rw [rpt_len (Nat.le_refl _)]; exact Nat.le_refl _)
theorem row_cell {w : World} {g : Nat} {l : List Value} {t : TypeId} (hg : w.heap[g]? = some (.cells l.toArray t (0, 0))) (j : Nat) : w.cell? ⟨g, j, none⟩ = l[j]? := by
  rw [cell_of_row w g j _ _ (0, 0) hg]; simp
theorem rep_src {w : World} {g N k m : Nat} {z : Int} {t : TypeId} (hg : w.heap[g]? = some (.cells (rpt N z k).toArray t (0, 0))) (hm : m ≤ k) : ∀ (j : Nat) (v : Value), (List.replicate m (Value.int .i64 z))[j]? = some v → w.cell? ((⟨g, 0, none⟩ : Addr).add j) = some v := by
  intro j v hj
  rw [List.getElem?_replicate] at hj
  split at hj
  · cases hj
    rw [Addr.add_lit, Nat.zero_add]
    exact (row_cell hg j).trans (rpt_get (by omega))
  · cases hj
theorem one_src {w : World} {g : Nat} {z : Int} (hc : w.cell? ⟨g, 0, none⟩ = some (.int .i64 z)) : ∀ (j : Nat) (v : Value), (List.replicate 1 (Value.int .i64 z))[j]? = some v → w.cell? ((⟨g, 0, none⟩ : Addr).add j) = some v := by
  intro j v hj
  rw [List.getElem?_replicate] at hj
  split at hj
  · rename_i h
    obtain rfl : j = 0 := by omega
    cases hj
    rw [Addr.add_lit]
    exact hc
  · cases hj
theorem size_int : (Try.prog.info? 3).map (·.size) = some 1 := by kernel_rfl

set_option maxHeartbeats 1600000 in
theorem repeat_int (N : Nat) (z : Int) (g0 c0 : Nat) (w : World) (hN : N ≤ 1000) (hN0 : 0 < N) (hz : w.cell? ⟨g0, 0, none⟩ = some (.int .i64 z)) (hg0 : g0 < w.heap.size) :
    Calls Try.prog 28 #[.slice (some ⟨g0, 0, none⟩) 1 c0, .int .i64 (N : Int)] w fun e w' => e = .returned (.slice (some ⟨w.heap.size, 0, none⟩) N N) ∧ Own eI 3 w.heap.size w' (.slice (some ⟨w.heap.size, 0, none⟩) N N) (List.replicate N z) ∧ Below w.heap.size w w' := by
  have HZ := Lib.hid hz
  have HN0 := Lib.hid hN0
  have HG0 := Lib.hid hg0
  have hmk := fun W => make_ints N (by omega) W
  have hw1 : IntKind.u64.wrap (N : Int) = (N : Int) := by rw [IntKind.wrap_u64]; omega
  have hw2 : IntKind.i64.wrap (N : Int) = (N : Int) := wrap_id (by omega)
  have HMUL : Hid (Calls Try.prog 40 #[.int .u64 1, .int .u64 (N : Int)] w fun e w' => e = .returned (.tuple #[.int .u64 0, .int .u64 (N : Int)]) ∧ w' = w) := by
    have h := Try.bits_Mul 1 N (by omega) (by omega) w
    have e1 : 1 * N / 18446744073709551616 = 0 := by omega
    have e2 : 1 * N % 18446744073709551616 = N := by omega
    rw [e1, e2] at h
    exact h
  have d0 : decide ((N : Int) < 0) = false := decide_eq_false (by omega)
  have d1 : decide ((9223372036854775807 : Int) < (N : Int)) = false := decide_eq_false (by omega)
  clear hz
  go_enter Try.func28, Try.ntmps28
  go_wp2_with fail
  refine HMUL.out.mono ?_
  rintro e w2 ⟨rfl, rfl⟩
  go_upto_region 7 with fail
  obtain ⟨wm, hwm⟩ : ∃ W, w2.alloc (.cells (madeCells #[.int .i64 0] N) 3) = W := ⟨_, rfl⟩
  have HBM : Hid (Below w2.heap.size w2 wm) := hwm ▸ below_alloc _ _
  have HROW : Hid (wm.heap[w2.heap.size]? = some (.cells (rpt N z 0).toArray 3 (0, 0))) := by
    subst hwm
    show _ = _
    rw [heap_alloc_new]
    have h := toList_madeCells_one (.int .i64 0) N
    have e : madeCells #[.int .i64 0] N = (rpt N z 0).toArray := by
      rw [← Array.toArray_toList (xs := madeCells #[.int .i64 0] N), h]
      simp [rpt]
    rw [e]
  have HSRC : Hid (wm.cell? ⟨g0, 0, none⟩ = some (.int .i64 z)) := hwm ▸ ((below_alloc _ _).cell (p := ⟨g0, 0, none⟩) HG0.out).trans HZ.out
  rw [hwm]
  clear hwm hmk hg0
  have HL1 : Hid ((List.replicate 1 (Value.int .i64 z)).length = Nat.min 1 N) := (by rw [List.length_replicate]; exact (Nat.min_eq_left HN0.out).symm : (List.replicate 1 (Value.int .i64 z)).length = Nat.min 1 N)
  have HL2 : Hid (0 + (List.replicate 1 (Value.int .i64 z)).length ≤ (rpt N z 0).length) := (by rw [rpt_len (Nat.zero_le _), List.length_replicate]; have := HN0.out; omega : 0 + (List.replicate 1 (Value.int .i64 z)).length ≤ (rpt N z 0).length)
  have HPOS : Hid (0 < (List.replicate 1 (Value.int .i64 z)).length → (some ⟨w2.heap.size, 0, none⟩ : Option Addr) = some ⟨w2.heap.size, 0, none⟩ ∧ ∃ ad, (some ⟨g0, 0, none⟩ : Option Addr) = some ad ∧ ∀ (j : Nat) (v : Value), (List.replicate 1 (Value.int .i64 z))[j]? = some v → wm.cell? (ad.add j) = some v) := fun _ => ⟨rfl, _, rfl, one_src HSRC.out⟩
  have HONE : Hid (∀ v ∈ List.replicate 1 (Value.int .i64 z), v.oneCell' = true) := fun v hv => by rw [List.eq_of_mem_replicate hv]; rfl
  go_wp2_with (first | (with_reducible refine wpList_copy_splice rfl (.tmp 31) (.tmp 32) 22 22 rfl 3 Try.underlying22 size_int _ _ _ _ _ _ rfl rfl w2.heap.size 0 (rpt N z 0) _ HROW.out (List.replicate 1 (.int .i64 z)) HL1.out HPOS.out HL2.out HONE.out w2.heap.size w2 HBM.out (Nat.le_refl _) ?_; intro w3 hg3 hb3; refine Hid.out ?_) | fail)
  refine Lib.hid ?_
  have hr3 := hg3.out
  rw [rpt_splice (by have := HN0.out; omega)] at hr3
  have HR3 := Lib.hid hr3
  have HB3 := Lib.hid hb3
  clear hg3 hb3 hr3
  go_wp2_with fail
  go_loopw [8] (fun i wr => ∃ k : Nat, i = .int .i64 (k : Int) ∧ 0 < k ∧ k ≤ N ∧ wr.heap[w2.heap.size]? = some (.cells (rpt N z k).toArray 3 (0, 0)) ∧ Below w2.heap.size w2 wr) (fun i _ => N - (RowKit.intOf i).toNat)
  case atStart => exact ⟨1, rfl, by omega, HN0.out, HR3.out, HB3.out⟩
  case round =>
    clear HR3 HB3
    obtain ⟨k, rfl, hk0, hkN, hrow, hbel⟩ := hrel
    have HRW := Lib.hid hrow
    have HW := Lib.hid hbel
    clear hrow hbel
    rcases Nat.lt_or_ge k N with hlt | hge
    · obtain ⟨m, hm⟩ : ∃ m, m = Nat.min k (N - k) := ⟨_, rfl⟩
      have hmle : k + m ≤ N ∧ 0 < m ∧ m ≤ k := by
        have h1 : m ≤ k := hm ▸ Nat.min_le_left _ _
        have h2 : m ≤ N - k := hm ▸ Nat.min_le_right _ _
        have h3 : m = k ∨ m = N - k := by
          rcases Nat.le_total k (N - k) with h | h
          · exact Or.inl (hm.trans (Nat.min_eq_left h))
          · exact Or.inr (hm.trans (Nat.min_eq_right h))
        omega
      have HM := Lib.hid hm
      have HML := Lib.hid hmle
      have hsl := slice_lo ⟨w2.heap.size, 0, none⟩ N N k rfl (by omega) hlt
      simp only [Nat.zero_add] at hsl
      have hsh := slice_hi (some ⟨w2.heap.size, 0, none⟩) N N k hkN
      have i1 : (k : Int) < (N : Int) := by omega
      have hadd : (k : Int) + (m : Int) = ((k + m : Nat) : Int) := by omega
      have HADD := Lib.hid hadd
      obtain ⟨km, hkm⟩ : ∃ x, x = k + m := ⟨_, rfl⟩
      have HKM := Lib.hid hkm
      have hwr : IntKind.i64.wrap ((k : Int) + (m : Int)) = (km : Int) := by rw [hadd, ← hkm]; exact wrap_id (by omega)
      have HLM : Hid ((List.replicate m (Value.int .i64 z)).length = Nat.min k (N - k)) := (by rw [List.length_replicate]; exact hm : (List.replicate m (Value.int .i64 z)).length = Nat.min k (N - k))
      have HRWD : Hid (wr.drew.heap[w2.heap.size]? = some (.cells (rpt N z k).toArray 3 (0, 0))) := HRW.out
      have HBD : Hid (Below w2.heap.size w2 wr.drew) := below_drew HW.out
      have HPOM : Hid (∃ ad, (some ⟨w2.heap.size, 0, none⟩ : Option Addr) = some ad ∧ ∀ (j : Nat) (v : Value), (List.replicate m (Value.int .i64 z))[j]? = some v → wr.drew.cell? (ad.add j) = some v) := ⟨_, rfl, rep_src HRWD.out hmle.2.2⟩
      have HFIT : Hid (k + (List.replicate m (Value.int .i64 z)).length ≤ (rpt N z k).length) := (by rw [rpt_len (by omega), List.length_replicate]; exact hmle.1 : k + (List.replicate m (Value.int .i64 z)).length ≤ (rpt N z k).length)
      have HONM : Hid (∀ v ∈ List.replicate m (Value.int .i64 z), v.oneCell' = true) := fun v hv => by rw [List.eq_of_mem_replicate hv]; rfl
      clear hm hadd hkm
      go_wp2_with fail
      go_region_law (refine step_copy_splice rfl (.tmp 41) (.tmp 44) 22 22 rfl 3 Try.underlying22 size_int (some ⟨w2.heap.size, k, none⟩) (some ⟨w2.heap.size, 0, none⟩) (N - k) (N - k) k N (by simp [Act.eval, Act.put]) (by simp [Act.eval, Act.put]) w2.heap.size k (rpt N z k) 3 HRWD.out (List.replicate m (.int .i64 z)) HLM.out (fun _ => ⟨rfl, HPOM.out⟩) HFIT.out HONM.out w2.heap.size w2 HBD.out (Nat.le_refl _) ?_; intro w4 hg4 hb4)
      have hr4 := hg4.out
      rw [rpt_splice HML.out.1, ← HKM.out] at hr4
      have HR4 := Lib.hid hr4
      have HB4 := Lib.hid hb4
      clear hg4 hb4 hr4 hsl hsh
      simp only [List.getElem_toArray, List.getElem_cons_succ, List.getElem_cons_zero, Act.put, List.setIfInBounds_toArray, List.set_cons_zero, List.set_cons_succ]
      go_wp2_with fail
      go_roundw
      case rel => exact ⟨km, rfl, by have := HML.out; have := HKM.out; omega, by have := HML.out; have := HKM.out; omega, HR4.out, HB4.out⟩
      case measure => simp [RowKit.intOf]; have := HML.out; have := HKM.out; omega
    · obtain rfl : N = k := by omega
      have HOW := Lib.hid (own_rpt (B := w2.heap.size) HRW.out (Nat.le_refl _) (by omega))
      go_wp2_with fail
      go_ret
      exact ⟨rfl, HOW.out, HW.out⟩
#print axioms repeat_int
end Go.Proofs.Ytdolhanniiejfaa.Mem
