/- far and round of the reference. -/
import Derived.Test.YtlbknnafecdakaaGraphR
namespace Go.Proofs.Ytlbknnafecdakaa.Graph
open Go.ChangeShapes Go.WideShapes Go.RowKit Go.Lib
set_option linter.unusedVariables false
set_option maxRecDepth 100000

theorem wt_all {N : Nat} {x : Int} {ws : List Int} (h : Wt N (fun _ => x) ws) : ws = List.replicate N x := by
  apply List.ext_getElem?
  intro b
  rcases Nat.lt_or_ge b N with h1 | h1
  · rw [h.2 b h1, List.getElem?_replicate, if_pos h1]
  · rw [List.getElem?_eq_none (by rw [h.1]; exact h1), List.getElem?_eq_none (by simpa using h1)]
def fl (k m : Nat) : Int := if m < k then -1 else 0
theorem fl_zero (m : Nat) : fl 0 m = 0 := by unfold fl; rw [if_neg (by omega)]
theorem fl_self (k : Nat) : fl (k + 1) k = -1 := by unfold fl; rw [if_pos (by omega)]
theorem fl_next {k m : Nat} (h : m ≠ k) : fl (k + 1) m = fl k m := by
  unfold fl
  by_cases h1 : m < k
  · rw [if_pos h1, if_pos (by omega)]
  · rw [if_neg h1, if_neg (by omega)]
theorem fl_all {N m : Nat} (h : m < N) : fl N m = -1 := by unfold fl; rw [if_pos h]
set_option maxHeartbeats 1600000 in
theorem ref_far (N : Nat) (L : Arcs) (n : Nat) (A : Option Addr) (c : Nat) (w : World) (hN : N ≤ 64) (hL : L.length ≤ 512) (hok : Ok N L) (hn : n < N) (ha : Ars w A (asI L)) :
    Calls Try.prog 37 #[.agg #[.int .i64 (N : Int), .slice A L.length c], .int .i64 (n : Int)] w fun e w' => ∃ A' d, e = .returned (.slice A' N N) ∧ IsD N L n d ∧ Cl eI w' A' d ∧ Below w.heap.size w w' := by
  have HA := Lib.hid ha
  have HOK := Lib.hid hok
  have HN := Lib.hid hn
  have j1 : (n : Int) < (N : Int) := by omega
  have j2 : (0 : Int) ≤ (n : Int) := by omega
  clear ha hok
  go_enter Try.func37, Try.ntmps37
  go_upto_region 1 with fail
  obtain ⟨w2, hw2⟩ : ∃ W, w.alloc (.cells #[.int .i64 (N : Int), .slice A L.length c] 24) = W := ⟨_, rfl⟩
  have HX2 : Hid (Bx w2 w.heap.size (N : Int) A L.length c) := hw2 ▸ Bx.new _ _ _ _ _ _
  have HB2 : Hid (Below w.heap.size w w2) := hw2 ▸ below_alloc _ _
  rw [hw2]
  clear hw2
  obtain ⟨_, x0, x1⟩ := HX2.out
  have hmk := fun W => make_ints N (by omega) W
  have HO1 := Lib.hid (own_made eI 3 w2 N 0 (by omega))
  go_upto_region 2 with fail
  obtain ⟨wm, hwm⟩ : ∃ W, w2.alloc (.cells (madeCells #[.int .i64 0] N) 3) = W := ⟨_, rfl⟩
  have HBM : Hid (Below w2.heap.size w2 wm) := hwm ▸ below_alloc _ _
  have HOM : Hid (Own eI 3 w2.heap.size wm (.slice (some ⟨w2.heap.size, 0, none⟩) N N) (List.replicate N 0)) := hwm ▸ HO1.out
  rw [hwm]
  clear hwm HO1 hmk x0 x1
  go_wp2_with fail
  go_loopw [6] (fun i wr => ∃ (k : Nat) (ws : List Int), k ≤ N ∧ i = .int .i64 k ∧ Wt N (fl k) ws ∧ Own eI 3 w2.heap.size wr (.slice (some ⟨w2.heap.size, 0, none⟩) N N) ws ∧ Below w2.heap.size w2 wr) (fun i _ => N - (intOf i).toNat)
  case atStart => exact ⟨0, _, Nat.zero_le _, rfl, ⟨by simp, fun m hm => by rw [List.getElem?_replicate, if_pos hm, fl_zero]⟩, HOM.out, HBM.out⟩
  case round =>
    clear HOM HBM
    obtain ⟨k, ws, hk, rfl, hwt, ho, hbel⟩ := hrel
    have HWT := Lib.hid hwt
    have HO := Lib.hid ho
    have HW := Lib.hid hbel
    obtain ⟨_, x0, x1⟩ := HX2.out.on hbel
    clear hwt ho hbel
    rcases Nat.lt_or_ge k N with hlt | hge
    · have i1 : (k : Int) < (N : Int) := by omega
      have i2 : (0 : Int) ≤ (k : Int) := by omega
      have f2 := HO.out.cell (HWT.out.2 k hlt)
      have f3 := HO.out.warm (by rw [HWT.out.1]) k
      have HWT2 : Hid (Wt N (fl (k + 1)) (ws.set k (-1))) := HWT.out.set hlt (fl_self k) fun m _ hne => fl_next hne
      have HO2 := Lib.hid (HO.out.set (by rw [HWT.out.1]) k (-1))
      have HW2 := Lib.hid (HW.out.setCell (p := ⟨w2.heap.size, k, none⟩) (Nat.le_refl _) (.int .i64 (-1)))
      go_wp2_with fail
      go_roundw
      case rel => exact ⟨k + 1, _, by omega, by go_num, HWT2.out, HO2.out, HW2.out⟩
      case measure => simp [intOf]; omega
    · obtain rfl : N = k := by omega
      have hws : ws = List.replicate N (-1) := wt_all (HWT.out.same fun m hm => (fl_all hm).symm)
      subst hws
      have f2 := HO.out.cell (HWT.out.2 n HN.out)
      have f3 := HO.out.warm (by simp) n
      have HO2 := Lib.hid (HO.out.set (by simp) n 0)
      have HW2 := Lib.hid (HW.out.setCell (p := ⟨w2.heap.size, n, none⟩) (Nat.le_refl _) (.int .i64 0))
      go_upto_region 8 with fail
      obtain ⟨wz, hwz⟩ : ∃ W, wr.setCell ⟨w2.heap.size, n, none⟩ (.int .i64 0) = W := ⟨_, rfl⟩
      have HO3 : Hid (Own eI 3 w2.heap.size wz (.slice (some ⟨w2.heap.size, 0, none⟩) N N) ((List.replicate N (-1)).set n 0)) := hwz ▸ HO2.out
      have HW3 : Hid (Below w2.heap.size w2 wz) := hwz ▸ HW2.out
      rw [hwz]
      clear hwz f2 f3 HO2 HW2 HO HW HWT x0 x1
      go_loopw [7] (fun i wr => ∃ (k : Nat) (d : List Int), k ≤ N ∧ i = .int .i64 k ∧ FaI N L n k 0 d ∧ Own eI 3 w2.heap.size wr (.slice (some ⟨w2.heap.size, 0, none⟩) N N) d ∧ Below w2.heap.size w2 wr) (fun i _ => N - (intOf i).toNat)
      case atStart => exact ⟨0, _, Nat.zero_le _, rfl, FaI.start HN.out, HO3.out, HW3.out⟩
      case round =>
        clear HO3 HW3
        obtain ⟨k, d, hk2, rfl, hr, ho, hbel⟩ := hrel
        have HRE := Lib.hid hr
        have HO := Lib.hid ho
        have HW := Lib.hid hbel
        obtain ⟨_, x0, x1⟩ := HX2.out.on hbel
        clear hr ho hbel
        rcases Nat.lt_or_ge k N with hlt | hge
        · have i1 : (k : Int) < (N : Int) := by omega
          go_wp2_with fail
          go_loopw [8] (fun i wr => ∃ (j : Nat) (d : List Int), j ≤ L.length ∧ i = .int .i64 j ∧ FaI N L n k j d ∧ Own eI 3 w2.heap.size wr (.slice (some ⟨w2.heap.size, 0, none⟩) N N) d ∧ Below w2.heap.size w2 wr) (fun i _ => L.length - (intOf i).toNat)
          case atStart => exact ⟨0, _, Nat.zero_le _, rfl, HRE.out, HO.out, HW.out⟩
          case round =>
            clear HRE HO HW x0 x1
            obtain ⟨j, d, hj, rfl, hr, ho, hbel⟩ := hrel
            have HRE := Lib.hid hr
            have HO := Lib.hid ho
            have HW := Lib.hid hbel
            obtain ⟨_, x0, x1⟩ := HX2.out.on hbel
            clear hr ho hbel
            rcases Nat.lt_or_ge j L.length with hlt2 | hge2
            · obtain ⟨⟨a, b⟩, hab⟩ := get_lt hlt2
              obtain ⟨b0, off, rfl, hb0, f0, f1⟩ := (HA.out.on (bstep HB2.out HW.out)).nat hab
              have hN2 := HOK.out a b (List.mem_of_getElem? hab)
              obtain ⟨x, hx⟩ := HRE.out.get hN2.1
              obtain ⟨y, hy⟩ := HRE.out.get hN2.2
              have HAB := Lib.hid hab
              have HXX := Lib.hid hx
              have HYY := Lib.hid hy
              have l1 : (a : Int) < (N : Int) := by omega
              have l2 : (0 : Int) ≤ (a : Int) := by omega
              have l3 : (b : Int) < (N : Int) := by omega
              have l4 : (0 : Int) ≤ (b : Int) := by omega
              have l5 : (j : Int) < (L.length : Int) := by omega
              have l6 : (0 : Int) ≤ (j : Int) := by omega
              have f2 : wr.cell? ⟨w2.heap.size, b, none⟩ = some (.int .i64 y) := HO.out.cell hy
              have f4 : wr.cell? ⟨w2.heap.size, a, none⟩ = some (.int .i64 x) := HO.out.cell hx
              have f3 := HO.out.warm (by rw [HRE.out.len]) a
              have f2a : ∀ o, (wr.alloc o).cell? ⟨w2.heap.size, b, none⟩ = some (.int .i64 y) := fun o => (HO.out.alloc o).cell hy
              have f4a : ∀ o, (wr.alloc o).cell? ⟨w2.heap.size, a, none⟩ = some (.int .i64 x) := fun o => (HO.out.alloc o).cell hx
              have hgl := (HO.out.lt w2.heap.size rfl).2
              have HGL := Lib.hid hgl
              have hne1 : ¬ wr.heap.size = w2.heap.size := by omega
              by_cases c1 : y = (k : Int)
              · have s1 : (y == (k : Int)) = true := by simp [c1]
                by_cases c2 : x < 0
                · have HRE2 := Lib.hid (HRE.out.arc HOK.out hab (c1 ▸ hy) hx c2)
                  have hk5 : (((k + 1 : Nat) : Int)) = (k : Int) + 1 := by omega
                  rw [hk5] at HRE2
                  have HO2 := Lib.hid ((HO.out.set (by rw [HRE.out.len]) a ((k : Int) + 1)))
                  have HW2 := Lib.hid (HW.out.setCell (p := ⟨w2.heap.size, a, none⟩) (Nat.le_refl _) (.int .i64 ((k : Int) + 1)))
                  subst c1
                  clear hab hx hy hk5
                  go_wp2_with fail
                  go_roundw
                  case rel => exact ⟨j + 1, _, by omega, by go_num, HRE2.out, HO2.out.alloc _, HW2.out.alloc (by simpa using HW2.out.size) _⟩
                  case measure => simp [intOf]; omega
                · have s2 : decide (x < 0) = false := decide_eq_false c2
                  have HRE2 : Hid (FaI N L n k (j + 1) d) := HRE.out.skip HOK.out hab fun p q hp hq e => by
                    rw [hx] at hq; have := Option.some.inj hq; omega
                  subst c1
                  clear hab hx hy
                  go_wp2_with fail
                  go_roundw
                  case rel => exact ⟨j + 1, d, by omega, by go_num, HRE2.out, HO.out.alloc _, HW.out.alloc HW.out.size _⟩
                  case measure => simp [intOf]; omega
              · have s1 : (y == (k : Int)) = false := beq_false_of_ne c1
                have HRE2 : Hid (FaI N L n k (j + 1) d) := HRE.out.skip HOK.out hab fun p q hp hq e => by
                  rw [hy] at hp; have := Option.some.inj hp; omega
                clear hab hx hy c1
                go_wp2_with fail
                go_roundw
                case rel => exact ⟨j + 1, d, by omega, by go_num, HRE2.out, HO.out.alloc _, HW.out.alloc HW.out.size _⟩
                case measure => simp [intOf]; omega
            · obtain rfl : L.length = j := by omega
              go_wp2_with fail
              go_roundw
              case rel => exact ⟨k + 1, d, by omega, by go_num, HRE.out.round, HO.out, HW.out⟩
              case measure => simp [intOf]; omega
        · obtain rfl : N = k := by omega
          have HBZ : Hid (Below w.heap.size w wr) := bstep HB2.out HW.out
          have HD := Lib.hid (HRE.out.whole HOK.out)
          go_wp2_with fail
          go_ret
          exact ⟨_, d, rfl, HD.out, HO.out.cl, HBZ.out⟩
#print axioms ref_far
end Go.Proofs.Ytlbknnafecdakaa.Graph
