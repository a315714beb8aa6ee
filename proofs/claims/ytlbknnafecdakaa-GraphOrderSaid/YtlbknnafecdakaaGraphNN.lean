/- An arc that is there; places. -/
import Derived.Test.YtlbknnafecdakaaGraphJJ
import Derived.Deep.RegionHeld3
namespace Go.Proofs.Ytlbknnafecdakaa.Graph
open Go.ChangeShapes Go.WideShapes Go.RowKit Go.Lib
set_option linter.unusedVariables false
set_option maxRecDepth 100000

set_option maxHeartbeats 1600000 in
theorem law_arc (n : Int) (zs : List Pr) (A : Option Addr) (q c : Nat) (x y : Int) (w : World) (ha : Ars w A zs) (hq : zs.length = q) (hm : q ≤ 9223372036854775806) (hx : (x, y) ∈ zs) :
    Calls Try.prog 29 #[.agg #[.int .i64 n, .slice A q c], .int .i64 x, .int .i64 y] w fun e w' => e = .returned (.bool true) ∧ Below w.heap.size w w' := by
  have HA := Lib.hid ha
  have HX := Lib.hid hx
  have HQ := Lib.hid hq
  clear ha hx hq
  go_enter Try.func29, Try.ntmps29
  go_upto_region 1 with fail
  obtain ⟨w1, hw1⟩ : ∃ W, w.alloc (.cells #[.int .i64 n, .slice A q c] 24) = W := ⟨_, rfl⟩
  have HX1 : Hid (Bx w1 w.heap.size n A q c) := hw1 ▸ Bx.new _ _ _ _ _ _
  have HB1 : Hid (Below w.heap.size w w1) := hw1 ▸ below_alloc _ _
  rw [hw1]
  clear hw1
  go_wp2_with fail
  go_loopw [7] (fun i wr => ∃ (k : Nat), k ≤ q ∧ i = .int .i64 k ∧ (∀ (j : Nat) (s : Pr), j < k → zs[j]? = some s → ¬ (s.1 = x ∧ s.2 = y)) ∧ Below w1.heap.size w1 wr) (fun i _ => q - (intOf i).toNat)
  case atStart => exact ⟨0, Nat.zero_le _, rfl, fun j s h => by omega, Below.refl _ _⟩
  case round =>
    obtain ⟨k, hk, rfl, hr, hbel⟩ := hrel
    have HR := Lib.hid hr
    have HW := Lib.hid hbel
    obtain ⟨_, x0, x1⟩ := HX1.out.on hbel
    clear hr hbel
    rcases Nat.lt_or_ge k q with hlt | hge
    · obtain ⟨⟨a, b⟩, hs⟩ := get_lt (L := zs) (k := k) (by rw [HQ.out]; exact hlt)
      obtain ⟨b0, off, rfl, hb0, f0, f1⟩ := (HA.out.on (bstep HB1.out HW.out)) k _ hs
      have HS := Lib.hid hs
      have l5 : (k : Int) < (q : Int) := by omega
      have l6 : (0 : Int) ≤ (k : Int) := by omega
      clear hs
      by_cases e1 : a = x
      · by_cases e2 : b = y
        · have t1 : (a == x) = true := by simpa using e1
          have t2 : (b == y) = true := by simpa using e2
          subst e1 e2
          go_wp2_with fail
          go_ret
          exact ⟨rfl, bstep HB1.out HW.out⟩
        · have t1 : (a == x) = true := by simpa using e1
          have t2 : (b == y) = false := by simpa using e2
          have HR2 : Hid (∀ (j : Nat) (s : Pr), j < k + 1 → zs[j]? = some s → ¬ (s.1 = x ∧ s.2 = y)) := Lib.hid fun j s hj h ⟨h1, h2⟩ => by
            rcases Nat.lt_or_ge j k with h3 | h3
            · exact HR.out j s h3 h ⟨h1, h2⟩
            · obtain rfl : j = k := by omega
              rw [HS.out] at h
              cases h
              exact e2 h2
          subst e1
          go_wp2_with fail
          go_roundw
          case rel => exact ⟨k + 1, by omega, by go_num, HR2.out, HW.out⟩
          case measure => simp [intOf]; omega
      · have t1 : (a == x) = false := by simpa using e1
        have HR2 : Hid (∀ (j : Nat) (s : Pr), j < k + 1 → zs[j]? = some s → ¬ (s.1 = x ∧ s.2 = y)) := Lib.hid fun j s hj h ⟨h1, h2⟩ => by
          rcases Nat.lt_or_ge j k with h3 | h3
          · exact HR.out j s h3 h ⟨h1, h2⟩
          · obtain rfl : j = k := by omega
            rw [HS.out] at h
            cases h
            exact e1 h1
        go_wp2_with fail
        go_roundw
        case rel => exact ⟨k + 1, by omega, by go_num, HR2.out, HW.out⟩
        case measure => simp [intOf]; omega
    · exfalso
      obtain ⟨i, hi⟩ := List.mem_iff_getElem?.mp HX.out
      have := HR.out i (x, y) (by have := lt_of_get hi; have := HQ.out; omega) hi
      exact this ⟨rfl, rfl⟩

/-- Where each of the first k nodes of the order stands. -/
structure Plc (N : Nat) (T : List Nat) (k : Nat) (ws : List Int) : Prop where
  len : ws.length = N
  at_ : ∀ i m, i < k → T[i]? = some m → ws[m]? = some ((i : Int) + 1)
  no : ∀ m, m < N → (∀ i, i < k → ¬ T[i]? = some m) → ws[m]? = some 0
theorem Plc.start (N : Nat) (T : List Nat) : Plc N T 0 (List.replicate N 0) := ⟨by simp, fun i m h => by omega, fun m hm _ => by rw [List.getElem?_replicate, if_pos hm]⟩
theorem Plc.zero {N : Nat} {T : List Nat} {k x : Nat} {ws : List Int} (h : Plc N T k ws) (hT : T.Nodup) (hx : T[k]? = some x) (hN : x < N) : ws[x]? = some 0 :=
  h.no x hN fun i hi hm => by have := place_one hT hm hx; omega
theorem Plc.set {N : Nat} {T : List Nat} {k x : Nat} {ws : List Int} (h : Plc N T k ws) (hT : T.Nodup) (hx : T[k]? = some x) (hN : x < N) : Plc N T (k + 1) (ws.set x ((k : Int) + 1)) := by
  refine ⟨by simp [h.len], fun i m hi hm => ?_, fun m hm hno => ?_⟩
  · by_cases he : m = x
    · subst he
      obtain rfl : i = k := place_one hT hm hx
      rw [get_set (by rw [h.len]; exact hN)]
    · rw [get_other he]
      refine h.at_ i m ?_ hm
      rcases Nat.lt_or_ge i k with h1 | h1
      · exact h1
      · obtain rfl : i = k := by omega
        rw [hx] at hm
        simp at hm
        exact absurd hm.symm he
  · have he : m ≠ x := fun e => hno k (by omega) (e ▸ hx)
    rw [get_other he]
    exact h.no m hm fun i hi => hno i (by omega)
/-- The further node on a cycle. -/
theorem IsC.round {L : Arcs} {n : Nat} {C : List Nat} (h : IsC L n C) {i x : Nat} (hx : C[i]? = some x) : ∃ y, C[(i + 1) % C.length]? = some y ∧ (x, y) ∈ L := by
  have hl := lt_of_get hx
  rcases Nat.lt_or_ge (i + 1) C.length with h1 | h1
  · obtain ⟨y, hy⟩ := get_lt h1
    rw [Nat.mod_eq_of_lt h1]
    exact ⟨y, hy, h.arc hx hy⟩
  · have h2 : i + 1 = C.length := by omega
    rw [h2, Nat.mod_self]
    exact ⟨n, h.hd, h.close hx h2⟩
theorem toI_get {T : List Nat} {i x : Nat} (h : T[i]? = some x) : (toI T)[i]? = some (x : Int) := by unfold toI; rw [List.getElem?_map, h]; rfl
theorem asI_mem {L : Arcs} {a b : Nat} (h : (a, b) ∈ L) : ((a : Int), (b : Int)) ∈ asI L := List.mem_map.mpr ⟨(a, b), h, rfl⟩
end Go.Proofs.Ytlbknnafecdakaa.Graph
