/- round of the reference. -/
import Derived.Test.YtlbknnafecdakaaGraphT
namespace Go.Proofs.Ytlbknnafecdakaa.Graph
open Go.ChangeShapes Go.WideShapes Go.RowKit Go.Lib
set_option linter.unusedVariables false
set_option maxRecDepth 100000

/-- The fewest arcs of a cycle through n; 0: none. -/
def RndS (L : Arcs) (n : Nat) (r : Nat) : Prop := (r = 0 ∧ ¬ Cy L n) ∨ (0 < r ∧ W L r n n ∧ ∀ j, 0 < j → j < r → ¬ W L j n n)
structure RnI (L : Arcs) (n i r : Nat) : Prop where
  out : (r = 0 ∧ ∀ t b, t < i → L[t]? = some (n, b) → ¬ Rp L b n) ∨ (0 < r ∧ W L r n n ∧ ∀ t b v, t < i → L[t]? = some (n, b) → Dst L b n v → r ≤ v + 1)
theorem RnI.start (L : Arcs) (n : Nat) : RnI L n 0 0 := ⟨Or.inl ⟨rfl, fun t b h => by omega⟩⟩
theorem RnI.none {L : Arcs} {n i r a b : Nat} (h : RnI L n i r) (hi : L[i]? = some (a, b)) (hn : a ≠ n ∨ ¬ Rp L b n) : RnI L n (i + 1) r := by
  rcases h.out with ⟨h1, h2⟩ | ⟨h1, h2, h3⟩
  · refine ⟨Or.inl ⟨h1, fun t c ht hc hr => ?_⟩⟩
    rcases Nat.lt_or_eq_of_le (Nat.le_of_lt_succ ht) with h4 | rfl
    · exact h2 t c h4 hc hr
    · rw [hi] at hc; cases hc
      rcases hn with h5 | h5
      · exact h5 rfl
      · exact h5 hr
  · refine ⟨Or.inr ⟨h1, h2, fun t c v ht hc hd => ?_⟩⟩
    rcases Nat.lt_or_eq_of_le (Nat.le_of_lt_succ ht) with h4 | rfl
    · exact h3 t c v h4 hc hd
    · rw [hi] at hc; cases hc
      rcases hn with h5 | h5
      · exact absurd rfl h5
      · exact absurd ⟨v, hd.1⟩ h5
theorem RnI.less {L : Arcs} {n i r b v : Nat} (h : RnI L n i r) (hi : L[i]? = some (n, b)) (hd : Dst L b n v) (hr : r = 0 ∨ v + 1 < r) : RnI L n (i + 1) (v + 1) := by
  refine ⟨Or.inr ⟨by omega, ⟨b, List.mem_of_getElem? hi, hd.1⟩, fun t c u ht hc hu => ?_⟩⟩
  rcases Nat.lt_or_eq_of_le (Nat.le_of_lt_succ ht) with h4 | rfl
  · rcases h.out with ⟨h1, h2⟩ | ⟨h1, h2, h3⟩
    · exact absurd ⟨u, hu.1⟩ (h2 t c h4 hc)
    · have := h3 t c u h4 hc hu; omega
  · rw [hi] at hc; cases hc
    rw [hd.one hu]; exact Nat.le_refl _
theorem RnI.more {L : Arcs} {n i r b v : Nat} (h : RnI L n i r) (hi : L[i]? = some (n, b)) (hd : Dst L b n v) (h0 : 0 < r) (hr : r ≤ v + 1) : RnI L n (i + 1) r := by
  rcases h.out with ⟨h1, h2⟩ | ⟨h1, h2, h3⟩
  · omega
  · refine ⟨Or.inr ⟨h1, h2, fun t c u ht hc hu => ?_⟩⟩
    rcases Nat.lt_or_eq_of_le (Nat.le_of_lt_succ ht) with h4 | rfl
    · exact h3 t c u h4 hc hu
    · rw [hi] at hc; cases hc
      rw [← hd.one hu]; exact hr
theorem RnI.done {N : Nat} {L : Arcs} {n r : Nat} (hok : Ok N L) (h : RnI L n L.length r) : RndS L n r := by
  rcases h.out with ⟨h1, h2⟩ | ⟨h1, h2, h3⟩
  · refine Or.inl ⟨h1, fun hc => ?_⟩
    obtain ⟨b, hb, hr⟩ := hc.next
    obtain ⟨t, ht⟩ := List.mem_iff_getElem?.mp hb
    exact h2 t b (lt_of_get ht) ht hr
  · refine Or.inr ⟨h1, h2, fun j hj hjr hw => ?_⟩
    obtain ⟨k, rfl⟩ : ∃ k, j = k + 1 := ⟨j - 1, by omega⟩
    obtain ⟨b, hb, hw⟩ := hw
    obtain ⟨v, _, hv⟩ := Dst.ex hok (hok n b hb).2 ⟨k, hw⟩
    obtain ⟨t, ht⟩ := List.mem_iff_getElem?.mp hb
    have := h3 t b v (lt_of_get ht) ht hv
    have hvk : v ≤ k := by
      rcases Nat.lt_or_ge k v with h4 | h4
      · exact absurd hw (hv.2 k h4)
      · exact h4
    omega

set_option maxHeartbeats 1600000 in
theorem ref_round (N : Nat) (L : Arcs) (n : Nat) (d : List Int) (A B : Option Addr) (c cd : Nat) (w : World) (hN : N ≤ 64) (hL : L.length ≤ 512) (hok : Ok N L) (hn : n < N) (ha : Ars w A (asI L)) (hd : IsD N L n d) (hb : Cl eI w B d) :
    Calls Try.prog 38 #[.agg #[.int .i64 (N : Int), .slice A L.length c], .int .i64 (n : Int), .slice B N cd] w fun e w' => ∃ r : Nat, e = .returned (.int .i64 (r : Int)) ∧ RndS L n r ∧ Below w.heap.size w w' := by
  have HA := Lib.hid ha
  have HOK := Lib.hid hok
  have HD := Lib.hid hd
  have HB := Lib.hid hb
  clear ha hok hd hb
  go_enter Try.func38, Try.ntmps38
  go_upto_region 1 with fail
  obtain ⟨w2, hw2⟩ : ∃ W, w.alloc (.cells #[.int .i64 (N : Int), .slice A L.length c] 24) = W := ⟨_, rfl⟩
  have HX2 : Hid (Bx w2 w.heap.size (N : Int) A L.length c) := hw2 ▸ Bx.new _ _ _ _ _ _
  have HB2 : Hid (Below w.heap.size w w2) := hw2 ▸ below_alloc _ _
  rw [hw2]
  clear hw2
  go_wp2_with fail
  go_loopw [7, 8] (fun v i wr => ∃ (r k : Nat), k ≤ L.length ∧ i = .int .i64 k ∧ v = .int .i64 (r : Int) ∧ RnI L n k r ∧ Below w2.heap.size w2 wr) (fun _ i _ => L.length - (intOf i).toNat)
  case atStart => exact ⟨0, 0, Nat.zero_le _, rfl, rfl, RnI.start L n, Below.refl _ _⟩
  case round =>
    obtain ⟨r, k, hk, rfl, rfl, hr, hbel⟩ := hrel
    have HR := Lib.hid hr
    have HW := Lib.hid hbel
    obtain ⟨_, x0, x1⟩ := HX2.out.on hbel
    clear hr hbel
    rcases Nat.lt_or_ge k L.length with hlt | hge
    · obtain ⟨⟨a, b⟩, hab⟩ := get_lt hlt
      obtain ⟨b0, off, rfl, hb0, f0, f1⟩ := (HA.out.on (bstep HB2.out HW.out)).nat hab
      have hN2 := HOK.out a b (List.mem_of_getElem? hab)
      have HAB := Lib.hid hab
      have l1 : (a : Int) < (N : Int) := by omega
      have l2 : (0 : Int) ≤ (a : Int) := by omega
      have l3 : (b : Int) < (N : Int) := by omega
      have l4 : (0 : Int) ≤ (b : Int) := by omega
      have l5 : (k : Int) < (L.length : Int) := by omega
      have l6 : (0 : Int) ≤ (k : Int) := by omega
      rcases HD.out.2 b hN2.2 with ⟨hdb, hnr⟩ | ⟨u, hdb, hdu⟩
      · obtain ⟨b1, off1, rfl, hb1, t1⟩ := (HB.out.on (bstep HB2.out HW.out)) b _ hdb
        have t1 : wr.cell? ⟨b1, off1 + b, none⟩ = some (.int .i64 (-1)) := t1
        have HR2 := Lib.hid (HR.out.none hab (Or.inr hnr))
        clear hab hdb hnr hb0 hb1
        by_cases han : a = n
        · subst han
          have s1 : ((a : Int) == (a : Int)) = true := by simp
          go_wp2_with fail
          go_roundw
          case rel => exact ⟨r, k + 1, by omega, by go_num, rfl, HR2.out, HW.out⟩
          case measure => simp [intOf]; omega
        · have s1 : ((a : Int) == (n : Int)) = false := beq_false_of_ne (by omega)
          clear han
          go_wp2_with fail
          go_roundw
          case rel => exact ⟨r, k + 1, by omega, by go_num, rfl, HR2.out, HW.out⟩
          case measure => simp [intOf]; omega
      · obtain ⟨b1, off1, rfl, hb1, t1⟩ := (HB.out.on (bstep HB2.out HW.out)) b _ hdb
        have t1 : wr.cell? ⟨b1, off1 + b, none⟩ = some (.int .i64 (u : Int)) := t1
        obtain ⟨v, hv5, hv⟩ := Dst.ex HOK.out hN2.2 ⟨u, hdu.1⟩
        obtain rfl := hdu.one hv
        have hwr : IntKind.i64.wrap ((u : Int) + 1) = (u : Int) + 1 := wrap_id (by omega)
        have HDU := Lib.hid hdu
        clear hdb hb0 hb1 hv hdu
        by_cases han : a = n
        · subst han
          have s1 : ((a : Int) == (a : Int)) = true := by simp
          have s2 : (0 : Int) < (u : Int) + 1 := by omega
          by_cases hr0 : r = 0
          · subst hr0
            have HR2 := Lib.hid (HR.out.less hab HDU.out (Or.inl rfl))
            have hk5 : (((u + 1 : Nat) : Int)) = (u : Int) + 1 := by omega
            have HK5 := Lib.hid hk5
            clear hab hk5
            go_wp2_with fail
            go_roundw
            case rel => exact ⟨u + 1, k + 1, by omega, by go_num, by rw [HK5.out], HR2.out, HW.out⟩
            case measure => simp [intOf]; omega
          · have s3 : ((r : Int) == 0) = false := beq_false_of_ne (by omega)
            by_cases hlt2 : u + 1 < r
            · have HR2 := Lib.hid (HR.out.less hab HDU.out (Or.inr hlt2))
              have s4 : (u : Int) + 1 < (r : Int) := by omega
              have HK5 : Hid ((((u + 1 : Nat) : Int)) = (u : Int) + 1) := (by omega : (((u + 1 : Nat) : Int)) = (u : Int) + 1)
              clear hab hr0 hlt2
              go_wp2_with fail
              go_roundw
              case rel => exact ⟨u + 1, k + 1, by omega, by go_num, by rw [HK5.out], HR2.out, HW.out⟩
              case measure => simp [intOf]; omega
            · have HR2 := Lib.hid (HR.out.more hab HDU.out (by omega) (by omega))
              have s4 : decide ((u : Int) + 1 < (r : Int)) = false := decide_eq_false (by omega)
              clear hab hr0 hlt2
              go_wp2_with fail
              go_roundw
              case rel => exact ⟨r, k + 1, by omega, by go_num, rfl, HR2.out, HW.out⟩
              case measure => simp [intOf]; omega
        · have s1 : ((a : Int) == (n : Int)) = false := beq_false_of_ne (by omega)
          have HR2 := Lib.hid (HR.out.none hab (Or.inl han))
          clear hab han
          go_wp2_with fail
          go_roundw
          case rel => exact ⟨r, k + 1, by omega, by go_num, rfl, HR2.out, HW.out⟩
          case measure => simp [intOf]; omega
    · obtain rfl : L.length = k := by omega
      have HS := Lib.hid (HR.out.done HOK.out)
      have HBZ := Lib.hid (bstep HB2.out HW.out)
      go_wp2_with fail
      go_ret
      exact ⟨r, rfl, HS.out, HBZ.out⟩
#print axioms ref_round
end Go.Proofs.Ytlbknnafecdakaa.Graph
