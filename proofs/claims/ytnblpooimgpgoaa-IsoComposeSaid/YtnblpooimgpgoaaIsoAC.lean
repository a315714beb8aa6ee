/- What the walks of the laws share. -/
import Derived.Test.YtnblpooimgpgoaaIsoAA
import Derived.Test.YtnblpooimgpgoaaIsoAB
namespace Go.Proofs.Ytnblpooimgpgoaa.Iso
open Go.ChangeShapes Go.WideShapes Go.RowKit Go.Lib Go.Proofs.Ytnblpooimgpgoaa.Rw
open Go.Proofs.Ytnblpooimgpgoaa.Span (Sps IsNf Nrm hasB hasB_iff cnt inS_iff)
set_option linter.unusedVariables false
set_option maxRecDepth 100000

theorem Mp.on {w w' : World} {A : Option Addr} {c : Nat} {M : List Rn} (h : Mp w A c M) (hb : Below w.heap.size w w') : Mp w' A c M := ⟨h.1.on hb, h.2⟩
theorem fulL_len (M : List Rn) : (fulL M).length ≤ 256 := by
  unfold fulL
  rcases Nat.lt_or_ge 256 M.length with h | h
  · rw [if_pos h]; simp
  · rw [if_neg (by omega)]; exact h
theorem nrmL_len (L : List Rn) : (nrmL L).length ≤ 256 := by
  unfold nrmL
  by_cases h : eC L = 0
  · rw [if_pos h]
    have hv := Vd.ofE h
    have := nfL_len hv.pos
    have := hv.n
    omega
  · rw [if_neg h]; simp
theorem revL_ex {L : List Rn} (h : Vd L) : ex (L.reverse.map revR) = (ex L).reverse := ex_rev h.pos
theorem revL_len (L : List Rn) : (revL L).length ≤ 256 := by
  unfold revL
  by_cases h : eC L = 0
  · rw [if_pos h]
    have hv := Vd.ofE h
    have := nfL_len (m := L.reverse.map revR) fun r hr => gd_pos (gd_revs hv.all r hr)
    rw [ex_rev hv.pos, List.length_map, List.length_reverse] at this
    have := hv.n
    omega
  · rw [if_neg h]; simp
theorem prt_nf_len {L : List Rn} (hv : Vd L) (f t : Int) : (nfL (win (ex L) f.toNat t.toNat)).length ≤ 256 := by
  have h1 := nfL_len (m := pcs L f t) fun r hr => gd_pos (pcs_gd hv.all f t r hr)
  rw [pcs_ex hv.pos] at h1
  have := pcs_len L f t
  have := hv.n
  omega
theorem prtL_len (L : List Rn) (f t : Int) : (prtL L f t).length ≤ 256 := by
  unfold prtL
  by_cases h0 : prtE L f t = 0
  · rw [if_pos h0]
    have hz : eC L = 0 := by
      unfold prtE at h0
      by_cases hz : eC L = 0
      · exact hz
      · rw [if_neg hz] at h0; exact h0
    exact prt_nf_len (Vd.ofE hz) f t
  · rw [if_neg h0]; simp
theorem jnL_len (a b : List Rn) : (jnL a b).length ≤ 256 := by
  unfold jnL
  split
  · split
    · simp
    · exact fulL_len _
  · simp
theorem cmpL_len (a b : List Rn) : (cmpL a b).length ≤ 256 := by
  unfold cmpL
  split
  · split
    · simp
    · exact fulL_len _
  · simp
theorem long_ok {L : List Rn} (h : L.length ≤ 256) : L.length ≤ 9223372036854775807 := by omega
/-- Normal forms of images of valid maps are valid. -/
theorem vd_nf {L : List Rn} (h : Vd L) : Vd (nfL (ex L)) := by
  refine nfL_vd (fun x hx => h.range hx) ?_ ?_
  · rw [ex_len h.pos]; exact h.len
  · have := nfL_len h.pos; have := h.n; omega
theorem vd_rev {L : List Rn} (h : Vd L) : Vd (nfL (ex L).reverse) := by
  refine nfL_vd (fun x hx => h.range (List.mem_reverse.mp hx)) ?_ ?_
  · rw [List.length_reverse, ex_len h.pos]; exact h.len
  · have := revL_len L; unfold revL at this; rw [if_pos h.eC] at this; exact this
theorem win_mem {L : List Int} {f t : Nat} {x : Int} (h : x ∈ win L f t) : x ∈ L := List.mem_of_mem_take (List.mem_of_mem_drop h)
theorem win_le (L : List Int) (f t : Nat) : (win L f t).length ≤ L.length := by unfold win; rw [List.length_drop, List.length_take]; omega
theorem vd_win {L : List Rn} (h : Vd L) (f t : Int) : Vd (nfL (win (ex L) f.toNat t.toNat)) := by
  refine nfL_vd (fun x hx => h.range (win_mem hx)) ?_ (prt_nf_len h f t)
  have h1 := win_le (ex L) f.toNat t.toNat
  have h2 := ex_len h.pos
  have h3 := h.len
  unfold ml at *
  omega
/-- Whether a composition returns no error: what it is. -/
theorem cmp_zero {a b : List Rn} (h : cmpE a b = 0) : ∃ X, Vd a ∧ Vd b ∧ comp (ex a) b = some X ∧ cmpL a b = nfL X ∧ (nfL X).length ≤ 256 ∧ Vd (nfL X) := by
  unfold cmpE at h
  by_cases hz : bothE a b = 0
  · rw [if_pos hz] at h
    obtain ⟨ha, hb⟩ := both_zero hz
    cases hc : comp (ex a) b with
    | none => rw [hc] at h; cases h
    | some X =>
      rw [hc] at h
      simp only at h
      have hl : (nfL X).length ≤ 256 := by
        unfold fulE at h
        rcases Nat.lt_or_ge 256 (nfL X).length with h1 | h1
        · rw [if_pos h1] at h; cases h
        · exact h1
      have hr := comp_range hc hb
      refine ⟨X, ha, hb, rfl, ?_, hl, nfL_vd hr.1 ?_ hl⟩
      · unfold cmpL; rw [if_pos hz, hc]; simp only; unfold fulL; rw [if_neg (by omega)]
      · rw [hr.2, ex_len ha.pos]; exact ha.len
  · rw [if_neg hz] at h; exact absurd h hz
theorem cmp_of {a b : List Rn} (ha : Vd a) (hb : Vd b) {X : List Int} (h : comp (ex a) b = some X) : cmpE a b = fulE (nfL X) ∧ cmpL a b = fulL (nfL X) := by
  have hz : bothE a b = 0 := by unfold bothE; rw [if_pos ha.eC, hb.eC]
  unfold cmpE cmpL
  rw [if_pos hz, if_pos hz, h]
  exact ⟨rfl, rfl⟩
theorem fulE_cases (M : List Rn) : (fulE M = 0 ∧ fulL M = M ∧ M.length ≤ 256) ∨ (fulE M = 8 ∧ fulL M = []) := by
  unfold fulE fulL
  rcases Nat.lt_or_ge 256 M.length with h | h
  · right; rw [if_pos h, if_pos h]; exact ⟨rfl, rfl⟩
  · left; rw [if_neg (by omega), if_neg (by omega)]; exact ⟨rfl, rfl, h⟩
/-- The image, or -1: also of what is no map. -/
def atW (L : List Rn) (x : Int) : Int := if eC L = 0 then atI L x else -1
theorem atW_ok {L : List Rn} (h : Vd L) (x : Int) : atW L x = atI L x := if_pos h.eC
set_option maxHeartbeats 400000 in
theorem iso_at (L : List Rn) (A : Option Addr) (c : Nat) (x : Int) (w : World) (ha : Rns w A L) (hm : L.length ≤ 9223372036854775807) :
    Calls Try.prog 38 #[.slice A L.length c, .int .i64 x] w fun e w' => e = .returned (.int .i64 (atW L x)) ∧ Below w.heap.size w w' := by
  have HK := Lib.hid (iso_At L A c x w ha hm)
  obtain ⟨E, hE⟩ : ∃ E, atE L x = E := ⟨_, rfl⟩
  obtain ⟨V, hV⟩ : ∃ V, atV L x = V := ⟨_, rfl⟩
  rw [hE, hV] at HK
  have HW : Hid (atW L x = if E = 0 then V else -1) := by
    show atW L x = if E = 0 then V else -1
    rw [← hE, ← hV]
    unfold atW atV
    by_cases h0 : atE L x = 0
    · rw [if_pos h0, if_pos h0]
      have hz : eC L = 0 := by
        unfold atE at h0
        by_cases hz : eC L = 0
        · exact hz
        · rw [if_neg hz] at h0; exact h0
      rw [if_pos hz]
    · rw [if_neg h0]
      by_cases hz : eC L = 0
      · rw [if_pos hz]
        unfold atE at h0
        rw [if_pos hz] at h0
        have ho : x < 0 ∨ lenM L ≤ x := by
          by_cases hh : x < 0 ∨ lenM L ≤ x
          · exact hh
          · rw [if_neg hh] at h0; exact absurd rfl h0
        exact atI_none ((atM_none (Vd.ofE hz).pos).mpr ho)
      · rw [if_neg hz]
  clear ha hE hV
  by_cases h0 : E = 0
  · subst h0
    have HV : Hid (atW L x = V) := HW.out.trans (if_pos rfl)
    go_enter Try.func38, Try.ntmps38
    go_wp2_with fail
    refine HK.out.mono ?_
    rintro e w1 ⟨rfl, hb1⟩
    go_wp2_with fail
    go_ret
    exact ⟨ret_int HV.out.symm, hb1⟩
  · have HV : Hid (atW L x = -1) := HW.out.trans (if_neg h0)
    obtain ⟨z1, z2⟩ := ne_tests h0
    clear h0
    go_enter Try.func38, Try.ntmps38
    go_wp2_with fail
    refine HK.out.mono ?_
    rintro e w1 ⟨rfl, hb1⟩
    go_wp2_with fail
    go_ret
    exact ⟨ret_int HV.out.symm, hb1⟩
/-- Two sets in normal form are the same. -/
theorem set_one {E : Int} {f : Int → Bool} {M N : List (Int × Int)} (h1 : E = 0 → IsNf f M) (h2 : ¬ E = 0 → M = []) (h3 : E = 0 → IsNf f N) (h4 : ¬ E = 0 → N = []) : M = N := by
  by_cases h : E = 0
  · exact (h1 h).one (h3 h)
  · rw [h2 h, h4 h]
#print axioms iso_at
#print axioms cmp_zero
end Go.Proofs.Ytnblpooimgpgoaa.Iso
