/- Several texts in one: ChestK, ChestL, ChestH, ChestM, ChestN, ChestF, ChestO. -/
import Derived.Test.YtagjimdplmimoaaPk9
import Derived.Test.YtagjimdplmimoaaPk17
import Derived.Test.YtagjimdplmimoaaPk3
import Derived.Laws.CopyOwn
import Derived.Test.YtagjimdplmimoaaPk2
import Derived.Test.YtagjimdplmimoaaPk7
/- The program: fibre.Total; Level, Check, New. -/
namespace Go.Proofs.Ytagjimdplmimoaa.Chest
open Go.ChangeShapes Go.WideShapes Go.RowKit Go.Lib
open Go.Proofs.Ytagjimdplmimoaa.Mem (Cl eI Own make_ints)
open Go.Proofs.Ytagjimdplmimoaa.Share (sumK sumK_zero sumK_succ mx tot_all allIn_of cl_holds one_made lst_zero own_cl)
open Go.Proofs.Ytagjimdplmimoaa.Num (num_sum)
open Go.Proofs.Ytagjimdplmimoaa.Tank (MM inM inM_iff kiB kiB_iff lisE lisE_no lisE_of lisE_mk lisE_cases cl_at q_Parts)
open Go.Proofs.Ytagjimdplmimoaa.Rw (glt get_lt ret_bool ret_int bstep below_drewN below_drew drew_below below_alloc)
set_option linter.unusedVariables false
set_option maxRecDepth 100000

theorem q_sum (l : List Int) (A : Option Addr) (n c : Nat) (hn : n = l.length) (w : World) (ha : Cl eI w A l) (hl : n ≤ 8) (hz : ∀ z ∈ l, 0 ≤ z ∧ z ≤ MM) :
    Calls Try.prog 45 #[.slice A n c] w fun e w' => e = .returned (.tuple #[.int .i64 (sumZ l), .int .i64 0]) ∧ Below w.heap.size w w' := by
  subst hn
  have hM : MM = 1099511627776 := rfl
  have hX : mx = 1125899906842624 := rfl
  have h1 : Num.allIn l = true := allIn_of fun z h => by have := hz z h; rw [hX]; omega
  have h2 := sumZ_lim hz hl
  have h3 : Num.tot l = sumZ l := tot_all l
  have hV : Num.sumV l = sumZ l := by rw [Num.sumV_all (by omega) h1, h3]; exact Num.okV_yes (by omega) (by omega)
  have hE : Num.sumE l = 0 := by rw [Num.sumE_all (by omega) h1, h3]; exact Num.okE_yes (by omega) (by omega)
  have h := num_sum l A c w (cl_holds ha) (by omega)
  rw [hV, hE] at h
  exact h

/-- fibre.Total. -/
def toV (m : List Int) : Int := if Tank.parE m (m.length : Int) = 0 then sumZ m else 0
theorem toV_no {m : List Int} (h : ¬ Tank.parE m (m.length : Int) = 0) : toV m = 0 := if_neg h
theorem toV_ok {m : List Int} (h : Tank.parE m (m.length : Int) = 0) : toV m = sumZ m := if_pos h
set_option maxHeartbeats 800000 in
theorem q_Total (m : List Int) (A : Option Addr) (n c : Nat) (hn : n = m.length) (w : World) (ha : Cl eI w A m) (hm : n ≤ 9223372036854775807) :
    Calls Try.prog 31 #[.slice A n c] w fun e w' => e = .returned (.tuple #[.int .i64 (toV m), .int .i64 (Tank.parE m (m.length : Int))]) ∧ Below w.heap.size w w' := by
  have HA := Lib.hid ha
  have HP := Lib.hid (q_Parts m A n c hn n w ha hm)
  obtain ⟨F, hF⟩ : ∃ F, Tank.parE m (m.length : Int) = F := ⟨_, rfl⟩
  have hF2 : Tank.parE m (n : Int) = F := by rw [hn]; exact hF
  rw [hF2] at HP
  by_cases hz : F = 0
  rotate_left
  · obtain ⟨z1, z2⟩ := ne_zero hz
    have he : toV m = 0 := toV_no (by rw [hF]; exact hz)
    rw [he, hF]
    clear ha hn hF hF2 hz he
    go_enter Try.func31, Try.ntmps31
    go_wp2_with fail
    refine HP.out.mono ?_
    rintro e w1 ⟨rfl, hb⟩
    have B1 := Lib.hid hb
    clear hb
    go_wp2_with fail
    go_ret2
    exact ⟨rfl, B1.out⟩
  subst hz
  obtain ⟨h1, h2, h3, h4⟩ := lisE_of hF2
  have HS := Lib.hid fun (W : World) (h : Cl eI W A m) => q_sum m A n c hn W h (by omega) h4
  have he : toV m = sumZ m := toV_ok hF
  rw [he, hF]
  obtain ⟨S, hS⟩ : ∃ S, sumZ m = S := ⟨_, rfl⟩
  rw [hS] at HS
  rw [hS]
  clear ha hn hF hF2 h1 h2 h3 h4 hS he
  go_enter Try.func31, Try.ntmps31
  go_wp2_with fail
  refine HP.out.mono ?_
  rintro e w1 ⟨rfl, hb⟩
  have B1 := Lib.hid hb
  clear hb
  go_wp2_with fail
  refine (HS.out w1 (HA.out.on B1.out)).mono ?_
  rintro e w2 ⟨rfl, hb⟩
  have B2 := Lib.hid (bstep B1.out hb)
  clear hb
  go_wp2_with fail
  go_ret2
  exact ⟨rfl, B2.out⟩

theorem parE_of {l : List Int} (h : 1 ≤ l.length ∧ l.length ≤ 8) : Tank.parE l (l.length : Int) = if l.all (inM MM) then 0 else 1 := by
  unfold Tank.parE lisE
  rw [kiB_iff.mpr ⟨by omega, by omega, rfl⟩]; rfl
theorem ckC_two {cap : Int} {L : List Int} (h : 1 ≤ cap ∧ cap ≤ MM) : ckC cap L = if Tank.parE L (L.length : Int) = 0 then (if cap < sumZ L then 8 else 0) else Tank.parE L (L.length : Int) := by
  by_cases hl : 1 ≤ L.length ∧ L.length ≤ 8
  · rw [parE_of hl]
    unfold ckC
    rw [if_pos h, if_pos hl]
    by_cases ha : L.all (inM MM) = true
    · rw [if_pos ha, if_pos ha, if_pos rfl]
    · rw [if_neg ha, if_neg ha, if_neg (by decide)]
  · have : Tank.parE L (L.length : Int) = 17 := lisE_no (Bool.eq_false_iff.mpr fun hk => by have := kiB_iff.mp hk; omega)
    rw [this, ckC_len h hl, if_neg (by decide)]
theorem levV_no {cap : Int} {L : List Int} (h : ¬ ckC cap L = 0) : levV cap L = 0 := if_neg h
theorem levV_ok {cap : Int} {L : List Int} (h : ckC cap L = 0) : levV cap L = sumZ L := if_pos h
set_option maxHeartbeats 1600000 in
theorem ch_Level (cap : Int) (L : List Int) (A : Option Addr) (n c : Nat) (hn : n = L.length) (w : World) (ha : Cl eI w A L) (hm : n ≤ 9223372036854775807) :
    Calls Try.prog 13 #[.agg #[.int .i64 cap, .slice A n c]] w fun e w' => e = .returned (.tuple #[.int .i64 (levV cap L), .int .i64 (ckC cap L)]) ∧ Below w.heap.size w w' := by
  obtain ⟨E, hE⟩ : ∃ E, ckC cap L = E := ⟨_, rfl⟩
  obtain ⟨V, hV⟩ : ∃ V, levV cap L = V := ⟨_, rfl⟩
  rw [hE, hV]
  have hMM : MM = 1099511627776 := rfl
  have key : ¬ (1 ≤ cap ∧ cap ≤ MM) → E = 1 ∧ V = 0 := fun h => by
    have h1 := ckC_cap (L := L) h
    exact ⟨by rw [← hE]; exact h1, by rw [← hV]; exact levV_no (by rw [h1]; decide)⟩
  rcases Int.lt_or_le cap 1 with h0 | h0
  · have d0 : decide (cap < 1) = true := decide_eq_true h0
    obtain ⟨rfl, rfl⟩ := key (by omega)
    clear hE hV h0 ha hn hm hMM key
    go_enter Try.func13, Try.ntmps13
    go_wp2_with fail
    go_ret2
    exact ⟨rfl, below_alloc _ _⟩
  have d0 : decide (cap < 1) = false := decide_eq_false (by omega)
  rcases Int.lt_or_le 1099511627776 cap with h1 | h1
  · have d1 : decide (1099511627776 < cap) = true := decide_eq_true h1
    obtain ⟨rfl, rfl⟩ := key (by omega)
    clear hE hV h0 h1 ha hn hm hMM key
    go_enter Try.func13, Try.ntmps13
    go_wp2_with fail
    go_ret2
    exact ⟨rfl, below_alloc _ _⟩
  have d1 : decide (1099511627776 < cap) = false := decide_eq_false (by omega)
  have hc : 1 ≤ cap ∧ cap ≤ MM := by omega
  have h2 := ckC_two (L := L) hc
  rw [hE] at h2
  have HA := Lib.hid ha
  have HT := Lib.hid fun (W : World) (h : Cl eI W A L) => q_Total L A n c hn W h hm
  obtain ⟨F, hF⟩ : ∃ F, Tank.parE L (L.length : Int) = F := ⟨_, rfl⟩
  rw [hF] at h2 HT
  by_cases hz : F = 0
  rotate_left
  · obtain ⟨z1, z2⟩ := ne_zero hz
    rw [if_neg hz] at h2
    obtain rfl : V = 0 := by rw [← hV]; exact levV_no (by rw [hE, h2]; exact hz)
    subst h2
    have ht : toV L = 0 := toV_no (by rw [hF]; exact hz)
    rw [ht] at HT
    clear hE hV h0 h1 ha hn hm hMM key hc hF hz ht
    go_enter Try.func13, Try.ntmps13
    go_wp2_with fail
    refine (HT.out _ (HA.out.on (below_alloc _ _))).mono ?_
    rintro e w1 ⟨rfl, hb⟩
    have B1 := Lib.hid (bstep (below_alloc _ _) hb)
    clear hb
    go_wp2_with fail
    go_ret2
    exact ⟨rfl, B1.out⟩
  subst hz
  rw [if_pos rfl] at h2
  have ht : toV L = sumZ L := toV_ok hF
  obtain ⟨S, hS⟩ : ∃ S, sumZ L = S := ⟨_, rfl⟩
  rw [ht, hS] at HT
  rw [hS] at h2
  rcases Int.lt_or_le cap S with hg | hg
  · have d2 : decide (cap < S) = true := decide_eq_true hg
    rw [if_pos hg] at h2
    subst h2
    obtain rfl : V = 0 := by rw [← hV]; exact levV_no (by rw [hE]; decide)
    clear hE hV h0 h1 ha hn hm hMM key hc hF ht hS hg
    go_enter Try.func13, Try.ntmps13
    go_wp2_with fail
    refine (HT.out _ (HA.out.on (below_alloc _ _))).mono ?_
    rintro e w1 ⟨rfl, hb⟩
    have B1 := Lib.hid (bstep (below_alloc _ _) hb)
    obtain ⟨x0, x1⟩ := ((Rw.Cel.new w [.int .i64 cap, .slice A n c] 24).on hb).two
    clear hb
    go_wp2_with fail
    go_ret2
    exact ⟨rfl, B1.out⟩
  · have d2 : decide (cap < S) = false := decide_eq_false (by omega)
    rw [if_neg (by omega)] at h2
    subst h2
    obtain rfl : V = S := by rw [← hV, ← hS]; exact levV_ok hE
    clear hE hV h0 h1 ha hn hm hMM key hc hF ht hS hg
    go_enter Try.func13, Try.ntmps13
    go_wp2_with fail
    refine (HT.out _ (HA.out.on (below_alloc _ _))).mono ?_
    rintro e w1 ⟨rfl, hb⟩
    have B1 := Lib.hid (bstep (below_alloc _ _) hb)
    obtain ⟨x0, x1⟩ := ((Rw.Cel.new w [.int .i64 cap, .slice A n c] 24).on hb).two
    clear hb
    go_wp2_with fail
    go_ret2
    exact ⟨rfl, B1.out⟩

set_option maxHeartbeats 800000 in
theorem ch_Check (cap : Int) (L : List Int) (A : Option Addr) (n c : Nat) (hn : n = L.length) (w : World) (ha : Cl eI w A L) (hm : n ≤ 9223372036854775807) :
    Calls Try.prog 17 #[.agg #[.int .i64 cap, .slice A n c]] w fun e w' => e = .returned (.int .i64 (ckC cap L)) ∧ Below w.heap.size w w' := by
  have HT := Lib.hid fun (W : World) (h : Cl eI W A L) => ch_Level cap L A n c hn W h hm
  have HA := Lib.hid ha
  obtain ⟨E, hE⟩ : ∃ E, ckC cap L = E := ⟨_, rfl⟩
  obtain ⟨V, hV⟩ : ∃ V, levV cap L = V := ⟨_, rfl⟩
  rw [hE, hV] at HT
  rw [hE]
  clear hE hV ha hn hm
  go_enter Try.func17, Try.ntmps17
  go_wp2_with fail
  refine (HT.out _ (HA.out.on (below_alloc _ _))).mono ?_
  rintro e w1 ⟨rfl, hb⟩
  have B1 := Lib.hid (bstep (below_alloc _ _) hb)
  clear hb
  go_wp2_with fail
  go_ret
  exact ⟨rfl, B1.out⟩

theorem sumK_zeros (n : Nat) : ∀ k, k ≤ n → sumK (List.replicate n 0) k = 0
  | 0, _ => sumK_zero _
  | k + 1, h => by
    have hz : (List.replicate n (0 : Int))[k]? = some 0 := by rw [List.getElem?_replicate, if_pos (by omega)]
    rw [sumK_succ hz, sumK_zeros n k (by omega)]; rfl
theorem ckC_new {cap : Int} {n : Nat} (h1 : 1 ≤ n) (h8 : n ≤ 8) : ckC cap (List.replicate n 0) = if 1 ≤ cap ∧ cap ≤ MM then 0 else 1 := by
  by_cases hc : 1 ≤ cap ∧ cap ≤ MM
  · have hl : (List.replicate n (0 : Int)).length = n := List.length_replicate
    rw [if_pos hc, ckC_end hc (by rw [hl]; omega) fun k z hz => ?_]
    · have : sumZ (List.replicate n 0) = 0 := by unfold sumZ; rw [hl]; exact sumK_zeros n n (Nat.le_refl _)
      rw [this, if_neg (by omega)]
    · have := List.eq_of_mem_replicate (List.mem_of_getElem? hz)
      subst this; decide
  · rw [if_neg hc, ckC_cap hc]
end Go.Proofs.Ytagjimdplmimoaa.Chest
/- The program: changed. -/
namespace Go.Proofs.Ytagjimdplmimoaa.Chest
open Go.ChangeShapes Go.WideShapes Go.RowKit Go.Lib
open Go.Proofs.Ytagjimdplmimoaa.Mem (Cl eI Own make_ints)
open Go.Proofs.Ytagjimdplmimoaa.Share (own_cl)
open Go.Proofs.Ytagjimdplmimoaa.Tank (MM cl_at)
open Go.Proofs.Ytagjimdplmimoaa.Rw (glt get_lt ret_bool ret_int bstep below_drewN below_drew drew_below below_alloc take_snoc_of)
set_option linter.unusedVariables false
set_option maxRecDepth 100000

/-- Masses, times a sign, added. -/
def chgL (s : Int) (L m : List Int) : List Int := List.zipWith (fun x y => x + s * y) L m
theorem chg_one (L m : List Int) : chgL 1 L m = plusL L m := by unfold chgL plusL; congr 1; funext x y; omega
theorem chg_neg (L m : List Int) : chgL (-1) L m = lessL L m := by unfold chgL lessL; congr 1; funext x y; omega
theorem chg_at {s : Int} {L m : List Int} {k : Nat} {x y : Int} (hx : L[k]? = some x) (hy : m[k]? = some y) : (chgL s L m)[k]? = some (x + s * y) := by
  unfold chgL; rw [List.getElem?_zipWith, hx, hy]
theorem chg_len {s : Int} {L m : List Int} (h : m.length = L.length) : (chgL s L m).length = L.length := by unfold chgL; rw [List.length_zipWith, h]; exact Nat.min_self _
def mixL (s : Int) (L m : List Int) (k : Nat) : List Int := (chgL s L m).take k ++ L.drop k
theorem mix_zero (s : Int) (L m : List Int) : mixL s L m 0 = L := rfl
theorem mix_all {s : Int} {L m : List Int} (h : m.length = L.length) : mixL s L m L.length = chgL s L m := by
  unfold mixL
  rw [List.drop_length, List.append_nil, List.take_of_length_le (by rw [chg_len h]; exact Nat.le_refl _)]
theorem mix_len {s : Int} {L m : List Int} {k : Nat} (h : m.length = L.length) (hk : k ≤ L.length) : (mixL s L m k).length = L.length := by
  unfold mixL
  rw [List.length_append, List.length_take, List.length_drop, chg_len h]; omega
theorem mix_at {s : Int} {L m : List Int} {k : Nat} {x : Int} (h : m.length = L.length) (hx : L[k]? = some x) : (mixL s L m k)[k]? = some x := by
  have hk := glt hx
  unfold mixL
  rw [List.getElem?_append_right (by rw [List.length_take, chg_len h]; omega), List.length_take, chg_len h, Nat.min_eq_left (by omega), Nat.sub_self, List.getElem?_drop]
  exact hx
theorem mix_set {s : Int} {L m : List Int} {k : Nat} {x y : Int} (h : m.length = L.length) (hx : L[k]? = some x) (hy : m[k]? = some y) : (mixL s L m k).set k (x + s * y) = mixL s L m (k + 1) := by
  have hk := glt hx
  have hl : ((chgL s L m).take k).length = k := by rw [List.length_take, chg_len h]; omega
  have hd : L.drop k = x :: L.drop (k + 1) := by
    rw [List.drop_eq_getElem_cons hk]
    congr 1
    rw [List.getElem?_eq_getElem hk] at hx
    exact Option.some.inj hx
  unfold mixL
  rw [List.set_append_right _ _ (by omega), hl, Nat.sub_self, hd, List.set_cons_zero, take_snoc_of (chg_at hx hy), List.append_assoc]
  rfl
theorem own_cells {w : World} {g n B : Nat} {L : List Int} {t : TypeId} (hg : w.heap[g]? = some (.cells (L.map eI).toArray t (0, 0))) (hB : B ≤ g) (hn : L.length = n) (h8 : n ≤ 8) : Own eI t B w (.slice (some ⟨g, 0, none⟩) n n) L := by
  refine ⟨by simp, Or.inr ⟨g, n, (L.map eI).toArray, by rw [hn], hB, hg, by omega, by unfold maxLen; omega, by simp [hn], ?_⟩⟩
  simp only [Nat.mul_one]
  exact List.take_of_length_le (by rw [List.length_map, hn]; exact Nat.le_refl _)
theorem src_cells {w : World} {A : Option Addr} {L : List Int} (h : Cl eI w A L) (hp : 0 < (L.map eI).length) : ∃ ad, A = some ad ∧ ∀ (j : Nat) (v : Value), (L.map eI)[j]? = some v → w.cell? (ad.add j) = some v := by
  rw [List.length_map] at hp
  obtain ⟨b, off, rfl, _, _⟩ := cl_at h (List.getElem?_eq_getElem hp)
  refine ⟨_, rfl, fun j v hv => ?_⟩
  rw [List.getElem?_map] at hv
  cases hj : L[j]? with
  | none => rw [hj] at hv; cases hv
  | some z =>
    rw [hj] at hv
    obtain rfl : eI z = v := by simpa using hv
    obtain ⟨b', off', e, _, hc⟩ := cl_at h hj
    cases e
    rw [Addr.add_lit]; exact hc
theorem copy_all {n : Nat} {L : List Int} (hn : L.length = n) : splice (List.replicate n (Value.int .i64 0)) 0 (L.map eI) = L.map eI := by
  unfold splice
  rw [List.take_zero, List.nil_append, List.drop_eq_nil_of_le (by simp [hn]), List.append_nil]
theorem size_int : (Try.prog.info? 3).map (·.size) = some 1 := by kernel_rfl
theorem sg_lim {s x y : Int} (hs : s = 1 ∨ s = -1) (hx : 0 ≤ x ∧ x ≤ MM) (hy : 0 ≤ y ∧ y ≤ MM) : -4398046511104 ≤ s * y ∧ s * y ≤ 4398046511104 ∧ -4398046511104 ≤ x + s * y ∧ x + s * y ≤ 4398046511104 := by
  have hM : MM = 1099511627776 := rfl
  rcases hs with rfl | rfl <;> omega

set_option maxHeartbeats 3200000 in
theorem ch_changed (cap s : Int) (L m : List Int) (A M : Option Addr) (n c n' c' : Nat) (hn : L.length = n) (hn' : m.length = n) (hnn : n' = n) (h8 : n ≤ 8) (hs : s = 1 ∨ s = -1) (hL : ∀ z ∈ L, 0 ≤ z ∧ z ≤ MM) (hm : ∀ z ∈ m, 0 ≤ z ∧ z ≤ MM) (w : World) (ha : Cl eI w A L) (hb : Cl eI w M m) :
    Calls Try.prog 34 #[.agg #[.int .i64 cap, .slice A n c], .slice M n' c', .int .i64 s] w (COne w cap (chgL s L m)) := by
  subst hnn
  have HA := Lib.hid ha
  have HB := Lib.hid hb
  have HN := Lib.hid (And.intro hn hn')
  have HL := Lib.hid (And.intro hL hm)
  have H8 := Lib.hid h8
  have HS := Lib.hid hs
  have HML := Lib.hid (hn'.trans hn.symm)
  have hmk := fun W => make_ints n' (by omega) W
  have HE1 : Hid ((L.map eI).length = Nat.min n' n') := Lib.hid (by rw [List.length_map, hn]; exact (Nat.min_self _).symm)
  have HE2 : Hid (0 + (L.map eI).length ≤ (List.replicate n' (Value.int .i64 0)).length) := Lib.hid (by rw [List.length_map, List.length_replicate, hn]; omega)
  have HE3 : Hid (∀ v ∈ L.map eI, v.oneCell' = true) := Lib.hid (fun v hv => by
    simp only [List.mem_map] at hv
    obtain ⟨x, _, rfl⟩ := hv
    rfl)
  clear ha hb hn hn' hL hm hs
  go_enter Try.func34, Try.ntmps34
  go_upto_region 1 with fail
  obtain ⟨w0, hw0⟩ : ∃ W, w.alloc (.cells #[.int .i64 cap, .slice A n' c] 24) = W := ⟨_, rfl⟩
  have C0 : Hid (Rw.Cel w0 w.heap.size [.int .i64 cap, .slice A n' c]) := hw0 ▸ Rw.Cel.new w [_, _] _
  have B0 : Hid (Below w.heap.size w w0) := hw0 ▸ below_alloc _ _
  have S0 : Hid (w0.heap.size = w.heap.size + 1) := Lib.hid (by rw [← hw0]; simp)
  rw [hw0]
  clear hw0
  obtain ⟨w1, hw1⟩ : ∃ W, w0.alloc (.cells #[.int .i64 0, .slice none 0 0] 24) = W := ⟨_, rfl⟩
  have D1 : Hid (Rw.Cel w1 (w.heap.size + 1) [.int .i64 0, .slice none 0 0]) := by
    refine Lib.hid ?_
    rw [← hw1, ← S0.out]; exact Rw.Cel.new w0 [_, _] _
  have C1 : Hid (Rw.Cel w1 w.heap.size [.int .i64 cap, .slice A n' c]) := hw1 ▸ C0.out.alloc _
  have B1 : Hid (Below w.heap.size w w1) := Lib.hid (bstep B0.out (hw1 ▸ below_alloc _ _))
  have S1 : Hid (w1.heap.size = w.heap.size + 2) := Lib.hid (by rw [← hw1]; simp [S0.out])
  rw [hw1]
  clear hw1 C0 B0 S0
  obtain ⟨x0, x1⟩ := C1.out.two
  go_upto_region 2 with fail
  obtain ⟨wm, hwm⟩ : ∃ W, w1.alloc (.cells (madeCells #[.int .i64 0] n') 3) = W := ⟨_, rfl⟩
  have HBM : Hid (Below w1.heap.size w1 wm) := hwm ▸ below_alloc _ _
  have HROW : Hid (wm.heap[w1.heap.size]? = some (.cells (List.replicate n' (Value.int .i64 0)).toArray 3 (0, 0))) := by
    subst hwm
    show _ = _
    rw [heap_alloc_new]
    have h := toList_madeCells_one (.int .i64 0) n'
    have e : madeCells #[.int .i64 0] n' = (List.replicate n' (Value.int .i64 0)).toArray := by
      rw [← Array.toArray_toList (xs := madeCells #[.int .i64 0] n'), h]
    rw [e]
  rw [hwm]
  clear hwm hmk x0 x1
  have HPOS : Hid (0 < (L.map eI).length → (some ⟨w1.heap.size, 0, none⟩ : Option Addr) = some ⟨w1.heap.size, 0, none⟩ ∧ ∃ ad, A = some ad ∧ ∀ (j : Nat) (v : Value), (L.map eI)[j]? = some v → wm.cell? (ad.add j) = some v) :=
    Lib.hid fun hp => ⟨rfl, src_cells (HA.out.on (bstep B1.out HBM.out)) hp⟩
  obtain ⟨x0, x1⟩ := (C1.out.on HBM.out).two
  go_wp2_with (first | (with_reducible refine wpList_copy_splice rfl (.tmp 14) (.tmp 16) 22 22 rfl 3 Try.underlying22 size_int _ _ _ _ _ _ rfl rfl w1.heap.size 0 (List.replicate n' (Value.int .i64 0)) _ HROW.out (L.map eI) HE1.out HPOS.out HE2.out HE3.out w1.heap.size w1 HBM.out (Nat.le_refl _) ?_; intro w3 hg3 hb3; refine Hid.out ?_) | fail)
  refine Lib.hid ?_
  have hr3 := hg3.out
  rw [copy_all HN.out.1] at hr3
  have HO3 := Lib.hid (own_cells (B := w1.heap.size) hr3 (Nat.le_refl _) HN.out.1 H8.out)
  have HB3 := Lib.hid hb3
  clear hg3 hb3 hr3 HROW HPOS x0 x1
  go_wp2_with fail
  go_loopw [20, 8, 9] (fun i _ _ wr => ∃ k : Nat, k ≤ n' ∧ i = .int .i64 k ∧ Own eI 3 w1.heap.size wr (.slice (some ⟨w1.heap.size, 0, none⟩) n' n') (mixL s L m k) ∧ Below w1.heap.size w1 wr) (fun i _ _ _ => n' - (RowKit.intOf i).toNat)
  case atStart => exact ⟨0, Nat.zero_le _, rfl, HO3.out, HB3.out⟩
  case round =>
    clear HO3 HB3
    obtain ⟨k, hk, rfl, hown, hbel⟩ := hrel
    have HO := Lib.hid hown
    have HW := Lib.hid hbel
    clear hown hbel
    rcases Nat.lt_or_ge k n' with hlt | hge
    · obtain ⟨x, hx⟩ := get_lt (L := L) (k := k) (by have := HN.out.1; omega)
      obtain ⟨y, hy⟩ := get_lt (L := m) (k := k) (by have := HN.out.2; omega)
      obtain ⟨b2, o2, hB0, hb2, h3⟩ := cl_at (HB.out.on (bstep B1.out HW.out)) hy
      subst hB0
      have hml : n' = (mixL s L m k).length := by rw [mix_len HML.out (by have := HN.out.1; omega)]; exact HN.out.1.symm
      have c1 := HO.out.cell (mix_at HML.out hx)
      have f1 := HO.out.warm hml k
      have hl := sg_lim HS.out (HL.out.1 x (List.mem_of_getElem? hx)) (HL.out.2 y (List.mem_of_getElem? hy))
      have hset := HO.out.set hml k (x + s * y)
      rw [mix_set HML.out hx hy] at hset
      obtain ⟨P, hP⟩ : ∃ P, s * y = P := ⟨_, rfl⟩
      rw [hP] at hl hset
      have wP : IntKind.i64.wrap P = P := Rw.wrap_id (by omega)
      obtain ⟨Q, hQ⟩ : ∃ Q, x + P = Q := ⟨_, rfl⟩
      rw [hQ] at hl hset
      have wQ : IntKind.i64.wrap Q = Q := Rw.wrap_id (by omega)
      have HSET := Lib.hid hset
      have i1 : (k : Int) < (n' : Int) := by omega
      have i2 : (0 : Int) ≤ (k : Int) := by omega
      clear hx hy hl hset hml hb2
      go_wp2_with fail
      go_roundw
      case rel => exact ⟨k + 1, by omega, by go_num, HSET.out, Mem.below_set HW.out (Nat.le_refl _) _⟩
      case measure => simp [RowKit.intOf]; omega
    · obtain rfl : k = n' := by omega
      have HF : Hid (Own eI 3 w1.heap.size wr (.slice (some ⟨w1.heap.size, 0, none⟩) k k) (chgL s L m)) := Lib.hid (by
        have h1 := HO.out
        rw [← HN.out.1, mix_all HML.out, HN.out.1] at h1
        exact h1)
      obtain ⟨x0, x1⟩ := (C1.out.on HW.out).two
      obtain ⟨u0, u1⟩ := (D1.out.on HW.out).two
      obtain ⟨v0, v1⟩ := (D1.out.on HW.out).warm2
      go_wp2_with fail
      refine bodyPost_ret (res_chest1 Try.results34 rfl ((D1.out.on HW.out).put2 _ _)) rfl ⟨_, _, _, rfl, own_len HF.out, own_far2 (HF.out.less (by rw [S1.out]; omega)) (fun e => ?_) _ _, Rw.below_put2 (bstep B1.out HW.out) (Nat.le_succ _) _ _⟩
      have h1 := (HF.out.lt _ e).1
      have h2 := S1.out
      omega
end Go.Proofs.Ytagjimdplmimoaa.Chest
/- Rate of the reference. -/
namespace Go.Proofs.Ytagjimdplmimoaa.Chest
open Go.ChangeShapes Go.WideShapes Go.RowKit Go.Lib
open Go.Proofs.Ytagjimdplmimoaa.Mem (Cl eI Own)
open Go.Proofs.Ytagjimdplmimoaa.Tank (MM cl_at)
open Go.Proofs.Ytagjimdplmimoaa.Rw (glt get_lt ret_bool ret_int bstep below_drewN below_drew drew_below below_alloc)
set_option linter.unusedVariables false
set_option maxRecDepth 100000

theorem tdiv_lim {P S : Int} (h0 : 0 ≤ P) (h1 : 0 < S) : 0 ≤ P.tdiv S ∧ P.tdiv S ≤ P := by
  rw [Int.tdiv_eq_ediv_of_nonneg h0]
  exact ⟨Int.ediv_nonneg h0 (Int.le_of_lt h1), Int.ediv_le_self _ h0⟩
set_option maxHeartbeats 3200000 in
theorem cr_Rate (cap k : Int) (L : List Int) (A : Option Addr) (n c : Nat) (hn : L.length = n) (w : World) (ha : Cl eI w A L) (h1 : n ≤ 9223372036854775807) :
    Calls Try.prog 16 #[.agg #[.int .i64 cap, .slice A n c], .int .i64 k] w fun e w' => e = .returned (.tuple #[.int .i64 (ratV cap L k), .int .i64 (ratE cap L k)]) ∧ Below w.heap.size w w' := by
  have HA := Lib.hid ha
  have HN := Lib.hid hn
  have KC := Lib.hid fun (W : World) (h : Cl eI W A L) => cr_Check cap L A n c hn.symm W h h1
  obtain ⟨E, hE⟩ : ∃ E, ckC cap L = E := ⟨_, rfl⟩
  rw [hE] at KC
  have HE := Lib.hid hE
  clear ha hn h1 hE
  go_enter Try.func16, Try.ntmps16
  go_upto_region 1 with fail
  obtain ⟨w1, hw1⟩ : ∃ W, w.alloc (.cells #[.int .i64 cap, .slice A n c] 24) = W := ⟨_, rfl⟩
  have C1 : Hid (Rw.Cel w1 w.heap.size [.int .i64 cap, .slice A n c]) := hw1 ▸ Rw.Cel.new w [_, _] _
  have B1 : Hid (Below w.heap.size w w1) := hw1 ▸ below_alloc _ _
  rw [hw1]
  clear hw1
  obtain ⟨x0, x1⟩ := C1.out.two
  go_wp2_with fail
  refine (KC.out _ (HA.out.on B1.out)).mono ?_
  rintro e w2 ⟨rfl, hb⟩
  have B2 := Lib.hid (bstep B1.out hb)
  have C2 := Lib.hid (C1.out.on hb)
  clear hb x0 x1 C1 B1
  obtain ⟨x0, x1⟩ := C2.out.two
  by_cases hz : E = 0
  rotate_left
  · obtain ⟨z1, z2⟩ := ne_zero hz
    have e1 : ratE cap L k = E := (ratE_ck (by rw [HE.out]; exact hz)).trans HE.out
    have HEE := Lib.hid (And.intro e1 (ratV_no (k := k) (by rw [e1]; exact hz)))
    clear hz e1
    go_wp2_with fail
    go_ret2
    exact ⟨by rw [HEE.out.1, HEE.out.2]; rfl, B2.out⟩
  subst hz
  have ok := ckC_ok HE.out
  by_cases hk : 0 ≤ k ∧ k < (L.length : Int)
  rotate_left
  · have e1 : ratE cap L k = 7 := ratE_no HE.out hk
    have HEE := Lib.hid (And.intro e1 (ratV_no (by rw [e1]; decide)))
    rcases Int.lt_or_le k 0 with h0 | h0
    · have d0 : decide (k < 0) = true := decide_eq_true h0
      clear h0 e1 ok hk
      go_wp2_with fail
      go_ret2
      exact ⟨by rw [HEE.out.1, HEE.out.2]; rfl, B2.out⟩
    · have d0 : decide (k < 0) = false := decide_eq_false (by omega)
      have d1 : decide ((n : Int) ≤ k) = true := decide_eq_true (by have := HN.out; omega)
      clear h0 e1 ok hk
      go_wp2_with fail
      go_ret2
      exact ⟨by rw [HEE.out.1, HEE.out.2]; rfl, B2.out⟩
  obtain ⟨j, rfl⟩ : ∃ j : Nat, k = j := ⟨k.toNat, by omega⟩
  have d0 : decide ((j : Int) < 0) = false := decide_eq_false (by omega)
  have hjn : j < n := by have := HN.out; omega
  have d1 : decide ((n : Int) ≤ (j : Int)) = false := decide_eq_false (by omega)
  have HK := Lib.hid hk
  have KZ := Lib.hid fun (W : World) (h : Cl eI W A L) => cr_sum L A n c HN.out.symm W h (by have := ok.len; have := HN.out; omega) ok.all
  have hpos := ok.pos
  obtain ⟨S, hS⟩ : ∃ S, sumZ L = S := ⟨_, rfl⟩
  have HSS := Lib.hid hS
  rw [hS] at KZ hpos
  have hall := ok.all
  clear ok hk hS
  go_wp2_with fail
  refine (KZ.out _ (HA.out.on B2.out)).mono ?_
  rintro e w3 ⟨rfl, hb⟩
  have B3 := Lib.hid (bstep B2.out hb)
  have C3 := Lib.hid (C2.out.on hb)
  clear hb x0 x1 C2 B2
  obtain ⟨x0, x1⟩ := C3.out.two
  by_cases hz : S = 0
  · subst hz
    have e1 : ratE cap L j = 10 := ratE_nil HE.out HK.out HSS.out
    have HEE := Lib.hid (And.intro e1 (ratV_no (by rw [e1]; decide)))
    clear hpos e1 hjn hall
    go_wp2_with fail
    go_ret2
    exact ⟨by rw [HEE.out.1, HEE.out.2]; rfl, B3.out⟩
  have dz : (S == 0) = false := beq_false_of_ne hz
  have e1 : ratE cap L j = 0 := ratE_ok HE.out HK.out (by rw [HSS.out]; exact hz)
  obtain ⟨z, hj⟩ := get_lt (L := L) (k := j) (by have := HN.out; omega)
  have e2 := ratV_ok e1 hj
  rw [HSS.out] at e2
  have hzl := hall z (List.mem_of_getElem? hj)
  have hM : MM = 1099511627776 := rfl
  have hl := tdiv_lim (P := 1000 * z) (S := S) (by omega) (by omega)
  obtain ⟨P, hP⟩ : ∃ P, 1000 * z = P := ⟨_, rfl⟩
  rw [hP] at hl e2
  have wP : IntKind.i64.wrap P = P := Rw.wrap_id (by omega)
  obtain ⟨Q, hQ⟩ : ∃ Q, P.tdiv S = Q := ⟨_, rfl⟩
  rw [hQ] at hl e2
  have wQ : IntKind.i64.wrap Q = Q := Rw.wrap_id (by omega)
  have HEE := Lib.hid (And.intro e1 e2)
  obtain ⟨b, off, rfl, hb, h0⟩ := cl_at (HA.out.on B3.out) hj
  have HX := Lib.hid fun (W : World) (h : Below w3.heap.size w3 W) => And.intro (C3.out.on h).two.2 ((h.cell (p := ⟨b, off + j, none⟩) hb).trans h0)
  have KY := Lib.hid fun (W : World) (h : Below w3.heap.size w3 W) => KZ.out W (HA.out.on (bstep B3.out h))
  have i1 : (j : Int) < (n : Int) := by omega
  have i2 : (0 : Int) ≤ (j : Int) := by omega
  clear hpos e1 e2 hjn hall hj hzl hl hM hb h0
  go_wp2_with fail
  clear x0 x1
  go_region_held3 (fun W => W.cell? ⟨w.heap.size, 1, none⟩ = some (.slice (some ⟨b, off, none⟩) n c) ∧ W.cell? ⟨b, off + j, none⟩ = some (.int .i64 z))
    (first | exact HX.out _ (Below.refl _ _) | exact HX.out _ (drew_below _) | exact HX.out _ HBL.out)
    ((go_at_call 32; (with_reducible refine (KY.out _ (drew_below _)).mono ?_); rintro e wa ⟨rfl, hba⟩; (have HBL : Hid (Below w3.heap.size w3 wa) := Lib.hid (bstep (drew_below _) hba)); clear hba))
  all_goals
    go_wp2_with fail
    go_ret2
    exact ⟨by rw [HEE.out.1, HEE.out.2]; rfl, bstep B3.out HBL.out⟩
end Go.Proofs.Ytagjimdplmimoaa.Chest
/- The program: New, Rate. -/
namespace Go.Proofs.Ytagjimdplmimoaa.Chest
open Go.ChangeShapes Go.WideShapes Go.RowKit Go.Lib
open Go.Proofs.Ytagjimdplmimoaa.Mem (Cl eI Own make_ints)
open Go.Proofs.Ytagjimdplmimoaa.Share (errS partsL partsL_len splL ResL split_n own_cl one_made lst_zero)
open Go.Proofs.Ytagjimdplmimoaa.Tank (MM cl_at q_Parts lisE_of)
open Go.Proofs.Ytagjimdplmimoaa.Rw (glt get_lt ret_bool ret_int bstep below_drewN below_drew drew_below below_alloc)
set_option linter.unusedVariables false
set_option maxRecDepth 100000

theorem nw_two {kinds cap : Int} (hk : 1 ≤ kinds ∧ kinds ≤ 8) : ckC cap (List.replicate kinds.toNat 0) = nwE kinds cap := by
  rw [ckC_new (by omega) (by omega)]
  unfold nwE
  rw [if_pos hk]
set_option maxHeartbeats 1600000 in
theorem ch_New (kinds cap : Int) (w : World) : Calls Try.prog 9 #[.int .i64 kinds, .int .i64 cap] w (CRes w (nwE kinds cap) (nwC kinds cap) (nwL kinds cap)) := by
  by_cases hk : 1 ≤ kinds ∧ kinds ≤ 8
  rotate_left
  · have he : nwE kinds cap = 17 := if_neg hk
    obtain ⟨e1, e2⟩ := nw_no (kinds := kinds) (cap := cap) (by rw [he]; decide)
    rw [he, e1, e2]
    clear he e1 e2
    rcases Int.lt_or_le kinds 1 with h0 | h0
    · have d0 : decide (kinds < 1) = true := decide_eq_true h0
      clear hk h0
      go_enter Try.func9, Try.ntmps9
      go_wp2_with fail
      exact bodyPost_ret (res_chest2 Try.results9 rfl (Rw.Cel.new w [.int .i64 0, .slice none 0 0] 24)) rfl (CRes.none_ (below_alloc _ _))
    · have d0 : decide (kinds < 1) = false := decide_eq_false (by omega)
      have d1 : decide (8 < kinds) = true := decide_eq_true (by omega)
      clear hk h0
      go_enter Try.func9, Try.ntmps9
      go_wp2_with fail
      exact bodyPost_ret (res_chest2 Try.results9 rfl (Rw.Cel.new w [.int .i64 0, .slice none 0 0] 24)) rfl (CRes.none_ (below_alloc _ _))
  have d0 : decide (kinds < 1) = false := decide_eq_false (by omega)
  have d1 : decide (8 < kinds) = false := decide_eq_false (by omega)
  obtain ⟨n, rfl⟩ : ∃ n : Nat, kinds = n := ⟨kinds.toNat, by omega⟩
  have h2 := nw_two (cap := cap) hk
  have h3 : nwE (n : Int) cap = 0 → nwC n cap = cap ∧ nwL n cap = List.replicate n 0 := fun h => by
    have := nw_ok h
    rw [Int.toNat_natCast] at this; exact this
  rw [Int.toNat_natCast] at h2
  have HK := Lib.hid fun (W : World) (g : Nat) (h : Cl eI W (some ⟨g, 0, none⟩) (List.replicate n 0)) => ch_Check cap (List.replicate n 0) (some ⟨g, 0, none⟩) n n List.length_replicate.symm W h (by omega)
  obtain ⟨E, hE⟩ : ∃ E, nwE (n : Int) cap = E := ⟨_, rfl⟩
  rw [h2, hE] at HK
  rw [hE] at h3
  have HE := Lib.hid (And.intro hE h3)
  have hmk := fun W => make_ints n (by omega) W
  obtain ⟨w0, hw0⟩ : ∃ W, w.alloc (.cells #[.int .i64 0, .slice none 0 0] 24) = W := ⟨_, rfl⟩
  have C0 : Hid (Rw.Cel w0 w.heap.size [.int .i64 0, .slice none 0 0]) := hw0 ▸ Rw.Cel.new w [_, _] _
  have B0 : Hid (Below w.heap.size w w0) := hw0 ▸ below_alloc _ _
  have HO := Lib.hid (one_made w0 n (by omega))
  rw [← lst_zero] at HO
  have HG := Lib.hid C0.out.lt
  clear hk h2 h3 hE
  go_enter Try.func9, Try.ntmps9
  go_upto_region 1 with fail
  clear hw0
  go_upto_region 4 with fail
  obtain ⟨w2, hw2⟩ : ∃ W, (w0.alloc (.cells (madeCells #[.int .i64 0] n) 3)).alloc (.cells #[.int .i64 cap, .slice (some ⟨w0.heap.size, 0, none⟩) n n] 24) = W := ⟨_, rfl⟩
  have C2 : Hid (Rw.Cel w2 w.heap.size [.int .i64 0, .slice none 0 0]) := hw2 ▸ (C0.out.alloc _).alloc _
  have D2 : Hid (Rw.Cel w2 (w0.heap.size + 1) [.int .i64 cap, .slice (some ⟨w0.heap.size, 0, none⟩) n n]) := Lib.hid (by rw [← hw2]; exact Rw.Cel.new_at _ [_, _] _ (by simp))
  have B2 : Hid (Below w.heap.size w w2) := Lib.hid (bstep B0.out (bstep (below_alloc _ _) (hw2 ▸ below_alloc _ _)))
  have HO2 : Hid (Own eI 3 w0.heap.size w2 (.slice (some ⟨w0.heap.size, 0, none⟩) n n) (List.replicate n 0)) := Lib.hid (hw2 ▸ HO.out.alloc _)
  rw [hw2]
  clear hw2 hmk HO C0
  obtain ⟨x0, x1⟩ := D2.out.two
  go_wp2_with fail
  refine (HK.out _ _ (own_cl HO2.out)).mono ?_
  rintro e w3 ⟨rfl, hb⟩
  have C3 := Lib.hid (C2.out.on hb)
  have D3 := Lib.hid (D2.out.on hb)
  have B3 := Lib.hid (bstep B2.out hb)
  have HO3 := Lib.hid (HO2.out.on hb)
  clear hb x0 x1 C2 D2 B2 HO2
  by_cases hz : E = 0
  rotate_left
  · obtain ⟨z1, z2⟩ := ne_zero hz
    have HEE := Lib.hid (nw_no (kinds := n) (cap := cap) (by rw [HE.out.1]; exact hz))
    clear hz
    obtain ⟨u0, u1⟩ := C3.out.two
    obtain ⟨v0, v1⟩ := C3.out.warm2
    go_wp2_with fail
    exact bodyPost_ret (res_chest2 Try.results9 rfl (C3.out.put2 _ _)) rfl (by rw [HE.out.1, HEE.out.1, HEE.out.2]; exact CRes.none_ (Rw.below_put2 B3.out (Nat.le_refl _) _ _))
  subst hz
  have HEE := Lib.hid (HE.out.2 rfl)
  obtain ⟨x0, x1⟩ := D3.out.two
  obtain ⟨u0, u1⟩ := C3.out.two
  obtain ⟨v0, v1⟩ := C3.out.warm2
  go_wp2_with fail
  refine bodyPost_ret (res_chest2 Try.results9 rfl (C3.out.put2 _ _)) rfl (by
    rw [HE.out.1, HEE.out.1, HEE.out.2]
    refine ⟨_, _, _, rfl, List.length_replicate, ?_, Rw.below_put2 B3.out (Nat.le_refl _) _ _⟩
    exact own_far2 (HO3.out.less (Nat.le_of_lt HG.out)) (by have := HG.out; simp [Value.ownBlock]; omega) _ _)

set_option maxHeartbeats 3200000 in
theorem ch_Rate (cap k : Int) (L : List Int) (A : Option Addr) (n c : Nat) (hn : L.length = n) (w : World) (ha : Cl eI w A L) (h1 : n ≤ 9223372036854775807) :
    Calls Try.prog 15 #[.agg #[.int .i64 cap, .slice A n c], .int .i64 k] w fun e w' => e = .returned (.tuple #[.int .i64 (ratV cap L k), .int .i64 (ratE cap L k)]) ∧ Below w.heap.size w w' := by
  have HA := Lib.hid ha
  have HN := Lib.hid hn
  have KC := Lib.hid fun (W : World) (h : Cl eI W A L) => ch_Level cap L A n c hn.symm W h h1
  obtain ⟨E, hE⟩ : ∃ E, ckC cap L = E := ⟨_, rfl⟩
  obtain ⟨Y, hY⟩ : ∃ Y, levV cap L = Y := ⟨_, rfl⟩
  rw [hE, hY] at KC
  have HE := Lib.hid hE
  have HY := Lib.hid hY
  clear ha hn h1 hE hY
  go_enter Try.func15, Try.ntmps15
  go_upto_region 1 with fail
  obtain ⟨w1, hw1⟩ : ∃ W, w.alloc (.cells #[.int .i64 cap, .slice A n c] 24) = W := ⟨_, rfl⟩
  have C1 : Hid (Rw.Cel w1 w.heap.size [.int .i64 cap, .slice A n c]) := hw1 ▸ Rw.Cel.new w [_, _] _
  have B1 : Hid (Below w.heap.size w w1) := hw1 ▸ below_alloc _ _
  rw [hw1]
  clear hw1
  obtain ⟨x0, x1⟩ := C1.out.two
  go_wp2_with fail
  refine (KC.out _ (HA.out.on B1.out)).mono ?_
  rintro e w2 ⟨rfl, hb⟩
  have B2 := Lib.hid (bstep B1.out hb)
  have C2 := Lib.hid (C1.out.on hb)
  clear hb x0 x1 C1 B1
  obtain ⟨x0, x1⟩ := C2.out.two
  by_cases hz : E = 0
  rotate_left
  · obtain ⟨z1, z2⟩ := ne_zero hz
    have e1 : ratE cap L k = E := (ratE_ck (by rw [HE.out]; exact hz)).trans HE.out
    have HEE := Lib.hid (And.intro e1 (ratV_no (k := k) (by rw [e1]; exact hz)))
    clear hz e1
    go_wp2_with fail
    go_ret2
    exact ⟨by rw [HEE.out.1, HEE.out.2]; rfl, B2.out⟩
  subst hz
  have ok := ckC_ok HE.out
  by_cases hk : 0 ≤ k ∧ k < (L.length : Int)
  rotate_left
  · have e1 : ratE cap L k = 7 := ratE_no HE.out hk
    have HEE := Lib.hid (And.intro e1 (ratV_no (by rw [e1]; decide)))
    rcases Int.lt_or_le k 0 with h0 | h0
    · have d0 : decide (k < 0) = true := decide_eq_true h0
      clear h0 e1 ok hk
      go_wp2_with fail
      go_ret2
      exact ⟨by rw [HEE.out.1, HEE.out.2]; rfl, B2.out⟩
    · have d0 : decide (k < 0) = false := decide_eq_false (by omega)
      have d1 : decide ((n : Int) ≤ k) = true := decide_eq_true (by have := HN.out; omega)
      clear h0 e1 ok hk
      go_wp2_with fail
      go_ret2
      exact ⟨by rw [HEE.out.1, HEE.out.2]; rfl, B2.out⟩
  obtain ⟨j, rfl⟩ : ∃ j : Nat, k = j := ⟨k.toNat, by omega⟩
  have d0 : decide ((j : Int) < 0) = false := decide_eq_false (by omega)
  have hjn : j < n := by have := HN.out; omega
  have d1 : decide ((n : Int) ≤ (j : Int)) = false := decide_eq_false (by omega)
  have hpos := ok.pos
  have hy := HY.out
  rw [levV_ok HE.out] at hy
  rw [hy] at hpos
  have hall := ok.all
  by_cases hz : Y = 0
  · have e1 : ratE cap L j = 10 := ratE_nil HE.out hk (by rw [hy]; exact hz)
    subst hz
    have HEE := Lib.hid (And.intro e1 (ratV_no (by rw [e1]; decide)))
    clear hpos e1 hall hy hk ok
    go_wp2_with fail
    go_ret2
    exact ⟨by rw [HEE.out.1, HEE.out.2]; rfl, B2.out⟩
  have dz : (Y == 0) = false := beq_false_of_ne hz
  have e1 : ratE cap L j = 0 := ratE_ok HE.out hk (by rw [hy]; exact hz)
  obtain ⟨z, hj⟩ := get_lt (L := L) (k := j) (by have := HN.out; omega)
  have e2 := ratV_ok e1 hj
  rw [hy] at e2
  have hzl := hall z (List.mem_of_getElem? hj)
  have hM : MM = 1099511627776 := rfl
  have hl := tdiv_lim (P := 1000 * z) (S := Y) (by omega) (by omega)
  obtain ⟨P, hP⟩ : ∃ P, 1000 * z = P := ⟨_, rfl⟩
  rw [hP] at hl e2
  have wP : IntKind.i64.wrap P = P := Rw.wrap_id (by omega)
  have p0 : 0 ≤ P := by omega
  have y0 : 0 ≤ Y := by omega
  obtain ⟨Q, hQ⟩ : ∃ Q, P.tdiv Y = Q := ⟨_, rfl⟩
  have hQ2 : P / Y = Q := by rw [← hQ, Int.tdiv_eq_ediv_of_nonneg p0]
  rw [hQ] at hl e2
  have wQ : IntKind.i64.wrap Q = Q := Rw.wrap_id (by omega)
  have HEE := Lib.hid (And.intro e1 e2)
  obtain ⟨b, off, rfl, hb, h0⟩ := cl_at (HA.out.on B2.out) hj
  have i1 : (j : Int) < (n : Int) := by omega
  have i2 : (0 : Int) ≤ (j : Int) := by omega
  clear hpos e1 e2 hall hj hzl hl hM hb hk ok hy p0 y0
  go_wp2_with fail
  go_ret2
  exact ⟨by rw [HEE.out.1, HEE.out.2]; rfl, B2.out⟩
end Go.Proofs.Ytagjimdplmimoaa.Chest
/- The program: Fill. -/
namespace Go.Proofs.Ytagjimdplmimoaa.Chest
open Go.ChangeShapes Go.WideShapes Go.RowKit Go.Lib
open Go.Proofs.Ytagjimdplmimoaa.Mem (Cl eI Own make_ints)
open Go.Proofs.Ytagjimdplmimoaa.Share (errS partsL partsL_len splL ResL split_n own_cl one_made lst_zero)
open Go.Proofs.Ytagjimdplmimoaa.Tank (MM cl_at q_Parts lisE_of)
open Go.Proofs.Ytagjimdplmimoaa.Rw (glt get_lt ret_bool ret_int bstep below_drewN below_drew drew_below below_alloc)
set_option linter.unusedVariables false
set_option maxRecDepth 100000

set_option maxHeartbeats 3200000 in
theorem ch_Fill (cap : Int) (L m : List Int) (A M : Option Addr) (n c n' c' : Nat) (hn : L.length = n) (hn' : m.length = n') (w : World) (ha : Cl eI w A L) (hb : Cl eI w M m) (h1 : n ≤ 9223372036854775807) (h2 : n' ≤ 9223372036854775807) :
    Calls Try.prog 19 #[.agg #[.int .i64 cap, .slice A n c], .slice M n' c'] w (CRes w (filE cap L m) (filC cap L m) (filL cap L m)) := by
  have HA := Lib.hid ha
  have HB := Lib.hid hb
  have HN := Lib.hid (And.intro hn hn')
  have KC := Lib.hid fun (W : World) (h : Cl eI W A L) => ch_Level cap L A n c hn.symm W h h1
  have KP := Lib.hid fun (W : World) (h : Cl eI W M m) => q_Parts m M n' c' hn'.symm n W h h2
  have KT := Lib.hid fun (W : World) (h : Cl eI W M m) => q_Total m M n' c' hn'.symm W h h2
  obtain ⟨E, hE⟩ : ∃ E, ckC cap L = E := ⟨_, rfl⟩
  obtain ⟨F, hF⟩ : ∃ F, Tank.parE m (L.length : Int) = F := ⟨_, rfl⟩
  obtain ⟨Y, hY⟩ : ∃ Y, levV cap L = Y := ⟨_, rfl⟩
  have hF2 : Tank.parE m (n : Int) = F := by rw [← hn]; exact hF
  rw [hE, hY] at KC
  rw [hF2] at KP
  have HE := Lib.hid (And.intro hE hF)
  have HY := Lib.hid hY
  clear ha hb hn hn' h1 h2 hE hF hF2 hY
  go_enter Try.func19, Try.ntmps19
  go_upto_region 1 with fail
  obtain ⟨w0, hw0⟩ : ∃ W, w.alloc (.cells #[.int .i64 cap, .slice A n c] 24) = W := ⟨_, rfl⟩
  have C0 : Hid (Rw.Cel w0 w.heap.size [.int .i64 cap, .slice A n c]) := hw0 ▸ Rw.Cel.new w [_, _] _
  have B0 : Hid (Below w.heap.size w w0) := hw0 ▸ below_alloc _ _
  have S0 : Hid (w0.heap.size = w.heap.size + 1) := Lib.hid (by rw [← hw0]; simp)
  rw [hw0]
  clear hw0
  obtain ⟨w1, hw1⟩ : ∃ W, w0.alloc (.cells #[.int .i64 0, .slice none 0 0] 24) = W := ⟨_, rfl⟩
  have D1 : Hid (Rw.Cel w1 (w.heap.size + 1) [.int .i64 0, .slice none 0 0]) := by
    refine Lib.hid ?_
    rw [← hw1, ← S0.out]; exact Rw.Cel.new w0 [_, _] _
  have C1 : Hid (Rw.Cel w1 w.heap.size [.int .i64 cap, .slice A n c]) := hw1 ▸ C0.out.alloc _
  have B1 : Hid (Below w.heap.size w w1) := Lib.hid (bstep B0.out (hw1 ▸ below_alloc _ _))
  have S1 : Hid (w1.heap.size = w.heap.size + 2) := Lib.hid (by rw [← hw1]; simp [S0.out])
  rw [hw1]
  clear hw1 C0 B0 S0
  obtain ⟨x0, x1⟩ := C1.out.two
  go_wp2_with fail
  refine (KC.out _ (HA.out.on B1.out)).mono ?_
  rintro e w2 ⟨rfl, hb⟩
  have B2 := Lib.hid (bstep B1.out hb)
  have C2 := Lib.hid (C1.out.on hb)
  have D2 := Lib.hid (D1.out.on hb)
  have S2 : Hid (w.heap.size + 2 ≤ w2.heap.size) := Lib.hid (by have := hb.size; have := S1.out; omega)
  clear hb x0 x1 C1 D1 B1 S1
  obtain ⟨x0, x1⟩ := C2.out.two
  by_cases hz : E = 0
  rotate_left
  · obtain ⟨z1, z2⟩ := ne_zero hz
    have e1 : filE cap L m = E := (filE_ck (by rw [HE.out.1]; exact hz)).trans HE.out.1
    obtain ⟨e2, e3⟩ := fil_no (by rw [e1]; exact hz)
    have HEE := Lib.hid (And.intro e1 (And.intro e2 e3))
    clear hz e1 e2 e3
    obtain ⟨u0, u1⟩ := D2.out.two
    obtain ⟨v0, v1⟩ := D2.out.warm2
    go_wp2_with fail
    exact bodyPost_ret (res_chest2 Try.results19 rfl (D2.out.put2 _ _)) rfl (by rw [HEE.out.1, HEE.out.2.1, HEE.out.2.2]; exact CRes.none_ (Rw.below_put2 B2.out (Nat.le_succ _) _ _))
  subst hz
  go_wp2_with fail
  refine (KP.out _ (HB.out.on B2.out)).mono ?_
  rintro e w3 ⟨rfl, hb⟩
  have B3 := Lib.hid (bstep B2.out hb)
  have C3 := Lib.hid (C2.out.on hb)
  have D3 := Lib.hid (D2.out.on hb)
  have S3 : Hid (w.heap.size + 2 ≤ w3.heap.size) := Lib.hid (by have := hb.size; have := S2.out; omega)
  clear hb x0 x1 C2 D2 B2 S2
  obtain ⟨x0, x1⟩ := C3.out.two
  by_cases hz : F = 0
  rotate_left
  · obtain ⟨z1, z2⟩ := ne_zero hz
    have e1 : filE cap L m = F := (filE_par HE.out.1 (by rw [HE.out.2]; exact hz)).trans HE.out.2
    obtain ⟨e2, e3⟩ := fil_no (by rw [e1]; exact hz)
    have HEE := Lib.hid (And.intro e1 (And.intro e2 e3))
    clear hz e1 e2 e3
    obtain ⟨u0, u1⟩ := D3.out.two
    obtain ⟨v0, v1⟩ := D3.out.warm2
    go_wp2_with fail
    exact bodyPost_ret (res_chest2 Try.results19 rfl (D3.out.put2 _ _)) rfl (by rw [HEE.out.1, HEE.out.2.1, HEE.out.2.2]; exact CRes.none_ (Rw.below_put2 B3.out (Nat.le_succ _) _ _))
  subst hz
  have ok := ckC_ok HE.out.1
  obtain ⟨m1, m2, m3, m4⟩ := lisE_of HE.out.2
  have hnn : n' = n := by have := HN.out; omega
  have ht : Tank.parE m (m.length : Int) = 0 := by rw [m3]; exact HE.out.2
  have KQ := Lib.hid fun (W : World) (h : Below w3.heap.size w3 W) => ch_changed cap 1 L m A M n c n' c' HN.out.1 (HN.out.2.trans hnn) hnn (by have := ok.len; have := HN.out; omega) (Or.inl rfl) ok.all m4 W (HA.out.on (bstep B3.out h)) (HB.out.on (bstep B3.out h))
  rw [chg_one] at KQ
  have he := filE_end HE.out.1 HE.out.2
  have l1 := sumZ_lim ok.all ok.len.2
  have l2 := sumZ_lim m4 m2
  obtain ⟨T, hT⟩ : ∃ T, sumZ m = T := ⟨_, rfl⟩
  rw [toV_ok ht, ht, hT] at KT
  have hy := HY.out
  rw [levV_ok HE.out.1] at hy
  rw [hT] at he l2
  rw [hy] at he l1
  obtain ⟨V, hV⟩ : ∃ V, Y + T = V := ⟨_, rfl⟩
  rw [hV] at he
  have sV : Y + T = V := hV
  have wV : IntKind.i64.wrap V = V := Rw.wrap_id (by omega)
  have HQ0 := Lib.hid he
  clear ok m1 m2 m3 m4 hnn hT hV hy l1 l2 HE KC KP ht HY he
  go_wp2_with fail
  refine (KT.out _ (HB.out.on B3.out)).mono ?_
  rintro e w4 ⟨rfl, hb⟩
  have B4 := Lib.hid (bstep B3.out hb)
  have C4 := Lib.hid (C3.out.on hb)
  have D4 := Lib.hid (D3.out.on hb)
  have S4 : Hid (w.heap.size + 2 ≤ w4.heap.size) := Lib.hid (by have := hb.size; have := S3.out; omega)
  have KQ4 := Lib.hid (KQ.out _ hb)
  clear hb x0 x1 C3 D3 B3 S3 KQ
  obtain ⟨x0, x1⟩ := C4.out.two
  rcases Int.lt_or_le cap V with hg | hg
  · have t0 : decide (cap < V) = true := decide_eq_true hg
    have e1 : filE cap L m = 8 := HQ0.out.trans (if_pos hg)
    obtain ⟨e2, e3⟩ := fil_no (by rw [e1]; decide)
    have HEE := Lib.hid (And.intro e1 (And.intro e2 e3))
    clear hg e1 e2 e3
    obtain ⟨u0, u1⟩ := D4.out.two
    obtain ⟨v0, v1⟩ := D4.out.warm2
    go_wp2_with fail
    exact bodyPost_ret (res_chest2 Try.results19 rfl (D4.out.put2 _ _)) rfl (by rw [HEE.out.1, HEE.out.2.1, HEE.out.2.2]; exact CRes.none_ (Rw.below_put2 B4.out (Nat.le_succ _) _ _))
  · have t0 : decide (cap < V) = false := decide_eq_false (by omega)
    have e1 : filE cap L m = 0 := HQ0.out.trans (if_neg (by omega))
    have e2 : filC cap L m = cap := if_pos e1
    have e3 : filL cap L m = plusL L m := if_pos e1
    have HEE := Lib.hid (And.intro e1 (And.intro e2 e3))
    clear hg e1 e2 e3
    go_wp2_with fail
    refine KQ4.out.mono ?_
    rintro e w5 ⟨A5, n5, c5, rfl, hl5, ho5, hb⟩
    have B5 := Lib.hid (bstep B4.out hb)
    have D5 := Lib.hid (D4.out.on hb)
    have HO := Lib.hid (ho5.less S4.out)
    have HL5 := Lib.hid hl5
    clear hb hl5 ho5 x0 x1
    obtain ⟨u0, u1⟩ := D5.out.two
    obtain ⟨v0, v1⟩ := D5.out.warm2
    go_wp2_with fail
    exact bodyPost_ret (res_chest2 Try.results19 rfl (D5.out.put2 _ _)) rfl (by
      rw [HEE.out.1, HEE.out.2.1, HEE.out.2.2]
      exact ⟨_, _, _, rfl, HL5.out, own_far2 (HO.out.less (by omega)) (fun e => by have h1 := (HO.out.lt _ e).1; omega) _ _, Rw.below_put2 B5.out (Nat.le_succ _) _ _⟩)
end Go.Proofs.Ytagjimdplmimoaa.Chest
/- Draws: errors, values, what the parts keep (P18.5, P18.8, P18.10). -/
namespace Go.Proofs.Ytagjimdplmimoaa.Chest
open Go.Lib
open Go.Proofs.Ytagjimdplmimoaa.Share (sumK sumK_zero sumK_succ partsL partsL_at partsL_len part_near part_sum quo quo_rst rst wf wf_at errS mx)
open Go.Proofs.Ytagjimdplmimoaa.Tank (MM)
open Go.Proofs.Ytagjimdplmimoaa.Rw (glt get_lt)
set_option linter.unusedVariables false

theorem dr_ok {cap t : Int} {L : List Int} (h : COk cap L) (h0 : 0 ≤ t) (h1 : t ≤ sumZ L) : Share.Ok t L := by
  have hM : MM = 1099511627776 := rfl
  have hm : mx = 1125899906842624 := rfl
  have hp := h.pos
  exact ⟨h0, by omega, by have := h.len; omega, by have := h.len; omega, fun z hz => by have := h.all z hz; omega, by unfold sumZ at hp; omega, fun hz => by unfold sumZ at h1; omega⟩
theorem sumK_parts (t : Int) (r : List Int) : ∀ k, k ≤ r.length → sumK (partsL t r) k = (Share.sm (Share.part t.toNat (wf r) r.length) k : Int)
  | 0, _ => rfl
  | k + 1, h => by rw [sumK_succ (partsL_at t (by omega)), sumK_parts t r k (by omega), Share.sm]; simp
theorem dr_sum {t : Int} {L : List Int} (h : Share.Ok t L) : sumZ (partsL t L) = t := by
  unfold sumZ
  rw [partsL_len, sumK_parts t L _ (Nat.le_refl _)]
  exact h.parts
theorem part_small {T n : Nat} {w : Nat → Nat} (hT : T ≤ Share.tw w n) (i : Nat) : Share.part T w n i ≤ w i := by
  rcases Nat.eq_zero_or_pos (Share.tw w n) with h0 | h0
  · unfold Share.part; rw [if_pos h0]; exact Nat.zero_le _
  · have h1 := quo_rst (T := T) (w := w) (n := n) i
    have h2 := (part_near (T := T) (w := w) (n := n) h0 i).2
    have h3 : T * w i ≤ Share.tw w n * w i := Nat.mul_le_mul_right _ hT
    by_cases hr : rst T w n i = 0
    · rw [if_pos hr] at h2
      have h4 : Share.tw w n * quo T w n i ≤ Share.tw w n * w i := by omega
      have := Nat.le_of_mul_le_mul_left h4 h0
      omega
    · rw [if_neg hr] at h2
      have h4 : Share.tw w n * quo T w n i < Share.tw w n * w i := by omega
      have := Nat.lt_of_mul_lt_mul_left h4
      omega
theorem dr_part {t : Int} {L : List Int} (h : Share.Ok t L) (ht : t ≤ sumZ L) {k : Nat} {x y : Int} (hx : (partsL t L)[k]? = some x) (hy : L[k]? = some y) : 0 ≤ x ∧ x ≤ y := by
  have hk : k < L.length := glt hy
  rw [partsL_at t hk] at hx
  have hx' := Option.some.inj hx
  have h1 := h.twI
  have h0 := h.t0
  have h2 := part_small (T := t.toNat) (w := wf L) (n := L.length) (by unfold sumZ at ht; omega) k
  have h3 := wf_at hy (h.all y (List.mem_of_getElem? hy)).1
  omega
/-- Draw. -/
def drE (cap : Int) (L : List Int) (t : Int) : Int :=
  if ckC cap L = 0 then if 0 ≤ t ∧ t ≤ MM then if sumZ L < t then 19 else 0 else 1 else ckC cap L
def drC (cap : Int) (L : List Int) (t : Int) : Int := if drE cap L t = 0 then cap else 0
def drL (cap : Int) (L : List Int) (t : Int) : List Int := if drE cap L t = 0 then lessL L (partsL t L) else []
def drM (cap : Int) (L : List Int) (t : Int) : List Int := if drE cap L t = 0 then partsL t L else []
theorem dr_no {cap t : Int} {L : List Int} (h : ¬ drE cap L t = 0) : drC cap L t = 0 ∧ drL cap L t = [] ∧ drM cap L t = [] := ⟨if_neg h, if_neg h, if_neg h⟩
theorem dr_yes {cap t : Int} {L : List Int} (h : drE cap L t = 0) : drC cap L t = cap ∧ drL cap L t = lessL L (partsL t L) ∧ drM cap L t = partsL t L := ⟨if_pos h, if_pos h, if_pos h⟩
theorem drE_ck {cap t : Int} {L : List Int} (h : ¬ ckC cap L = 0) : drE cap L t = ckC cap L := if_neg h
theorem drE_out {cap t : Int} {L : List Int} (h : ckC cap L = 0) (h2 : ¬ (0 ≤ t ∧ t ≤ MM)) : drE cap L t = 1 := by unfold drE; rw [if_pos h, if_neg h2]
theorem drE_more {cap t : Int} {L : List Int} (h : ckC cap L = 0) (h2 : 0 ≤ t ∧ t ≤ MM) (h3 : sumZ L < t) : drE cap L t = 19 := by unfold drE; rw [if_pos h, if_pos h2, if_pos h3]
theorem drE_ok {cap t : Int} {L : List Int} (h : ckC cap L = 0) (h2 : 0 ≤ t ∧ t ≤ MM) (h3 : ¬ sumZ L < t) : drE cap L t = 0 := by unfold drE; rw [if_pos h, if_pos h2, if_neg h3]
theorem drE_of {cap t : Int} {L : List Int} (h : drE cap L t = 0) : COk cap L ∧ 0 ≤ t ∧ t ≤ sumZ L := by
  by_cases h1 : ckC cap L = 0
  rotate_left
  · rw [drE_ck h1] at h; exact absurd h h1
  by_cases h2 : 0 ≤ t ∧ t ≤ MM
  rotate_left
  · rw [drE_out h1 h2] at h; cases h
  by_cases h3 : sumZ L < t
  · rw [drE_more h1 h2 h3] at h; cases h
  exact ⟨ckC_ok h1, h2.1, by omega⟩
end Go.Proofs.Ytagjimdplmimoaa.Chest
/- The program: Draw. -/
namespace Go.Proofs.Ytagjimdplmimoaa.Chest
open Go.ChangeShapes Go.WideShapes Go.RowKit Go.Lib
open Go.Proofs.Ytagjimdplmimoaa.Mem (Cl eI Own make_ints)
open Go.Proofs.Ytagjimdplmimoaa.Share (errS partsL partsL_len splL ResL split_n own_cl one_made lst_zero)
open Go.Proofs.Ytagjimdplmimoaa.Tank (MM cl_at q_Parts lisE_of)
open Go.Proofs.Ytagjimdplmimoaa.Rw (glt get_lt ret_bool ret_int bstep below_drewN below_drew drew_below below_alloc)
set_option linter.unusedVariables false
set_option maxRecDepth 100000

/-- A chest and a list of the call's own, and an error. -/
def DRs (w : World) (err cap : Int) (L m : List Int) (e : Ending) (w' : World) : Prop :=
  ∃ A n c A' n' c', e = .returned (.tuple #[.agg #[.int .i64 cap, .slice A n c], .slice A' n' c', .int .i64 err]) ∧ L.length = n ∧ m.length = n' ∧
    Own eI 3 w.heap.size w' (.slice A n c) L ∧ Own eI 3 w.heap.size w' (.slice A' n' c') m ∧ Below w.heap.size w w'
theorem DRs.none_ {w w' : World} {err : Int} (hb : Below w.heap.size w w') : DRs w err 0 [] [] (.returned (.tuple #[.agg #[.int .i64 0, .slice none 0 0], .slice none 0 0, .int .i64 err])) w' :=
  ⟨_, _, _, _, _, _, rfl, rfl, rfl, Own.nil _ _ _ _, Own.nil _ _ _ _, hb⟩
theorem parts_lim {cap t : Int} {L : List Int} (ok : COk cap L) (t0 : 0 ≤ t) (tle : t ≤ sumZ L) : ∀ z ∈ partsL t L, 0 ≤ z ∧ z ≤ MM := fun z hz => by
  have sok := dr_ok ok t0 tle
  obtain ⟨k, hk⟩ := List.mem_iff_getElem?.mp hz
  obtain ⟨y, hy⟩ := get_lt (L := L) (k := k) (by have := glt hk; rw [partsL_len] at this; exact this)
  have h1 := dr_part sok tle hk hy
  have h2 := ok.all y (List.mem_of_getElem? hy)
  omega
set_option maxHeartbeats 3200000 in
theorem ch_Draw (cap t : Int) (L : List Int) (A : Option Addr) (n c : Nat) (hn : L.length = n) (w : World) (ha : Cl eI w A L) (h1 : n ≤ 9223372036854775807) :
    Calls Try.prog 21 #[.agg #[.int .i64 cap, .slice A n c], .int .i64 t] w (DRs w (drE cap L t) (drC cap L t) (drL cap L t) (drM cap L t)) := by
  have HA := Lib.hid ha
  have HN := Lib.hid hn
  have KC := Lib.hid fun (W : World) (h : Cl eI W A L) => ch_Level cap L A n c hn.symm W h h1
  have KS := Lib.hid fun (W : World) (h : Cl eI W A L) => split_n t L n hn A c W h h1
  obtain ⟨E, hE⟩ : ∃ E, ckC cap L = E := ⟨_, rfl⟩
  obtain ⟨Y, hY⟩ : ∃ Y, levV cap L = Y := ⟨_, rfl⟩
  rw [hE, hY] at KC
  have HE := Lib.hid hE
  have HY := Lib.hid hY
  clear ha hn h1 hE hY
  go_enter Try.func21, Try.ntmps21
  go_upto_region 1 with fail
  obtain ⟨w0, hw0⟩ : ∃ W, w.alloc (.cells #[.int .i64 cap, .slice A n c] 24) = W := ⟨_, rfl⟩
  have C0 : Hid (Rw.Cel w0 w.heap.size [.int .i64 cap, .slice A n c]) := hw0 ▸ Rw.Cel.new w [_, _] _
  have B0 : Hid (Below w.heap.size w w0) := hw0 ▸ below_alloc _ _
  have S0 : Hid (w0.heap.size = w.heap.size + 1) := Lib.hid (by rw [← hw0]; simp)
  rw [hw0]
  clear hw0
  obtain ⟨w1, hw1⟩ : ∃ W, w0.alloc (.cells #[.int .i64 0, .slice none 0 0] 24) = W := ⟨_, rfl⟩
  have D1 : Hid (Rw.Cel w1 (w.heap.size + 1) [.int .i64 0, .slice none 0 0]) := by
    refine Lib.hid ?_
    rw [← hw1, ← S0.out]; exact Rw.Cel.new w0 [_, _] _
  have C1 : Hid (Rw.Cel w1 w.heap.size [.int .i64 cap, .slice A n c]) := hw1 ▸ C0.out.alloc _
  have B1 : Hid (Below w.heap.size w w1) := Lib.hid (bstep B0.out (hw1 ▸ below_alloc _ _))
  have S1 : Hid (w1.heap.size = w.heap.size + 2) := Lib.hid (by rw [← hw1]; simp [S0.out])
  rw [hw1]
  clear hw1 C0 B0 S0
  obtain ⟨x0, x1⟩ := C1.out.two
  go_wp2_with fail
  refine (KC.out _ (HA.out.on B1.out)).mono ?_
  rintro e w2 ⟨rfl, hb⟩
  have B2 := Lib.hid (bstep B1.out hb)
  have C2 := Lib.hid (C1.out.on hb)
  have D2 := Lib.hid (D1.out.on hb)
  have S2 : Hid (w.heap.size + 2 ≤ w2.heap.size) := Lib.hid (by have := hb.size; have := S1.out; omega)
  clear hb x0 x1 C1 D1 B1 S1
  obtain ⟨x0, x1⟩ := C2.out.two
  by_cases hz : E = 0
  rotate_left
  · obtain ⟨z1, z2⟩ := ne_zero hz
    have e1 : drE cap L t = E := (drE_ck (by rw [HE.out]; exact hz)).trans HE.out
    have HEE := Lib.hid (And.intro e1 (dr_no (by rw [e1]; exact hz)))
    clear hz e1
    obtain ⟨u0, u1⟩ := D2.out.two
    obtain ⟨v0, v1⟩ := D2.out.warm2
    go_wp2_with fail
    exact bodyPost_ret (res_chest3 Try.results21 rfl (D2.out.put2 _ _)) rfl (by rw [HEE.out.1, HEE.out.2.1, HEE.out.2.2.1, HEE.out.2.2.2]; exact DRs.none_ (Rw.below_put2 B2.out (Nat.le_succ _) _ _))
  subst hz
  have hMM : MM = 1099511627776 := rfl
  rcases Int.lt_or_le t 0 with h0 | h0
  · have d0 : decide (t < 0) = true := decide_eq_true h0
    have e1 : drE cap L t = 1 := drE_out HE.out (by omega)
    have HEE := Lib.hid (And.intro e1 (dr_no (by rw [e1]; decide)))
    clear h0 e1 hMM
    obtain ⟨u0, u1⟩ := D2.out.two
    obtain ⟨v0, v1⟩ := D2.out.warm2
    go_wp2_with fail
    exact bodyPost_ret (res_chest3 Try.results21 rfl (D2.out.put2 _ _)) rfl (by rw [HEE.out.1, HEE.out.2.1, HEE.out.2.2.1, HEE.out.2.2.2]; exact DRs.none_ (Rw.below_put2 B2.out (Nat.le_succ _) _ _))
  have d0 : decide (t < 0) = false := decide_eq_false (by omega)
  rcases Int.lt_or_le 1099511627776 t with h3 | h3
  · have d1 : decide (1099511627776 < t) = true := decide_eq_true h3
    have e1 : drE cap L t = 1 := drE_out HE.out (by omega)
    have HEE := Lib.hid (And.intro e1 (dr_no (by rw [e1]; decide)))
    clear h0 h3 e1 hMM
    obtain ⟨u0, u1⟩ := D2.out.two
    obtain ⟨v0, v1⟩ := D2.out.warm2
    go_wp2_with fail
    exact bodyPost_ret (res_chest3 Try.results21 rfl (D2.out.put2 _ _)) rfl (by rw [HEE.out.1, HEE.out.2.1, HEE.out.2.2.1, HEE.out.2.2.2]; exact DRs.none_ (Rw.below_put2 B2.out (Nat.le_succ _) _ _))
  have d1 : decide (1099511627776 < t) = false := decide_eq_false (by omega)
  have ok := ckC_ok HE.out
  have hy := HY.out
  rw [levV_ok HE.out] at hy
  have hin : 0 ≤ t ∧ t ≤ MM := ⟨h0, by omega⟩
  rcases Int.lt_or_le Y t with hg | hg
  · have d2 : decide (Y < t) = true := decide_eq_true hg
    have e1 : drE cap L t = 19 := drE_more HE.out hin (by rw [hy]; exact hg)
    have HEE := Lib.hid (And.intro e1 (dr_no (by rw [e1]; decide)))
    clear hg e1 ok hy hin h0 h3 hMM
    obtain ⟨u0, u1⟩ := D2.out.two
    obtain ⟨v0, v1⟩ := D2.out.warm2
    go_wp2_with fail
    exact bodyPost_ret (res_chest3 Try.results21 rfl (D2.out.put2 _ _)) rfl (by rw [HEE.out.1, HEE.out.2.1, HEE.out.2.2.1, HEE.out.2.2.2]; exact DRs.none_ (Rw.below_put2 B2.out (Nat.le_succ _) _ _))
  have d2 : decide (Y < t) = false := decide_eq_false (by omega)
  have hle : t ≤ sumZ L := by rw [hy]; exact hg
  have e1 : drE cap L t = 0 := drE_ok HE.out hin (by omega)
  have HEE := Lib.hid (And.intro e1 (dr_yes e1))
  have sok := dr_ok ok h0 hle
  have hspl : splL t L = partsL t L := if_pos sok.err
  rw [hspl, sok.err] at KS
  have HPL := Lib.hid (partsL_len t L)
  have HPM := Lib.hid (parts_lim ok h0 hle)
  have HOK := Lib.hid ok
  clear hg e1 hle sok hspl ok hy hin h0 h3 hMM
  go_wp2_with fail
  refine (KS.out _ (HA.out.on B2.out)).mono ?_
  intro e w4 hr
  obtain ⟨A4, n4, c4, rfl, hl4, _, ho4, hc4, hb⟩ := Share.ResL.open_ hr
  have hn4 : n4 = n := by have := HPL.out; have := HN.out; omega
  subst hn4
  have B4 := Lib.hid (bstep B2.out hb)
  have C4 := Lib.hid (C2.out.on hb)
  have D4 := Lib.hid (D2.out.on hb)
  have S4 : Hid (w.heap.size + 2 ≤ w4.heap.size) := Lib.hid (by have := hb.size; have := S2.out; omega)
  have HO4 : Hid (Own eI 3 (w.heap.size + 2) w4 (.slice A4 n4 c4) (partsL t L)) := Lib.hid (ho4.less S2.out)
  have KQ := Lib.hid (ch_changed cap (-1) L (partsL t L) A A4 n4 c n4 c4 HN.out hl4 rfl (by have := HOK.out.len; have := HN.out; omega) (Or.inr rfl) HOK.out.all HPM.out w4 (HA.out.on B4.out) hc4)
  rw [chg_neg] at KQ
  clear hr ho4 hc4 hl4 hb x0 x1 C2 D2 B2 S2
  obtain ⟨x0, x1⟩ := C4.out.two
  go_wp2_with fail
  refine KQ.out.mono ?_
  rintro e w5 ⟨A5, n5, c5, rfl, hl5, ho5, hb⟩
  have B5 := Lib.hid (bstep B4.out hb)
  have D5 := Lib.hid (D4.out.on hb)
  have HO := Lib.hid (ho5.less S4.out)
  have HQ := Lib.hid (HO4.out.on hb)
  have HL5 := Lib.hid hl5
  clear hb hl5 ho5 x0 x1
  obtain ⟨u0, u1⟩ := D5.out.two
  obtain ⟨v0, v1⟩ := D5.out.warm2
  go_wp2_with fail
  exact bodyPost_ret (res_chest3 Try.results21 rfl (D5.out.put2 _ _)) rfl (by
    rw [HEE.out.1, HEE.out.2.1, HEE.out.2.2.1, HEE.out.2.2.2]
    exact ⟨_, _, _, _, _, _, rfl, HL5.out, own_len HQ.out, own_far2 (HO.out.less (by omega)) (fun e => by have h1 := (HO.out.lt _ e).1; omega) _ _,
      own_far2 (HQ.out.less (by omega)) (fun e => by have h1 := (HQ.out.lt _ e).1; omega) _ _, Rw.below_put2 B5.out (Nat.le_succ _) _ _⟩)
end Go.Proofs.Ytagjimdplmimoaa.Chest
