/- Several texts in one: PipeK, PipeM, PipeN. -/
import Derived.Test.YtihklpkpcnahkaaPk10
import Derived.Test.YtihklpkpcnahkaaPk1
import Derived.Deep.Strs
/- Push of the reference. -/
namespace Go.Proofs.Ytihklpkpcnahkaa.Pipe
open Go.ChangeShapes Go.WideShapes Go.RowKit Go.Lib
open Go.Proofs.Ytihklpkpcnahkaa.Mem (Cl eI Own make_ints)
open Go.Proofs.Ytihklpkpcnahkaa.Vec (sumZ plusL lessL plus_at less_at plus_len less_len sumZ_nonneg le_sum sumZ_plus plus_get)
open Go.Proofs.Ytihklpkpcnahkaa.Fibre (MM rr_Sum rr_Parts rr_Same rr_Total lisE_of)
open Go.Proofs.Ytihklpkpcnahkaa.Share (zeros one_made lst_zero partsL partsL_len)
open Go.Proofs.Ytihklpkpcnahkaa.Rw (Rd Kd Row Off glt get_lt ret_bool ret_int bstep below_drewN below_drew drew_below below_alloc cI cI_len kdI flat_cI append_rows step_rows take_snoc_of)
set_option linter.unusedVariables false
set_option maxRecDepth 100000

theorem cell_off {S : Nat → Prop} {w W : World} (h : Off S w W) {b i : Nat} (hb : b < w.heap.size) (hn : ¬ S b) : W.cell? ⟨b, i, none⟩ = w.cell? ⟨b, i, none⟩ :=
  World.cell?_of_block (a := ⟨b, i, none⟩) (h.block b hb hn)
theorem cl_off {S : Nat → Prop} {w W : World} {A : Option Addr} {L : List Int} (h : Cl eI w A L) (ho : Off S w W) (hn : ∀ b off, A = some ⟨b, off, none⟩ → ¬ S b) : Cl eI W A L := fun k z hz => by
  obtain ⟨b, off, e, hlt, hc⟩ := h k z hz
  exact ⟨b, off, e, Nat.lt_of_lt_of_le hlt ho.size, (cell_off ho hlt (hn b off e)).trans hc⟩
theorem PlsO.off {S : Nat → Prop} {B : Nat} {w w' : World} {A : Option Addr} {P : List (List Int)} (h : PlsO B w A P) (ho : Off S w w') (hS : ∀ x, S x → x < B ∨ w.heap.size ≤ x) : PlsO B w' A P := fun k l hk => by
  obtain ⟨b, off, A1, c1, e, hB, hlt, h0, h1⟩ := h k l hk
  exact ⟨b, off, A1, c1, e, hB, Nat.lt_of_lt_of_le hlt ho.size, (cell_off ho hlt (fun hs => by have h4 := hS b hs; omega)).trans h0, h1.keep fun g hg => ho.block g (h1.lt g hg).2 fun hs => by have h4 := hS g hs; have h5 := h1.lt g hg; omega⟩
/-- A pipe and a list of the call's own, and an error. -/
def PuRes (w : World) (err hold : Int) (P : List (List Int)) (O : List Int) (e : Ending) (w' : World) : Prop :=
  ∃ A n c A' n' c', e = .returned (.tuple #[.agg #[.int .i64 hold, .slice A n c], .slice A' n' c', .int .i64 err]) ∧ P.length = n ∧ n ≤ c ∧ O.length = n' ∧ PlsO w.heap.size w' A P ∧ Own eI 3 w.heap.size w' (.slice A' n' c') O ∧ Below w.heap.size w w'
theorem PuRes.none_ {w w' : World} {err : Int} (hb : Below w.heap.size w w') : PuRes w err 0 [] [] (.returned (.tuple #[.agg #[.int .i64 0, .slice none 0 0], .slice none 0 0, .int .i64 err])) w' :=
  ⟨_, _, _, _, _, _, rfl, rfl, Nat.le_refl _, rfl, PlsO.nil _ _ _, Own.nil _ _ _ _, hb⟩
set_option maxHeartbeats 6400000 in
theorem pr_Push (hold : Int) (P : List (List Int)) (m : List Int) (A M : Option Addr) (n c n' c' : Nat) (hn : P.length = n) (hn' : m.length = n') (w : World) (ha : Pls w A P) (hm : Cl eI w M m) (h1 : n ≤ 9223372036854775807) (h2 : n' ≤ 9223372036854775807) :
    Calls Try.prog 19 #[.agg #[.int .i64 hold, .slice A n c], .slice M n' c'] w (PuRes w (puE hold P m) (puH hold P m) (puP hold P m) (puO hold P m)) := by
  have HA := Lib.hid ha
  have HM := Lib.hid hm
  have HN := Lib.hid (And.intro hn hn')
  have KC := Lib.hid fun (W : World) (h : Pls W A P) => pr_Check hold P A n c hn W h h1
  have KP := Lib.hid fun (W : World) (h : Cl eI W M m) => rr_Parts m M n' c' hn'.symm (kin P) W h h2
  obtain ⟨E, hE⟩ : ∃ E, ckP hold P = E := ⟨_, rfl⟩
  obtain ⟨F, hF⟩ : ∃ F, Fibre.parE m (kin P : Int) = F := ⟨_, rfl⟩
  rw [hE] at KC
  rw [hF] at KP
  have HE := Lib.hid (And.intro hE hF)
  clear ha hm hn hn' h1 h2 hE hF
  go_enter Try.func19, Try.ntmps19
  go_upto_region 1 with fail
  obtain ⟨w0, hw0⟩ : ∃ W, w.alloc (.cells #[.int .i64 hold, .slice A n c] 24) = W := ⟨_, rfl⟩
  have C0 : Hid (Rw.Cel w0 w.heap.size [.int .i64 hold, .slice A n c]) := hw0 ▸ Rw.Cel.new w [_, _] _
  have B0 : Hid (Below w.heap.size w w0) := hw0 ▸ below_alloc _ _
  have S0 : Hid (w0.heap.size = w.heap.size + 1) := Lib.hid (by rw [← hw0]; simp)
  rw [hw0]
  clear hw0
  obtain ⟨w1, hw1⟩ : ∃ W, w0.alloc (.cells #[.int .i64 0, .slice none 0 0] 24) = W := ⟨_, rfl⟩
  have D1 : Hid (Rw.Cel w1 (w.heap.size + 1) [.int .i64 0, .slice none 0 0]) := by
    refine Lib.hid ?_
    rw [← hw1, ← S0.out]; exact Rw.Cel.new w0 [_, _] _
  have C1 : Hid (Rw.Cel w1 w.heap.size [.int .i64 hold, .slice A n c]) := hw1 ▸ C0.out.alloc _
  have B1 : Hid (Below w.heap.size w w1) := Lib.hid (bstep B0.out (hw1 ▸ below_alloc _ _))
  have S1 : Hid (w.heap.size + 2 ≤ w1.heap.size) := Lib.hid (by rw [← hw1]; simp [S0.out])
  rw [hw1]
  clear hw1 C0 B0 S0
  obtain ⟨x0, x1⟩ := C1.out.two
  go_wp2_with fail
  refine (KC.out _ (HA.out.on B1.out)).mono ?_
  rintro e w2 ⟨rfl, hb⟩
  have B2 := Lib.hid (bstep B1.out hb)
  have C2 := Lib.hid (C1.out.on hb)
  have D2 := Lib.hid (D1.out.on hb)
  have S2 : Hid (w.heap.size + 2 ≤ w2.heap.size) := Lib.hid (Nat.le_trans S1.out hb.size)
  clear hb x0 x1 C1 D1 B1 S1
  obtain ⟨x0, x1⟩ := C2.out.two
  by_cases hz : E = 0
  rotate_left
  · obtain ⟨z1, z2⟩ := nz hz
    have e1 : puE hold P m = E := (puE_ck (by rw [HE.out.1]; exact hz)).trans HE.out.1
    have HEE := Lib.hid (And.intro e1 (pu_no (by rw [e1]; exact hz)))
    clear hz e1
    obtain ⟨u0, u1⟩ := D2.out.two
    obtain ⟨v0, v1⟩ := D2.out.warm2
    go_wp2_with fail
    exact bodyPost_ret (res_pipe3 Try.results19 rfl (D2.out.put2 _ _)) rfl (by rw [HEE.out.1, HEE.out.2.1, HEE.out.2.2.1, HEE.out.2.2.2]; exact PuRes.none_ (Rw.below_put2 B2.out (Nat.le_succ _) _ _))
  subst hz
  have ok := ckP_of HE.out.1
  obtain ⟨ki, hki⟩ : ∃ x, kin P = x := ⟨_, rfl⟩
  rw [hki] at ok KP
  have OK := Lib.hid ok
  have HK := Lib.hid hki
  have k8 := ok.k8
  obtain ⟨l0, hl0⟩ := get_lt (L := P) (k := 0) (by have := ok.n1; omega)
  obtain ⟨b, off, A1, n1, c1, hA, hb, e0, hl1, hcl, hm1⟩ := pls_at (HA.out.on B2.out) hl0
  subst hA
  obtain rfl : n1 = ki := by
    have := (ok.all l0 (List.mem_of_getElem? hl0)).len
    omega
  rw [Nat.add_zero] at e0
  have i3 : (0 : Int) < (n : Int) := by have := HN.out; have := ok.n1; omega
  have i4 : 0 < n := by have := HN.out; have := ok.n1; omega
  have hmk := fun W => make_ints n1 (by omega) W
  clear ok hl0 hcl hl1 hb hki
  go_wp2_with fail
  refine (KP.out _ (HM.out.on B2.out)).mono ?_
  rintro e w3 ⟨rfl, hb⟩
  have B3 := Lib.hid (bstep B2.out hb)
  have C3 := Lib.hid (C2.out.on hb)
  have D3 := Lib.hid (D2.out.on hb)
  have S3 : Hid (w.heap.size + 2 ≤ w3.heap.size) := Lib.hid (Nat.le_trans S2.out hb.size)
  clear hb x0 x1 C2 D2 B2 S2 e0
  by_cases hz : F = 0
  rotate_left
  · obtain ⟨z1, z2⟩ := nz hz
    have e1 : puE hold P m = F := (puE_par HE.out.1 (by rw [HE.out.2]; exact hz)).trans HE.out.2
    have HEE := Lib.hid (And.intro e1 (pu_no (by rw [e1]; exact hz)))
    clear hz e1
    obtain ⟨u0, u1⟩ := D3.out.two
    obtain ⟨v0, v1⟩ := D3.out.warm2
    go_wp2_with fail
    exact bodyPost_ret (res_pipe3 Try.results19 rfl (D3.out.put2 _ _)) rfl (by rw [HEE.out.1, HEE.out.2.1, HEE.out.2.2.1, HEE.out.2.2.2]; exact PuRes.none_ (Rw.below_put2 B3.out (Nat.le_succ _) _ _))
  subst hz
  obtain ⟨p1, p2, p3, p4⟩ := lisE_of HE.out.2
  have H8 := Lib.hid (show n' ≤ 8 by have := HN.out; omega)
  have KS := Lib.hid fun (W : World) (h : Cl eI W M m) => rr_Sum m M n' c' HN.out.2.symm W h H8.out p4
  obtain ⟨S, hS⟩ : ∃ S, Fibre.sumZ m = S := ⟨_, rfl⟩
  rw [hS] at KS
  have HS : Hid (sumZ m = S) := Lib.hid hS
  have HS0 : Hid (0 ≤ S) := Lib.hid (by rw [← HS.out]; exact sumZ_nonneg fun z hz => (p4 z hz).1)
  clear p1 p2 p3 p4 hS
  go_wp2_with fail
  refine (KS.out _ (HM.out.on B3.out)).mono ?_
  rintro e w4 ⟨rfl, hb⟩
  have B4 := Lib.hid (bstep B3.out hb)
  have C4 := Lib.hid (C3.out.on hb)
  have D4 := Lib.hid (D3.out.on hb)
  have S4 : Hid (w.heap.size + 2 ≤ w4.heap.size) := Lib.hid (Nat.le_trans S3.out hb.size)
  clear hb C3 D3 B3 S3
  obtain ⟨x0, x1⟩ := C4.out.two
  rcases Int.lt_or_le hold S with hg | hg
  · have t0 : decide (hold < S) = true := decide_eq_true hg
    have e1 : puE hold P m = 8 := puE_big HE.out.1 HE.out.2 (by rw [HS.out]; exact hg)
    have HEE := Lib.hid (And.intro e1 (pu_no (by rw [e1]; decide)))
    clear hg e1
    obtain ⟨u0, u1⟩ := D4.out.two
    obtain ⟨v0, v1⟩ := D4.out.warm2
    go_wp2_with fail
    exact bodyPost_ret (res_pipe3 Try.results19 rfl (D4.out.put2 _ _)) rfl (by rw [HEE.out.1, HEE.out.2.1, HEE.out.2.2.1, HEE.out.2.2.2]; exact PuRes.none_ (Rw.below_put2 B4.out (Nat.le_succ _) _ _))
  have t0 : decide (hold < S) = false := decide_eq_false (by omega)
  have HSH := Lib.hid hg
  have he := puE_end HE.out.1 HE.out.2 (by rw [HS.out]; omega)
  have HO5 := Lib.hid (one_made w4 n1 (by omega))
  rw [← lst_zero] at HO5
  obtain ⟨w5, hw5⟩ : ∃ W, w4.alloc (zeros n1) = W := ⟨_, rfl⟩
  have B5 : Hid (Below w.heap.size w w5) := Lib.hid (bstep B4.out (hw5 ▸ below_alloc _ _))
  have C5 : Hid (Rw.Cel w5 w.heap.size _) := hw5 ▸ C4.out.alloc _
  have D5 : Hid (Rw.Cel w5 (w.heap.size + 1) _) := hw5 ▸ D4.out.alloc _
  rw [hw5] at HO5
  have S5 : Hid (w5.heap.size = w4.heap.size + 1) := Lib.hid (by rw [← hw5]; simp)
  have HB45 : Hid (Below w4.heap.size w4 w5) := Lib.hid (hw5 ▸ below_alloc _ _)
  go_upto_region 12 with fail
  clear hw5 x0 x1
  obtain ⟨x0, x1⟩ := C5.out.two
  go_upto_region 13 with fail
  clear x0 x1
  have G6 := Lib.hid (Rw.Cel.new w5 [.int .i64 hold, .slice none 0 0] 24)
  have O6 := Lib.hid (HO5.out.alloc (.cells #[.int .i64 hold, .slice none 0 0] 24))
  have B6 : Hid (Below w4.heap.size w4 (w5.alloc (.cells #[.int .i64 hold, .slice none 0 0] 24))) := Lib.hid (bstep HB45.out (below_alloc _ _))
  have S6 : Hid ((w5.alloc (.cells #[.int .i64 hold, .slice none 0 0] 24)).heap.size = w4.heap.size + 2) := Lib.hid (by have := S5.out; simp; omega)
  obtain ⟨w6, hw6⟩ : ∃ W, w5.alloc (.cells #[.int .i64 hold, .slice none 0 0] 24) = W := ⟨_, rfl⟩
  rw [hw6] at G6 O6 B6 S6 ⊢
  clear hw6
  obtain ⟨gp, hgp⟩ : ∃ g, w5.heap.size = g := ⟨_, rfl⟩
  obtain ⟨go, hgo⟩ : ∃ g, w4.heap.size = g := ⟨_, rfl⟩
  have GP : Hid (gp = go + 1) := Lib.hid (by have := S5.out; omega)
  have GO := Lib.hid hgo
  rw [hgo] at O6 B6 S6 ⊢
  rw [hgp] at G6 ⊢
  clear hgo hgp HO5 B5 C5 D5 S5 HB45
  have H56 : Hid (go = w4.heap.size ∧ w.heap.size + 2 ≤ go) := Lib.hid ⟨GO.out.symm, by have := GO.out; have := S4.out; omega⟩
  have HI6 := Lib.hid (PInv.start OK.out.k8 OK.out.all HS0.out)
  go_wp2_with fail
  go_loopw [10, 13, 14, 15, 16, 17] (fun sv iv _ _ _ _ wr => ∃ (k : Nat) (s : Int) (A' : Option Addr) (n5 c5 : Nat) (R : List Sr) (Q : List (List Int)) (O : List Int), k ≤ n ∧ iv = .int .i64 k ∧ sv = .int .i64 s ∧ PInv n1 S P k s O Q ∧
    Row cP 1 29 (go + 2) wr (.slice A' n5 c5) R ∧ InsO (go + 2) wr (.slice A' n5 c5) R Q ∧ Own eI 3 go wr (.slice (some ⟨go, 0, none⟩) n1 n1) O ∧ Rw.Cel wr gp [.int .i64 hold, .slice A' n5 c5] ∧ Below go w4 wr ∧ go + 2 ≤ wr.heap.size) (fun _ iv _ _ _ _ _ => n - (RowKit.intOf iv).toNat)
  case atStart => exact ⟨0, S, none, 0, 0, [], [], _, Nat.zero_le _, rfl, rfl, HI6.out, Row.nil _ _ _ _ _, InsO.nil _ _ _, O6.out, G6.out, B6.out, by rw [S6.out]; exact Nat.le_refl _⟩
  case round =>
    obtain ⟨k, s, A', n5, c5, R, Q, O, hk, rfl, rfl, hinv, hrow, hins, hown, hcel, hbel, hsz⟩ := hrel
    have HI := Lib.hid hinv
    have HR := Lib.hid hrow
    have HQ := Lib.hid hins
    have HO := Lib.hid hown
    have HG := Lib.hid hcel
    have HW := Lib.hid hbel
    have HZ := Lib.hid hsz
    clear hinv hrow hins hown hcel hbel hsz
    have HB := Lib.hid (B4.out.trans (HW.out.mono (show w.heap.size ≤ go by have := H56.out; omega)))
    have CR := Lib.hid (C4.out.below HW.out (by have := H56.out; omega))
    obtain ⟨x0, x1⟩ := CR.out.two
    rcases Nat.lt_or_ge k n with hlt | hge
    · obtain ⟨l, hl⟩ := get_lt (L := P) (k := k) (by have := HN.out; omega)
      obtain ⟨b', off', A2, n2, c2, e', hb2, e2, hl2, hcl2, hm2⟩ := pls_at (HA.out.on B4.out) hl
      cases e'
      have hpg := OK.out.all l (List.mem_of_getElem? hl)
      obtain rfl : n2 = n1 := by have := hpg.len; omega
      have PG := Lib.hid hpg
      have HL := Lib.hid (And.intro hl hl2)
      have HE2 : Hid (b < go ∧ w4.cell? ⟨b, off + k, none⟩ = some (.slice A2 n2 c2)) := Lib.hid ⟨by have := H56.out; omega, e2⟩
      have HC2 : Hid (Cl eI w4 A2 l ∧ ∀ b3 o3, A2 = some ⟨b3, o3, none⟩ → b3 < go) := Lib.hid ⟨hcl2, fun b3 o3 e => by
        obtain ⟨z, hz⟩ := get_lt (L := l) (k := 0) (by rw [hl2]; have := OK.out.k1; omega)
        obtain ⟨b4, o4, e4, hb4, -⟩ := Fibre.cl_at hcl2 hz
        rw [e] at e4
        cases e4
        have := H56.out
        omega⟩
      have e3 : wr.cell? ⟨b, off + k, none⟩ = some (.slice A2 n2 c2) := (HW.out.cell (p := ⟨b, off + k, none⟩) HE2.out.1).trans HE2.out.2
      have i1 : (k : Int) < (n : Int) := by omega
      have i2 : (0 : Int) ≤ (k : Int) := by omega
      have hk1 : IntKind.i64.wrap ((k : Int) + 1) = ((k + 1 : Nat) : Int) := Rw.wrap_id (by have := HN.out; have := OK.out.n2; omega)
      have HLT := Lib.hid hlt
      clear hl hl2 hcl2 hb2 e2 hpg
      have O7 := Lib.hid (one_made wr n2 (by omega))
      rw [← lst_zero] at O7
      have B7 : Hid (Below wr.heap.size wr (wr.alloc (zeros n2))) := Lib.hid (below_alloc _ _)
      have GW : Hid (wr.cell? ⟨w.heap.size, 1, none⟩ = some (.slice (some ⟨b, off, none⟩) n c) ∧ wr.cell? ⟨b, off + k, none⟩ = some (.slice A2 n2 c2)) := Lib.hid ⟨x1, e3⟩
      have GB : Hid (w.heap.size < wr.heap.size ∧ b < wr.heap.size) := Lib.hid (by have := HE2.out.1; have := HZ.out; have := H56.out; omega)
      have GS := Lib.hid fun (W : World) (h : Below wr.heap.size wr W) => And.intro ((h.cell (p := ⟨w.heap.size, 1, none⟩) GB.out.1).trans GW.out.1) ((h.cell (p := ⟨b, off + k, none⟩) GB.out.2).trans GW.out.2)
      have GC := Lib.hid fun (W : World) (h : Below go w4 W) => (show Cl eI W A2 l from fun j z hz => by
        obtain ⟨b3, o3, e5, hb3, h0⟩ := HC2.out.1 j z hz
        exact ⟨b3, o3, e5, Nat.lt_of_lt_of_le hb3 h.size, (h.cell (p := ⟨b3, o3 + j, none⟩) (HC2.out.2 b3 o3 e5)).trans h0⟩)
      have hs0 := HI.out.s0
      have hsS := HI.out.sum
      have KL := Lib.hid fun (W : World) (h : Below go w4 W) => rr_Sum l A2 n2 c2 HL.out.2.symm W (GC.out W h) (by omega) PG.out.all
      obtain ⟨t, ht⟩ : ∃ t, Fibre.sumZ l = t := ⟨_, rfl⟩
      have HT : Hid (sumZ l = t) := Lib.hid ht
      rw [ht] at KL
      obtain ⟨w7, hw7⟩ : ∃ W, wr.alloc (zeros n2) = W := ⟨_, rfl⟩
      rw [hw7] at O7 B7
      have W7 : Hid (Below go w4 w7) := Lib.hid (HW.out.trans (B7.out.mono (by have := HZ.out; omega)))
      go_upto_region 17 with fail
      clear x0 x1 e3 hw7 hk ht
      obtain ⟨x1, e3⟩ := GS.out _ B7.out
      go_wp2_with fail
      refine (KL.out _ W7.out).mono ?_
      rintro e w8 ⟨rfl, hb⟩
      have B8 := Lib.hid (bstep B7.out hb)
      have O8 := Lib.hid (O7.out.on hb)
      have W8 : Hid (Below go w4 w8) := Lib.hid (W7.out.trans (hb.mono (by have := W7.out.size; have := H56.out; omega)))
      clear hb x1 e3 W7 B7 O7
      obtain ⟨x1, e3⟩ := GS.out _ B8.out
      go_upto_if 65 with fail
      go_cut [14] from 66 to 127 (fun v wz => ∃ (G : Option Addr) (cg : Nat), v = .slice G n2 cg ∧ Cl eI wz G (gon s l) ∧ (∀ b3 o3, G = some ⟨b3, o3, none⟩ → b3 ≠ go ∧ b3 < wz.heap.size) ∧ Below w8.heap.size w8 wz)
      case first =>
        rcases Int.lt_or_le s t with hlt | hle
        · rcases Int.lt_or_le 0 s with hpos | hnp
          · have d0 : ¬ t ≤ s := by omega
            have d1 : decide (0 < s) = true := decide_eq_true hpos
            have hgn : gon s l = partsL s l := by unfold gon; rw [HT.out, if_neg (by omega), if_pos hpos]
            obtain ⟨V, hV⟩ := PG.out.wgt k8 hs0 (s := s) (by have := OK.out.h2; have := HSH.out; have := HI.out.s0; have h9 := sumZ_nonneg HI.out.nn; omega)
            have KV := Lib.hid (rr_split s l A2 n2 c2 HL.out.2 w8 (GC.out _ W8.out) V hV)
            rw [← hgn] at KV
            clear hlt hpos hgn hV
            go_wp2_with fail
            refine KV.out.mono ?_
            rintro e w9 ⟨v9, rfl, ho9, hb9⟩
            obtain ⟨G, cg, rfl, -, -, hc9⟩ := ho9.inS
            have HG9 := Lib.hid hc9
            have HL9 : Hid (∀ b3 o3, G = some ⟨b3, o3, none⟩ → b3 ≠ go ∧ b3 < w9.heap.size) := Lib.hid fun b3 o3 e => by
              have h1 := ho9.lt b3 (by rw [e]; rfl)
              have h2 := W8.out.size
              have h3 := H56.out
              have h4 := B8.out.size
              have h5 := HZ.out
              omega
            have HB9 := Lib.hid hb9
            have HLG : Hid ((gon s l).length = n2) := Lib.hid (by rw [gon_len]; exact HL.out.2)
            clear ho9 hb9 hc9
            go_wp2_with fail
            go_meet
            case rel => exact ⟨G, cg, by rw [HLG.out], HG9.out, HL9.out, HB9.out⟩
          · have d0 : ¬ t ≤ s := by omega
            have d1 : decide (0 < s) = false := decide_eq_false (by omega)
            have hgn : gon s l = List.replicate n2 0 := by unfold gon; rw [HT.out, if_neg (by omega), if_neg (by omega), HL.out.2]
            have HG9 := Lib.hid (show Cl eI w8 (some ⟨wr.heap.size, 0, none⟩) (gon s l) by rw [hgn]; exact O8.out.cl)
            have HL9 : Hid (wr.heap.size ≠ go ∧ wr.heap.size < w8.heap.size) := Lib.hid (by have h1 := (O8.out.lt wr.heap.size rfl).2; have h5 := HZ.out; omega)
            clear hlt hnp hgn
            go_wp2_with fail
            go_meet
            case rel => exact ⟨_, _, rfl, HG9.out, fun b3 o3 e => by cases e; exact HL9.out, Below.refl _ _⟩
        · have d0 : t ≤ s := hle
          have hgn : gon s l = l := by unfold gon; rw [HT.out, if_pos hle]
          have HG9 := Lib.hid (show Cl eI w8 A2 (gon s l) by rw [hgn]; exact GC.out _ W8.out)
          have HL9 : Hid (∀ b3 o3, A2 = some ⟨b3, o3, none⟩ → b3 ≠ go ∧ b3 < w8.heap.size) := Lib.hid fun b3 o3 e => by
            have h1 := HC2.out.2 b3 o3 e
            have h2 := W8.out.size
            have h3 := H56.out
            have h4 := B8.out.size
            have h5 := HZ.out
            omega
          clear hle hgn
          go_wp2_with fail
          go_meet
          case rel => exact ⟨_, _, rfl, HG9.out, HL9.out, Below.refl _ _⟩
      case rest =>
        obtain ⟨G, cg, rfl, hgc, hgl, hb⟩ := hcut
        have B9 := Lib.hid (bstep B8.out hb)
        have W9 : Hid (Below go w4 wc) := Lib.hid (W8.out.trans (hb.mono (by have := W8.out.size; have := H56.out; omega)))
        obtain ⟨g, hg9⟩ : ∃ g, gon s l = g := ⟨_, rfl⟩
        have HST := Lib.hid (HI.out.step OK.out.k8 OK.out.all HL.out.1)
        have HLM := Lib.hid (gon_lim (l := l) OK.out.k8 HI.out.s0 PG.out)
        have HGL : Hid (g.length = n2) := Lib.hid (by rw [← hg9, gon_len]; exact HL.out.2)
        rw [hg9] at HST HLM hgc
        have HGC := Lib.hid hgc
        have HGN := Lib.hid hgl
        have Z9 : Hid (go + 2 ≤ wc.heap.size) := Lib.hid (Nat.le_trans HZ.out B9.out.size)
        have R9 := Lib.hid (HR.out.on B9.out)
        have Q9 := Lib.hid (HQ.out.off (Off.of_below (S := fun _ => False) B9.out) (fun x h => h.elim))
        have P9 := Lib.hid (HO.out.on B9.out)
        have G9 := Lib.hid (HG.out.on B9.out)
        have V9 : Hid (∀ g0, (Value.slice A' n5 c5).ownBlock = some g0 → g0 < wc.heap.size) := Lib.hid fun g0 h => (R9.out.lt g0 h).2
        have T10 := Lib.hid (one_made wc n2 (by omega))
        rw [← lst_zero] at T10
        have BB : Hid (Below wc.heap.size wc (wc.alloc (zeros n2))) := Lib.hid (below_alloc _ _)
        have ZZ : Hid ((wc.alloc (zeros n2)).heap.size = wc.heap.size + 1) := Lib.hid (by simp)
        obtain ⟨w10, hw10⟩ : ∃ W, wc.alloc (zeros n2) = W := ⟨_, rfl⟩
        obtain ⟨gq, hgq⟩ : ∃ x, wc.heap.size = x := ⟨_, rfl⟩
        have GQ := Lib.hid hgq
        rw [hw10] at T10 BB ZZ
        have x10 := GS.out _ (bstep B9.out (hw10 ▸ below_alloc _ _))
        have X10 := Lib.hid x10
        have W10 : Hid (Below go w4 w10) := Lib.hid (W9.out.trans (BB.out.mono (by have := Z9.out; omega)))
        clear hgc hgl hb hg9 x10 x1 e3 B8 W8 O8
        go_upto_region 23 with fail
        clear hw10
        rw [hgq] at T10
        have P10 := Lib.hid (P9.out.on BB.out)
        have C10 := Lib.hid (HGC.out.on BB.out)
        have L10 := Lib.hid (GC.out _ W10.out)
        have N10 : Hid (∀ b3 o3, G = some ⟨b3, o3, none⟩ → ¬ (b3 = go ∨ b3 = gq)) := Lib.hid fun b3 o3 e h => by
          have h1 := HGN.out b3 o3 e
          have h2 := GQ.out
          omega
        have M10 : Hid (∀ b3 o3, A2 = some ⟨b3, o3, none⟩ → ¬ (b3 = go ∨ b3 = gq)) := Lib.hid fun b3 o3 e h => by
          have h1 := HC2.out.2 b3 o3 e
          have h2 := GQ.out
          have h3 := Z9.out
          omega
        have HGG : Hid (go ≠ gq ∧ go + 2 ≤ gq) := Lib.hid (by have h2 := GQ.out; have h3 := Z9.out; omega)
        have J10 : Hid ((w.heap.size < w10.heap.size ∧ ¬ (w.heap.size = go ∨ w.heap.size = gq)) ∧ (b < w10.heap.size ∧ ¬ (b = go ∨ b = gq))) := Lib.hid (by have h1 := HE2.out.1; have h2 := H56.out; have h3 := HGG.out; have h4 := ZZ.out; have h5 := GQ.out; omega)
        clear hgq
        go_wp2_with fail
        go_loopw [17] (fun jv wr2 => ∃ i : Nat, i ≤ n2 ∧ jv = .int .i64 i ∧ Own eI 3 go wr2 (.slice (some ⟨go, 0, none⟩) n2 n2) (mixL i (plusL O g) O) ∧ Own eI 3 gq wr2 (.slice (some ⟨gq, 0, none⟩) n2 n2) (mixL i (lessL l g) (List.replicate n2 0)) ∧ Off (fun x => x = go ∨ x = gq) w10 wr2) (fun jv _ => n2 - (RowKit.intOf jv).toNat)
        case atStart => exact ⟨0, Nat.zero_le _, rfl, by rw [mix_zero]; exact P10.out, by rw [mix_zero]; exact T10.out, Off.refl _ _⟩
        case round =>
          obtain ⟨i, hi, rfl, ho, ht2, hoff⟩ := hrel
          have HO5 := Lib.hid ho
          have HT5 := Lib.hid ht2
          have HF5 := Lib.hid hoff
          clear ho ht2 hoff
          rcases Nat.lt_or_ge i n2 with hli | hgi
          · obtain ⟨x, hx⟩ := get_lt (L := O) (k := i) (by rw [HI.out.len]; exact hli)
            obtain ⟨y, hy⟩ := get_lt (L := l) (k := i) (by rw [HL.out.2]; exact hli)
            obtain ⟨z, hz⟩ := get_lt (L := g) (k := i) (by rw [HGL.out]; exact hli)
            obtain ⟨b3, o3, hA3, hb3, e5⟩ := Fibre.cl_at (cl_off C10.out HF5.out N10.out) hz
            obtain ⟨b4, o4, hA4, hb4, e6⟩ := Fibre.cl_at (cl_off L10.out HF5.out M10.out) hy
            have hp := plus_at hx hz
            have hq := less_at hy hz
            obtain ⟨p, hpe⟩ : ∃ p, x + z = p := ⟨_, rfl⟩
            obtain ⟨q, hqe⟩ : ∃ q, y - z = q := ⟨_, rfl⟩
            rw [hpe] at hp
            rw [hqe] at hq
            have hpl := HST.out.lim (List.mem_of_getElem? hp)
            have hql := HLM.out.2 q (List.mem_of_getElem? hq)
            have hMM : MM = 1099511627776 := rfl
            have wp : IntKind.i64.wrap p = p := Rw.wrap_id (by have h1 := OK.out.h2; have h2 := HSH.out; omega)
            have wq : IntKind.i64.wrap q = q := Rw.wrap_id (by omega)
            have hml : n2 = (mixL i (plusL O g) O).length := by rw [mix_len, HI.out.len]
            have hmr : n2 = (mixL i (lessL l g) (List.replicate n2 0)).length := by rw [mix_len, List.length_replicate]
            have HN5 : Hid (Own eI 3 go (wr.setCell ⟨go, i, none⟩ (.int .i64 p)).drew (.slice (some ⟨go, 0, none⟩) n2 n2) (mixL (i + 1) (plusL O g) O)) := Lib.hid (by
              have h1 := HO5.out.set hml i p
              rw [mix_set i (plusL O g) O (by rw [plus_len (by rw [HGL.out, HI.out.len])]) hp] at h1
              exact h1.drew)
            have HU5 : Hid (Own eI 3 gq (wr.setCell ⟨go, i, none⟩ (.int .i64 p)).drew (.slice (some ⟨gq, 0, none⟩) n2 n2) (mixL i (lessL l g) (List.replicate n2 0))) := Lib.hid ((HT5.out.other (p := ⟨go, i, none⟩) (by have := HGG.out.1; simp [Value.ownBlock]; omega) _).drew)
            have HV5 : Hid (Off (fun x => x = go ∨ x = gq) w10 (wr.setCell ⟨go, i, none⟩ (.int .i64 p)).drew) := Lib.hid ((HF5.out.set (p := ⟨go, i, none⟩) (Or.inl (Or.inl rfl)) _).drew)
            have HQ5 := Lib.hid hq
            have ci : wr.cell? ⟨go, i, none⟩ = some (.int .i64 x) := HO5.out.cell ((mix_at i (plusL O g) O).trans hx)
            have fi := HO5.out.warm hml i
            have j1 : (i : Int) < (n2 : Int) := by omega
            have j2 : (0 : Int) ≤ (i : Int) := by omega
            have HZ5 := Lib.hid (And.intro hz hy)
            have HMR := Lib.hid hmr
            clear hx hy hz hp hq hpl hql hMM hml hmr e6 hb3 hb4
            subst hA3
            subst hA4
            go_wp2_with fail
            go_region
            generalize (World.setCell _ _ _).drew = wx at *
            clear e5 ci fi
            obtain ⟨b3', o3', hA3, hb3, e5⟩ := Fibre.cl_at (cl_off C10.out HV5.out N10.out) HZ5.out.1
            cases hA3
            obtain ⟨b4', o4', hA4, hb4, e6⟩ := Fibre.cl_at (cl_off L10.out HV5.out M10.out) HZ5.out.2
            cases hA4
            have y1 := (cell_off (i := 1) HV5.out J10.out.1.1 J10.out.1.2).trans X10.out.1
            have y2 := (cell_off (i := off + k) HV5.out J10.out.2.1 J10.out.2.2).trans X10.out.2
            have fq := HU5.out.warm HMR.out i
            have cq : wx.cell? ⟨gq, i, none⟩ = some (.int .i64 0) := HU5.out.cell ((mix_at i (lessL l g) (List.replicate n2 0)).trans (by rw [List.getElem?_replicate, if_pos (by omega)]))
            have HN6 : Hid (Own eI 3 go (wx.setCell ⟨gq, i, none⟩ (.int .i64 q)).drew (.slice (some ⟨go, 0, none⟩) n2 n2) (mixL (i + 1) (plusL O g) O)) := Lib.hid ((HN5.out.other (p := ⟨gq, i, none⟩) (by have := HGG.out.1; simp [Value.ownBlock]; omega) _).drew)
            have HU6 : Hid (Own eI 3 gq (wx.setCell ⟨gq, i, none⟩ (.int .i64 q)).drew (.slice (some ⟨gq, 0, none⟩) n2 n2) (mixL (i + 1) (lessL l g) (List.replicate n2 0))) := Lib.hid (by
              have h1 := HU5.out.set HMR.out i q
              rw [mix_set i (lessL l g) (List.replicate n2 0) (by rw [less_len (by rw [HGL.out, HL.out.2]), HL.out.2, List.length_replicate]) HQ5.out] at h1
              exact h1.drew)
            have HV6 : Hid (Off (fun x => x = go ∨ x = gq) w10 (wx.setCell ⟨gq, i, none⟩ (.int .i64 q)).drew) := Lib.hid ((HV5.out.set (p := ⟨gq, i, none⟩) (Or.inl (Or.inr rfl)) _).drew)
            clear hb3 hb4
            go_wp2_with fail
            go_region
            go_wp2_with fail
            go_roundw
            case rel => exact ⟨i + 1, by omega, by go_num, HN6.out, HU6.out, HV6.out⟩
            case measure => simp [RowKit.intOf]; omega
          · obtain rfl : n2 = i := by omega
            have HN7 : Hid (Own eI 3 go wr (.slice (some ⟨go, 0, none⟩) n2 n2) (plusL O g)) := Lib.hid (by
              have h1 := HO5.out
              rw [mix_all n2 (plusL O g) O (by rw [plus_len (by rw [HGL.out, HI.out.len])]) (by rw [HI.out.len]; exact Nat.le_refl _)] at h1
              exact h1)
            have HU7 : Hid (Own eI 3 gq wr (.slice (some ⟨gq, 0, none⟩) n2 n2) (lessL l g)) := Lib.hid (by
              have h1 := HT5.out
              rw [mix_all n2 (lessL l g) (List.replicate n2 0) (by rw [less_len (by rw [HGL.out, HL.out.2]), HL.out.2, List.length_replicate]) (by rw [List.length_replicate]; exact Nat.le_refl _)] at h1
              exact h1)
            have KG := Lib.hid (rr_Sum g G n2 cg HGL.out.symm wr (cl_off C10.out HF5.out N10.out) (by omega) HLM.out.1)
            have KR := Lib.hid fun (W : World) (h : Below wr.heap.size wr W) => rr_Sum (lessL l g) (some ⟨gq, 0, none⟩) n2 n2 (by rw [less_len (by rw [HGL.out, HL.out.2]), HL.out.2]) W (own_cl (HU7.out.on h)).2.2.1 (by omega) HLM.out.2
            obtain ⟨D, hD⟩ : ∃ D, Fibre.sumZ g = D := ⟨_, rfl⟩
            obtain ⟨V, hV⟩ : ∃ V, Fibre.sumZ (lessL l g) = V := ⟨_, rfl⟩
            rw [hD] at KG
            rw [hV] at KR
            have hD2 : sumZ g = D := hD
            have hV2 : sumZ (lessL l g) = V := hV
            rw [hD2, hV2] at HST
            have hs1 := HST.out.s0
            have hs2 := HST.out.sum
            have hs3 := sumZ_nonneg HST.out.nn
            have hs4 : 0 ≤ sumZ g := sumZ_nonneg fun z hz => (HLM.out.1 z hz).1
            rw [hD2] at hs4
            obtain ⟨s2, hse⟩ : ∃ x, s - D = x := ⟨_, rfl⟩
            rw [hse] at HST hs1 hs2
            have ws : IntKind.i64.wrap s2 = s2 := Rw.wrap_id (by have h1 := OK.out.h2; have h2 := HSH.out; have hMM : MM = 1099511627776 := rfl; omega)
            have F11 : Hid (Off (fun x => x = go ∨ x = gq) wc wr) := Lib.hid (Off.before BB.out HF5.out)
            have SS : Hid (∀ x, (x = go ∨ x = gq) → x < go + 2 ∨ wc.heap.size ≤ x) := Lib.hid fun x h => by have h1 := GQ.out; omega
            have R11 := Lib.hid (rowP_off R9.out F11.out SS.out)
            have Q11 := Lib.hid (Q9.out.off F11.out SS.out)
            have G11 := Lib.hid (G9.out.off F11.out (by have h1 := GP.out; have h2 := HGG.out; omega))
            have W11 : Hid (Below go w4 wr) := Lib.hid (W9.out.trans (F11.out.below (by have h1 := Z9.out; omega) (fun x h => by have h2 := HGG.out; omega)))
            have Z11 : Hid (go + 2 ≤ wr.heap.size) := Lib.hid (Nat.le_trans Z9.out F11.out.size)
            have N11 : Hid (∀ g0, (Value.slice A' n5 c5).ownBlock = some g0 → g0 ≠ gq) := Lib.hid fun g0 h => by have h1 := V9.out g0 h; have h2 := GQ.out; omega
            clear hs1 hs2 hs3 hs4 hD hV hD2
            go_wp2_with fail
            refine KG.out.mono ?_
            rintro e w12 ⟨rfl, hb⟩
            have B12 := Lib.hid hb
            clear hb
            go_wp2_with fail
            refine (KR.out _ B12.out).mono ?_
            rintro e w13 ⟨rfl, hb⟩
            have B13 := Lib.hid (bstep B12.out hb)
            clear hb
            have R13 := Lib.hid (R11.out.on B13.out)
            have Q13 := Lib.hid (Q11.out.off (Off.of_below (S := fun _ => False) B13.out) (fun x h => h.elim))
            have G13 := Lib.hid (G11.out.on B13.out)
            have O13 := Lib.hid (HN7.out.on B13.out)
            have T13 := Lib.hid (HU7.out.on B13.out)
            have W13 : Hid (Below go w4 w13) := Lib.hid (W11.out.trans (B13.out.mono (by have := Z11.out; omega)))
            have Z13 : Hid (go + 2 ≤ w13.heap.size) := Lib.hid (Nat.le_trans Z11.out B13.out.size)
            rcases Int.lt_or_le 0 V with hv0 | hv0
            · have dv : decide (0 < V) = true := decide_eq_true hv0
              have HI8 : Hid (PInv n2 S P (k + 1) s2 (plusL O g) (Q ++ [lessL l g])) := Lib.hid (by
                have h1 := HST.out
                rw [if_pos hv0] at h1
                exact h1)
              have B14 : Hid (Below w13.heap.size w13 (w13.alloc (.cells #[.slice (some ⟨gq, 0, none⟩) n2 n2] 29))) := Lib.hid (below_alloc _ _)
              have R14 := Lib.hid (R13.out.on B14.out)
              have Q14 := Lib.hid (Q13.out.off (Off.of_below (S := fun _ => False) B14.out) (fun x h => h.elim))
              have G14 := Lib.hid (G13.out.on B14.out)
              have O14 := Lib.hid (O13.out.on B14.out)
              have T14 := Lib.hid ((T13.out.on B14.out).less HGG.out.2)
              have W14 : Hid (Below go w4 (w13.alloc (.cells #[.slice (some ⟨gq, 0, none⟩) n2 n2] 29))) := Lib.hid (W13.out.trans (B14.out.mono (by have := Z13.out; omega)))
              have D14 : Hid (Rd cP 1 (w13.alloc (.cells #[.slice (some ⟨gq, 0, none⟩) n2 n2] 29)) (some ⟨w13.heap.size, 0, none⟩) [(some ⟨gq, 0, none⟩, n2, n2)]) := Lib.hid (Rw.rd_one cP_len (heap_alloc_new _ _))
              have HRL : Hid (R.length + 1 ≤ 1000000) := Lib.hid (by have h1 := Q13.out.1; have h2 := HI.out.qs; have h3 := HLT.out; have h4 := HN.out; have h5 := OK.out.n2; omega)
              have Z14 : Hid (go + 2 ≤ (w13.alloc (.cells #[.slice (some ⟨gq, 0, none⟩) n2 n2] 29)).heap.size) := Lib.hid (Nat.le_trans Z13.out B14.out.size)
              clear hv0 hV2
              obtain ⟨y0, y1⟩ := G13.out.two
              go_wp2_with (at_builtin; refine append_rows kdP rfl _ _ rfl (.slice A' n5 c5) R rfl R14.out (some ⟨w13.heap.size, 0, none⟩) 1 1 [(some ⟨gq, 0, none⟩, n2, n2)] rfl rfl D14.out HRL.out Z14.out ?_; intro A6 n6 c6 w15 hn6 hr6 hg6 hat6; have R15 := Lib.hid hr6; have HG6 := Lib.hid hg6; have HAT := Lib.hid hat6; clear hn6 hr6 hg6 hat6; refine Hid.out ?_)
              have NB : Hid (∀ x, (Value.slice A' n5 c5).ownBlock = some x → go + 2 ≤ x) := Lib.hid fun x h => (R14.out.lt x h).1
              have G15 := Lib.hid (G14.out.grown HG6.out (fun e => by have h1 := NB.out gp e; have h2 := GP.out; omega))
              have Q15 := Lib.hid (Q14.out.snoc (r := (some ⟨gq, 0, none⟩, n2, n2)) (l := lessL l g) R14.out (by rw [less_len (by rw [HGL.out, HL.out.2]), HL.out.2]) T14.out (fun x hx e => by cases hx; exact N11.out _ e rfl) HG6.out (HAT.out.imp_right fun h => ⟨_, h, Nat.le_refl _⟩))
              have O15 := Lib.hid (O14.out.keep fun x hx => HG6.out.block x (O14.out.lt x hx).2 fun e => by cases hx; have h1 := NB.out go e.symm; omega)
              have W15 : Hid (Below go w4 w15) := Lib.hid (W14.out.trans ((R14.out.below HG6.out Z14.out).mono (by omega)))
              have Z15 : Hid (go + 2 ≤ w15.heap.size) := Lib.hid (Nat.le_trans Z14.out HG6.out.size)
              have FG : Hid (Off (fun x => x = gp) w15 (w15.setCell ⟨gp, 1, none⟩ (.slice A6 n6 c6))) := Lib.hid ((Off.refl (fun x => x = gp) w15).set (p := ⟨gp, 1, none⟩) (Or.inl rfl) _)
              have SG : Hid (∀ x, x = gp → x < go + 2 ∨ w15.heap.size ≤ x) := Lib.hid fun x h => by have := GP.out; omega
              have R16 := Lib.hid (rowP_off R15.out FG.out SG.out)
              have Q16 := Lib.hid (Q15.out.off FG.out SG.out)
              have O16 := Lib.hid (O15.out.other (p := ⟨gp, 1, none⟩) (by have := GP.out; simp [Value.ownBlock]; omega) (.slice A6 n6 c6))
              have G16 : Hid (Rw.Cel (w15.setCell ⟨gp, 1, none⟩ (.slice A6 n6 c6)) gp [.int .i64 hold, .slice A6 n6 c6]) := Lib.hid (G15.out.set 1 _)
              have W16 : Hid (Below go w4 (w15.setCell ⟨gp, 1, none⟩ (.slice A6 n6 c6))) := Lib.hid (Mem.below_set W15.out (p := ⟨gp, 1, none⟩) (by have := GP.out; show go ≤ gp; omega) _)
              have Z16 : Hid (go + 2 ≤ (w15.setCell ⟨gp, 1, none⟩ (.slice A6 n6 c6)).heap.size) := Lib.hid (Nat.le_trans Z15.out FG.out.size)
              refine Lib.hid ?_
              clear y0 y1
              obtain ⟨y0, y1⟩ := G15.out.two
              have fy := G15.out.warm 1
              go_wp2_with fail
              go_roundw
              case rel => exact ⟨k + 1, s2, A6, n6, c6, _, _, _, HLT.out, rfl, rfl, HI8.out, R16.out, Q16.out, O16.out, G16.out, W16.out, Z16.out⟩
              case measure => have := HLT.out; simp [RowKit.intOf]; omega
            · have dv : decide (0 < V) = false := decide_eq_false (by omega)
              have HI8 : Hid (PInv n2 S P (k + 1) s2 (plusL O g) Q) := Lib.hid (by
                have h1 := HST.out
                rw [if_neg (by omega), List.append_nil] at h1
                exact h1)
              clear hv0 hV2
              go_wp2_with fail
              go_roundw
              case rel => exact ⟨k + 1, s2, A', n5, c5, R, Q, _, HLT.out, rfl, rfl, HI8.out, R13.out, Q13.out, O13.out, G13.out, W13.out, Z13.out⟩
              case measure => have := HLT.out; simp [RowKit.intOf]; omega
    · obtain rfl : n = k := by omega
      have HI9 : Hid (outP n1 S P = O ∧ rmnP S P = Q) := Lib.hid (by
        have h1 := HI.out
        rw [← HN.out.1] at h1
        exact h1.end_)
      have KM := Lib.hid (KS.out wr (HM.out.on HB.out))
      clear hge hk he
      go_wp2_with fail
      clear x0 x1
      refine KM.out.mono ?_
      rintro e w10 ⟨rfl, hb⟩
      have B10 := Lib.hid hb
      clear hb
      have R10 := Lib.hid (HR.out.on B10.out)
      have Q10 := Lib.hid (HQ.out.off (Off.of_below (S := fun _ => False) B10.out) (fun x h => h.elim))
      have G10 := Lib.hid (HG.out.on B10.out)
      have O10 := Lib.hid (HO.out.on B10.out)
      have W10 : Hid (Below go w4 w10) := Lib.hid (HW.out.trans (B10.out.mono (by have := HZ.out; omega)))
      have Z10 : Hid (go + 2 ≤ w10.heap.size) := Lib.hid (Nat.le_trans HZ.out B10.out.size)
      go_upto_if 130 with fail
      go_cut [130, 131] from 130 to 138 (fun _ _ wz => ∃ (Af : Option Addr) (nf cf : Nat), Rw.Cel wz gp [.int .i64 hold, .slice Af nf cf] ∧ (newP P m).length = nf ∧ nf ≤ cf ∧ PlsO (go + 2) wz Af (newP P m) ∧ Own eI 3 go wz (.slice (some ⟨go, 0, none⟩) n1 n1) O ∧ Below go w4 wz)
      case first =>
        rcases Int.lt_or_le 0 S with hpos | hnp
        rotate_left
        · have d0 : ¬ 0 < S := by omega
          have HP9 := Lib.hid (Q10.out.insQ.plsO R10.out)
          have HNP : Hid (newP P m = Q) := Lib.hid (by unfold newP; rw [HS.out, if_neg d0, List.append_nil]; exact HI9.out.2)
          clear hnp
          go_wp2_with fail
          go_meet
          case rel => exact ⟨A', n5, c5, G10.out, by rw [HNP.out]; exact HP9.out.1, HP9.out.2.1, by rw [HNP.out]; exact HP9.out.2.2, O10.out, W10.out⟩
        · have d0 : 0 < S := hpos
          have HNP : Hid (newP P m = Q ++ [m]) := Lib.hid (by unfold newP; rw [HS.out, if_pos d0, HI9.out.2])
          have HRL : Hid (R.length + 1 ≤ 1000000) := Lib.hid (by have h1 := Q10.out.1; have h2 := HI.out.qs; have h4 := HN.out; have h5 := OK.out.n2; omega)
          have HY := Lib.hid fun (W : World) (h : Below w10.heap.size w10 W) => And.intro (G10.out.on h).two.2 ((G10.out.on h).warm 1)
          have MM10 := Lib.hid fun (W : World) (h : Below w10.heap.size w10 W) => rd_cl (HM.out.on (bstep (bstep HB.out B10.out) h))
          have H8' : Hid (n' ≤ 1000000) := Lib.hid (by have := H8.out; omega)
          clear hpos
          go_wp2_with fail
          obtain ⟨y0, f0⟩ := HY.out w10 (Below.refl _ _)
          have y3 := (HY.out (w10.alloc (.cells #[] 3)) (below_alloc _ _)).1
          go_region_law ((first
              | (refine step_rows kdI (w10.alloc (.cells #[] 3)) rfl (.tmp 133) (.tmp 134) rfl (.slice (some ⟨w10.heap.size, 0, none⟩) 0 0) [] (by simp [Act.eval]) (Row.empty cI 1 3 w10 (Nat.le_refl _)) (by first | exact drew_below _ | exact Below.refl _ _) M n' c' m HN.out.2.symm (by simp [Act.eval]) (MM10.out _ (by first | exact bstep (below_alloc _ _) (drew_below _) | exact below_alloc _ _)) (by have := H8'.out; simp; omega) (below_alloc _ _).size ?_; intro A6 n6 c6 w11 hn6 hr6 hk6 hg6 hat6; have HO6 : Hid (Own eI 3 w10.heap.size w11 (.slice A6 n6 c6) m) := Lib.hid (by have h1 := own_row hr6; rw [List.nil_append] at h1; exact h1); have HBW : Hid (Below w10.heap.size w10 w11) := (below_alloc w10 _).trans (Row.below (Row.empty cI 1 3 w10 (Nat.le_refl _)) hg6 (below_alloc _ _).size); obtain ⟨y1, f1⟩ := HY.out _ HBW.out; have y4 := (HY.out (w11.alloc (.cells #[.slice A6 n6 c6] 29)) (bstep HBW.out (below_alloc _ _))).1; clear hn6 hr6 hk6 hg6 hat6)
              | (refine step_rows kdP w10 rfl (.tmp 132) (.tmp 136) rfl (.slice A' n5 c5) R (by simp [Act.eval]) R10.out (bstep HBW.out (below_alloc _ _)) (some ⟨w11.heap.size, 0, none⟩) 1 1 [(A6, n6, c6)] rfl (by simp [Act.eval]) (Rw.rd_one cP_len (heap_alloc_new _ _)) HRL.out Z10.out ?_; intro A7 n7 c7 w12 hn7 hr7 hk7 hg7 hat7; have R12 := Lib.hid hr7; have HK7 := Lib.hid hk7; have HG7 := Lib.hid hg7; have G12 := Lib.hid (G10.out.grown hg7 (fun e => by have h1 := (R10.out.lt gp e).1; have h2 := GP.out; omega)); have y2 := G12.out.two.2; have f2 := G12.out.warm 1; clear hn7 hr7 hk7 hg7 hat7)))
          all_goals
            have HNE : Hid (∀ x, (sr (A6, n6, c6)).ownBlock = some x → (Value.slice A' n5 c5).ownBlock ≠ some x) := Lib.hid fun x hx e => by have h1 := (HO6.out.lt x hx).1; have h2 := (R10.out.lt x e).2; omega
            have HB6 : Hid (go + 2 ≤ w10.heap.size ∧ gp = go + 1) := Lib.hid ⟨Z10.out, GP.out⟩
            have QF := Lib.hid (Q10.out.last (r := (A6, n6, c6)) (l := m) (bstep HBW.out (below_alloc _ _)) HK7.out (own_cl HO6.out).1.symm ((HO6.out.alloc _).less HB6.out.1) HNE.out)
            have PF := Lib.hid (QF.out.plsO R12.out)
            have FG : Hid (Off (fun x => x = gp) w12 (w12.setCell ⟨gp, 1, none⟩ (.slice A7 n7 c7))) := Lib.hid ((Off.refl (fun x => x = gp) w12).set (p := ⟨gp, 1, none⟩) (Or.inl rfl) _)
            have SG : Hid (∀ x, x = gp → x < go + 2 ∨ w12.heap.size ≤ x) := Lib.hid fun x h => by have := HB6.out; omega
            have P13 := Lib.hid (PF.out.2.2.off FG.out SG.out)
            have NB : Hid (∀ x, (Value.slice A' n5 c5).ownBlock = some x → go + 2 ≤ x) := Lib.hid fun x h => (R10.out.lt x h).1
            have O12 := Lib.hid (O10.out.keep fun x hx => HG7.out.block x (O10.out.lt x hx).2 fun e => by cases hx; have h1 := NB.out go e.symm; omega)
            have O13 := Lib.hid (O12.out.other (p := ⟨gp, 1, none⟩) (by have := HB6.out; simp [Value.ownBlock]; omega) (.slice A7 n7 c7))
            have W13 : Hid (Below go w4 (w12.setCell ⟨gp, 1, none⟩ (.slice A7 n7 c7))) := Lib.hid (Mem.below_set (W10.out.trans ((R10.out.below HG7.out Z10.out).mono (by omega))) (p := ⟨gp, 1, none⟩) (by have := HB6.out; show go ≤ gp; omega) _)
            have G13 : Hid (Rw.Cel (w12.setCell ⟨gp, 1, none⟩ (.slice A7 n7 c7)) gp [.int .i64 hold, .slice A7 n7 c7]) := Lib.hid (G12.out.set 1 _)
            clear y0 y1 y2 y3 y4 f0 f1 f2
            go_wp2_with fail
            go_meet
            case rel => exact ⟨A7, n7, c7, G13.out, by rw [HNP.out]; exact PF.out.1, PF.out.2.1, by rw [HNP.out]; exact P13.out, O13.out, W13.out⟩
      case rest =>
        obtain ⟨Af, nf, cf, hcel, hlen, hcap, hpl, hout, hb⟩ := hcut
        have GF := Lib.hid hcel
        have LF := Lib.hid (And.intro hlen hcap)
        have PF := Lib.hid hpl
        have OF := Lib.hid hout
        have WF := Lib.hid hb
        have BF := Lib.hid (B4.out.trans (WF.out.mono (show w.heap.size ≤ go by have := H56.out; omega)))
        have DF := Lib.hid (D4.out.below WF.out (by have := H56.out; omega))
        clear hcel hlen hcap hpl hout hb
        obtain ⟨y0, y1⟩ := GF.out.two
        obtain ⟨u0, u1⟩ := DF.out.two
        obtain ⟨v0, v1⟩ := DF.out.warm2
        have he := puE_end HE.out.1 HE.out.2 (by rw [HS.out]; have := HSH.out; omega)
        rw [LF.out.1] at he
        rcases Nat.lt_or_ge 256 nf with hbig | hsm
        · have e1 : puE hold P m = 8 := he.trans (if_pos hbig)
          have HEE := Lib.hid (And.intro e1 (pu_no (by rw [e1]; decide)))
          have d0 : decide ((256 : Int) < (nf : Int)) = true := decide_eq_true (by omega)
          clear hbig e1 he
          go_wp2_with fail
          exact bodyPost_ret (res_pipe3 Try.results19 rfl (DF.out.put2 _ _)) rfl (by rw [HEE.out.1, HEE.out.2.1, HEE.out.2.2.1, HEE.out.2.2.2]; exact PuRes.none_ (Rw.below_put2 BF.out (Nat.le_succ _) _ _))
        · have e1 : puE hold P m = 0 := he.trans (if_neg (by omega))
          have HEE := Lib.hid (And.intro e1 (pu_ok e1))
          have d0 : decide ((256 : Int) < (nf : Int)) = false := decide_eq_false (by omega)
          have HX : Hid (w.heap.size + 1 < go ∧ w.heap.size ≤ go) := Lib.hid (by have := H56.out; omega)
          clear hsm e1 he
          go_wp2_with fail
          exact bodyPost_ret (res_pipe3 Try.results19 rfl (DF.out.put2 _ _)) rfl (by
            rw [HEE.out.1, HEE.out.2.1, HEE.out.2.2.1, HEE.out.2.2.2, HS.out, HK.out, HI9.out.1]
            exact ⟨_, _, _, _, _, _, rfl, LF.out.1, LF.out.2, (own_cl OF.out).1, ((PF.out.far2 (by have := HX.out; omega) _ _).less (by have := HX.out; omega)), ((OF.out.other (p := ⟨w.heap.size + 1, 0, none⟩) (by have := HX.out; simp [Value.ownBlock]; omega) _).other (p := ⟨w.heap.size + 1, 1, none⟩) (by have := HX.out; simp [Value.ownBlock]; omega) _).less HX.out.2, Rw.below_put2 BF.out (Nat.le_succ _) _ _⟩)
end Go.Proofs.Ytihklpkpcnahkaa.Pipe
/- A pipe that came in; great. -/
namespace Go.Proofs.Ytihklpkpcnahkaa.Pipe
open Go.ChangeShapes Go.WideShapes Go.RowKit Go.Lib Go.Joins
open Go.Proofs.Ytihklpkpcnahkaa.Mem (Cl eI Own)
open Go.Proofs.Ytihklpkpcnahkaa.Rw (glt get_lt ret_bool bstep below_drewN below_drew drew_below below_alloc)
set_option linter.unusedVariables false
set_option maxRecDepth 100000

theorem list_all {α : Type} {P : Nat → α → Prop} : ∀ n, (∀ i, i < n → ∃ s, P i s) → ∃ L : List α, L.length = n ∧ ∀ (i : Nat) (s : α), L[i]? = some s → P i s := by
  intro n
  induction n with
  | zero => intro _; exact ⟨[], rfl, fun i s hs => by simp at hs⟩
  | succ n ih =>
    intro h
    obtain ⟨L, hl, hL⟩ := ih fun i hi => h i (by omega)
    obtain ⟨t, ht⟩ := h n (by omega)
    refine ⟨L ++ [t], by simp [hl], fun i u hu => ?_⟩
    have hlt := glt hu
    rw [List.length_append, List.length_singleton] at hlt
    rcases Nat.lt_or_ge i L.length with h1 | h1
    · rw [List.getElem?_append_left h1] at hu; exact hL i u hu
    · obtain rfl : i = n := by omega
      rw [List.getElem?_append_right h1, hl, Nat.sub_self] at hu
      obtain rfl : t = u := by simpa using hu
      exact ht
section
variable {H : Type} {enc : TypeId × Value → H} {w : World} {held : Bool}
/-- A pipe that came in. -/
theorem open_pipe {r : Reach} {b0 : Nat} {v : Value} {d : DataW H} {p : List MemPlace} (hv : Value.okWide Try.prog w r b0 24 v) (h : DataW.Trod enc Try.prog w 0 (fun _ => true) held 24 v d p) :
    ∃ (hold : Int) (A : Option Addr) (c : Nat) (P : List (List Int)), v = .agg #[.int .i64 hold, .slice A P.length c] ∧ Pls w A P ∧ P.length ≤ c ∧ P.length ≤ 9223372036854775807 := by
  obtain ⟨v0, v1, y0, y1, n, rfl, _, _, h0, h1⟩ := Go.Joins.open_agg2 Try.underlying24 (by kernel_rfl) (by kernel_rfl) hv h
  obtain ⟨x0, f0, _, _⟩ := DataW.trod_int Try.underlying3 h0
  simp at f0
  subst f0
  rcases Deep.open_slice1 Try.underlying22 (by kernel_rfl) h1 with ⟨hcs, _⟩ | ⟨a, len, cap, m, k, V, D, Pl, hcs, _, hl, hm, hmm, _, hx⟩
  · simp at hcs
    subst hcs
    exact ⟨x0, none, 0, [], rfl, Pls.nil _ _, Nat.le_refl _, by simp⟩
  · simp at hcs
    subst hcs
    have hmc : m = cap := by simpa using hmm
    subst hmc
    have key : ∀ i, i < len → ∃ l : List Int, ∃ A' c', w.cell? (a.add i) = some (.slice A' l.length c') ∧ Cl eI w A' l ∧ l.length ≤ 9223372036854775807 := by
      intro i hi
      obtain ⟨hc, ht⟩ := hx i (by omega)
      rcases open_ints Try.underlying29 Try.underlying3 (by kernel_rfl) ht with ⟨hcs, _⟩ | ⟨x, l, c', zs, hcs, _, hl', hm', hz, _, hcell, hwz⟩
      · have hV : V i = .slice none 0 0 := by simpa using hcs
        exact ⟨[], none, 0, by rw [hc, hV]; rfl, Cl.nil _ _ _, by simp⟩
      · have hV : V i = .slice (some x) l c' := by simpa using hcs
        have hz' : zs.length = c' := by simpa using hz
        have hlen : (zs.take l).length = l := by rw [List.length_take]; omega
        refine ⟨zs.take l, some x, c', by rw [hc, hV, hlen], fun j z hj => ?_, by rw [hlen]; unfold maxLen at hm'; omega⟩
        have hjn : j < l := by
          rcases Nat.lt_or_ge j l with h1 | h1
          · exact h1
          · rw [List.getElem?_take, if_neg (by omega)] at hj; cases hj
        rw [List.getElem?_take, if_pos hjn] at hj
        obtain ⟨b, off, rfl, hcb⟩ := ints_at hcell (by omega)
        have hci := hcb j (by omega)
        have ez : zs.getD j 0 = z := by rw [List.getD_eq_getElem?_getD, hj]; rfl
        rw [ez] at hci
        exact ⟨b, off, rfl, World.block_lt_of_cell? w _ hci, hci⟩
    obtain ⟨M, rfl, hM⟩ := list_all len key
    refine ⟨x0, some a, m, M, rfl, fun k l hk => ?_, hl, by unfold maxLen at hm; omega⟩
    obtain ⟨A', c', hc, h2, h3⟩ := hM k l hk
    obtain ⟨b, off, spot⟩ := a
    obtain ⟨_, _, h0, _⟩ := hM 0 _ (List.getElem?_eq_getElem (Nat.lt_of_le_of_lt (Nat.zero_le k) (glt hk)))
    have e : ∀ x : Addr, x.add 0 = x := fun x => by unfold Addr.add; rw [if_pos rfl]
    rw [e] at h0
    have hspot : spot = none := World.cell?_spot h0
    subst hspot
    rw [Addr.add_lit] at hc
    exact ⟨b, off, A', c', rfl, World.block_lt_of_cell? w _ hc, hc, h2, h3⟩
end
/-- What the laws leave out. -/
def grtP (P : List (List Int)) : Bool := decide (300 < P.length) || P.any fun l => decide (20 < l.length)
theorem grt_no {P : List (List Int)} (h : grtP P = false) : P.length ≤ 300 ∧ ∀ l ∈ P, l.length ≤ 20 := by
  unfold grtP at h
  rw [Bool.or_eq_false_iff] at h
  refine ⟨by have := of_decide_eq_false h.1; omega, fun l hl => ?_⟩
  have := List.any_eq_false.mp h.2 l hl
  simpa using this
set_option maxHeartbeats 1600000 in
theorem law_great (hold : Int) (P : List (List Int)) (A : Option Addr) (n c : Nat) (hn : P.length = n) (w : World) (ha : Pls w A P) (h2 : n ≤ 9223372036854775807) :
    Calls Try.prog 11 #[.agg #[.int .i64 hold, .slice A n c]] w fun e w' => e = .returned (.bool (grtP P)) ∧ Below w.heap.size w w' := by
  have HA := Lib.hid ha
  have HN := Lib.hid hn
  obtain ⟨g, hg⟩ : ∃ g, grtP P = g := ⟨_, rfl⟩
  rw [hg]
  have HG := Lib.hid hg
  clear ha hn hg
  go_enter Try.func11, Try.ntmps11
  go_upto_region 1 with fail
  obtain ⟨w0, hw0⟩ : ∃ W, w.alloc (.cells #[.int .i64 hold, .slice A n c] 24) = W := ⟨_, rfl⟩
  have C0 : Hid (Rw.Cel w0 w.heap.size [.int .i64 hold, .slice A n c]) := hw0 ▸ Rw.Cel.new w [_, _] _
  have B0 : Hid (Below w.heap.size w w0) := hw0 ▸ below_alloc _ _
  rw [hw0]
  clear hw0
  obtain ⟨x0, x1⟩ := C0.out.two
  rcases Nat.lt_or_ge 300 n with h3 | h3
  · have d3 : decide ((300 : Int) < (n : Int)) = true := decide_eq_true (by omega)
    obtain rfl : g = true := by rw [← HG.out]; unfold grtP; rw [decide_eq_true (by have := HN.out; omega)]; rfl
    clear h3
    go_wp2_with fail
    go_ret
    exact ⟨rfl, B0.out⟩
  have d3 : decide ((300 : Int) < (n : Int)) = false := decide_eq_false (by omega)
  go_wp2_with fail
  clear x0 x1
  go_loopw [3] (fun i wr => ∃ k : Nat, k ≤ n ∧ i = .int .i64 k ∧ (∀ (j : Nat) (u : List Int), j < k → P[j]? = some u → u.length ≤ 20) ∧ Below w0.heap.size w0 wr) (fun i _ => n - (RowKit.intOf i).toNat)
  case atStart => exact ⟨0, Nat.zero_le _, rfl, fun j u h => absurd h (by omega), Below.refl _ _⟩
  case round =>
    obtain ⟨k, hk, rfl, hall, hbel⟩ := hrel
    have HL := Lib.hid hall
    have HW := Lib.hid hbel
    have HB := Lib.hid (bstep B0.out hbel)
    clear hall hbel
    obtain ⟨x0, x1⟩ := (C0.out.on HW.out).two
    rcases Nat.lt_or_ge k n with hlt | hge
    · obtain ⟨l, hl⟩ := get_lt (L := P) (k := k) (by have := HN.out; omega)
      obtain ⟨b, off, A1, n1, c1, rfl, hb, e0, hl1, hcl, hm1⟩ := pls_at (HA.out.on HB.out) hl
      have HLK := Lib.hid (And.intro hl hl1)
      have i1 : (k : Int) < (n : Int) := by omega
      have i2 : (0 : Int) ≤ (k : Int) := by omega
      clear hl hl1 hcl hb
      rcases Nat.lt_or_ge 20 n1 with h4 | h4
      · have d4 : decide ((20 : Int) < (n1 : Int)) = true := decide_eq_true (by omega)
        obtain rfl : g = true := by
          rw [← HG.out]
          unfold grtP
          rw [Bool.or_eq_true]
          exact Or.inr (List.any_eq_true.mpr ⟨l, List.mem_of_getElem? HLK.out.1, decide_eq_true (by rw [HLK.out.2]; exact h4)⟩)
        clear h4
        go_wp2_with fail
        go_ret
        exact ⟨rfl, HB.out⟩
      · have d4 : decide ((20 : Int) < (n1 : Int)) = false := decide_eq_false (by omega)
        have H4 := Lib.hid h4
        clear h4
        go_wp2_with fail
        go_roundw
        case rel =>
          refine ⟨k + 1, by omega, by go_num, fun j u hj hu => ?_, HW.out⟩
          rcases Nat.lt_or_ge j k with h5 | h5
          · exact HL.out j u h5 hu
          · obtain rfl : j = k := by omega
            rw [HLK.out.1] at hu
            cases hu
            rw [HLK.out.2]; exact H4.out
        case measure => simp [RowKit.intOf]; omega
    · obtain rfl : n = k := by omega
      obtain rfl : g = false := by
        rw [← HG.out]
        unfold grtP
        rw [Bool.or_eq_false_iff]
        refine ⟨decide_eq_false (by have := HN.out; omega), List.any_eq_false.mpr fun l hl => ?_⟩
        obtain ⟨j, hj⟩ := List.mem_iff_getElem?.mp hl
        have := HL.out j l (by have := glt hj; have := HN.out; omega) hj
        simpa using this
      go_wp2_with fail
      go_ret
      exact ⟨rfl, HB.out⟩
end Go.Proofs.Ytihklpkpcnahkaa.Pipe
/- The program's contracts, as one hypothesis of the laws' walks. -/
namespace Go.Proofs.Ytihklpkpcnahkaa.Pipe
open Go.ChangeShapes Go.WideShapes Go.RowKit Go.Lib
open Go.Proofs.Ytihklpkpcnahkaa.Mem (Cl eI Own)
set_option linter.unusedVariables false
/-- What the program's functions do, and that the examples hold. -/
structure PiKit : Prop where
  check : ∀ (hold : Int) (P : List (List Int)) (A : Option Addr) (n c : Nat) (hn : P.length = n) (w : World) (ha : Pls w A P) (h2 : n ≤ 9223372036854775807),
    Calls Try.prog 13 #[.agg #[.int .i64 hold, .slice A n c]] w fun e w' => e = .returned (.int .i64 (ckP hold P)) ∧ Below w.heap.size w w'
  age : ∀ (hold k : Int) (P : List (List Int)) (A : Option Addr) (n c : Nat) (hn : P.length = n) (hc : n ≤ c) (w : World) (ha : Pls w A P) (h2 : n ≤ 9223372036854775807),
    Calls Try.prog 23 #[.agg #[.int .i64 hold, .slice A n c], .int .i64 k] w fun e w' => e = .returned (.tuple #[.int .i64 (agV hold P k), .int .i64 (agE hold P k)]) ∧ Below w.heap.size w w'
  new : ∀ (m : List Int) (A : Option Addr) (n c : Nat) (hn : m.length = n) (w : World) (ha : Cl eI w A m) (h2 : n ≤ 9223372036854775807),
    Calls Try.prog 15 #[.slice A n c] w (PRes w (nwE m) (nwH m) (nwP m))
  content : ∀ (hold : Int) (P : List (List Int)) (A : Option Addr) (n c : Nat) (hn : P.length = n) (w : World) (ha : Pls w A P) (h2 : n ≤ 9223372036854775807),
    Calls Try.prog 21 #[.agg #[.int .i64 hold, .slice A n c]] w (LRes w (ckP hold P) (coL hold P))
  push : ∀ (hold : Int) (P : List (List Int)) (m : List Int) (A M : Option Addr) (n c n' c' : Nat) (hn : P.length = n) (hc : n ≤ c) (hn' : m.length = n') (w : World) (ha : Pls w A P) (hm : Cl eI w M m) (h1 : n ≤ 9223372036854775807) (h2 : n' ≤ 9223372036854775807),
    Calls Try.prog 18 #[.agg #[.int .i64 hold, .slice A n c], .slice M n' c'] w (PuRes w (puE hold P m) (puH hold P m) (puP hold P m) (puO hold P m))
  awake : ∀ w : World, Calls Try.prog 12 #[] w fun e w' => e = .returned (.bool true) ∧ Below w.heap.size w w'
end Go.Proofs.Ytihklpkpcnahkaa.Pipe
