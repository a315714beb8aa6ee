/- Compose of the reference. -/
import Derived.Test.YtnblpooimgpgoaaIsoX
import Derived.Test.YtnblpooimgpgoaaIsoR
namespace Go.Proofs.Ytnblpooimgpgoaa.Iso
open Go.ChangeShapes Go.WideShapes Go.RowKit Go.Lib Go.Proofs.Ytnblpooimgpgoaa.Rw
set_option linter.unusedVariables false
set_option maxRecDepth 100000

/-! ### A composition piece by piece -/
section
variable {a b : List Rn} {r o : Rn}
theorem exR_zero (x : Int) (bk : Bool) : exR (x, 0, bk) = [] := rfl
theorem exR_more {x j n : Int} {bk : Bool} (hj : 0 ≤ j) (hn : 0 ≤ n) : exR (x, j + n, bk) = exR (x, j, bk) ++ exR (imI x bk j, n, bk) := by
  have h := exR_split (r := (x, j + n, bk)) (n := j) hj (by simp only; omega)
  have e : cutR (x, j + n, bk) j.toNat (j + n - j) = (imI x bk j, n, bk) := by
    unfold cutR
    rw [← imI_im (x, j + n, bk) hj, show j + n - j = n by omega]
  rw [h]
  simp only
  rw [e]
/-- The images that are done, and what they are mapped to. -/
def Dn (a b : List Rn) (k : Nat) (r : Rn) (j : Int) (Y : List Int) : Prop := comp (ex (a.take k) ++ exR (r.1, j, r.2.2)) b = some Y
theorem Dn.start {k : Nat} {Y : List Int} (h : comp (ex (a.take k)) b = some Y) (r : Rn) : Dn a b k r 0 Y := by
  unfold Dn; rw [exR_zero, List.append_nil]; exact h
theorem Dn.step {k : Nat} {j n : Int} {Y Z : List Int} (h : Dn a b k r j Y) (hj : 0 ≤ j) (hn : 0 ≤ n) (hc : comp (exR (imI r.1 r.2.2 j, n, r.2.2)) b = some Z) : Dn a b k r (j + n) (Y ++ Z) := by
  unfold Dn at h ⊢
  rw [exR_more hj hn, ← List.append_assoc, comp_append, h, hc]; rfl
theorem Dn.done {k : Nat} {Y : List Int} (h : Dn a b k r r.2.1 Y) (hr : a[k]? = some r) : comp (ex (a.take (k + 1))) b = some Y := by
  rw [ex_take hr]; exact h
/-- Bounds of what is done. -/
theorem comp_bound {a' : List Rn} (ha : ∀ r ∈ a', gd r = true) (hl : a'.length ≤ 256) (hs : lenM a' ≤ 17592186044416) (hb : Vd b) {Y : List Int} (h : comp (ex a') b = some Y) : (∀ x ∈ Y, 0 ≤ x ∧ x < ml) ∧ (Y.length : Int) ≤ 1108307720798208 ∧ (nfL Y).length ≤ 70000 := by
  have h1 := comp_range h hb
  have h2 := ex_len (m := a') fun r hr => gd_pos (ha r hr)
  have hfit : ∀ r ∈ a', gd r = true ∧ imT r.1 r.2.1 r.2.2 ≤ lenM b := fun r hr => by
    refine ⟨ha r hr, ?_⟩
    rcases Int.lt_or_le (lenM b) (imT r.1 r.2.1 r.2.2) with h3 | h3
    · rw [comp_out hb.all hr (ha r hr) h3] at h; cases h
    · exact h3
  have h4 := cps_comp hb.all a' hfit
  rw [h] at h4
  have h5 : Y = ex (cps a' b) := Option.some.inj h4
  have h6 := nfL_len (m := cps a' b) fun s hs => gd_pos (cps_gd hb.all a' s hs)
  have h7 := cps_len a' b
  have h8 : a'.length * b.length ≤ 256 * 256 := Nat.mul_le_mul hl hb.n
  refine ⟨h1.1, by omega, ?_⟩
  rw [h5]; omega
theorem Dn.bound {k : Nat} {j : Int} {Y : List Int} (h : Dn a b k r j Y) (ha : Vd a) (hb : Vd b) (hr : a[k]? = some r) (hj : 0 ≤ j) (hj2 : j ≤ r.2.1) : (∀ x ∈ Y, 0 ≤ x ∧ x < ml) ∧ (Y.length : Int) ≤ 1108307720798208 ∧ (nfL Y).length ≤ 70000 := by
  have hk := glt hr
  have hn := ha.n
  have hle := lenM_le ha.pos (k + 1)
  have hle0 := lenM_le ha.pos k
  have hal := ha.len
  unfold ml at hal
  rw [lenM_take hr] at hle
  have hgr := ha.all r (List.mem_of_getElem? hr)
  by_cases h0 : j = 0
  · subst h0
    unfold Dn at h
    rw [exR_zero, List.append_nil] at h
    exact comp_bound (gd_take ha.all k) (by rw [List.length_take]; omega) (by omega) hb h
  · have e : ex (a.take k) ++ exR (r.1, j, r.2.2) = ex (a.take k ++ [(r.1, j, r.2.2)]) := by rw [ex_append, ex_one]
    unfold Dn at h
    rw [e] at h
    refine comp_bound (a' := a.take k ++ [(r.1, j, r.2.2)]) (fun s hs => ?_) (by rw [List.length_append, List.length_take, List.length_singleton]; omega) (by rw [lenM_append]; simp only [lenM]; omega) hb h
    rcases List.mem_append.mp hs with h1 | h1
    · exact gd_take ha.all k s h1
    · simp at h1
      subst h1
      have := gd_cut (k := 0) (n := j) hgr (by omega) (by omega)
      unfold cutR at this
      rw [im_zero] at this
      exact this
theorem gd_of {r : Rn} (h1 : 1 ≤ r.2.1) (h2 : ∀ x ∈ exR r, 0 ≤ x ∧ x < ml) (h3 : r.2.1 ≤ ml) : gd r = true := by
  have h0 := h2 (im r 0) (mem_exR.mpr ⟨0, by omega, rfl⟩)
  have h4 := h2 (im r (r.2.1.toNat - 1)) (mem_exR.mpr ⟨r.2.1.toNat - 1, by omega, rfl⟩)
  rw [im_zero] at h0
  rw [gd_iff]
  unfold im at h4
  cases hb : r.2.2 with
  | true => rw [hb, if_pos rfl] at h4; exact ⟨h1, h3, h0.1, h0.2, fun _ => by omega, fun h => by cases h⟩
  | false => rw [hb, if_neg (by simp)] at h4; exact ⟨h1, h3, h0.1, h0.2, fun h => (by cases h), fun _ => by omega⟩
theorem rd_off {S : Nat → Prop} {w w' : World} {A : Option Addr} {L : List Rn} (h : Rns w A L) (ho : Off S w w') (hS : ∀ (k : Nat) (r : Rn), L[k]? = some r → ∀ (b off : Nat), A = some ⟨b, off, none⟩ → ¬ S b) : Rns w' A L := fun k z hz => by
  obtain ⟨b, off, e, hlt, h0⟩ := h k z hz
  exact ⟨b, off, e, Nat.lt_of_lt_of_le hlt ho.size, fun j u hu => (World.cell?_of_block (a := ⟨b, off + (k * 3 + j), none⟩) (ho.block b hlt (hS k z hz b off e))).trans (h0 j u hu)⟩
theorem imI_add (x : Int) (b : Bool) (j n : Int) : imI (imI x b j) b n = imI x b (j + n) := by unfold imI; cases b <;> simp <;> omega
/-- One piece: what it is mapped to. -/
theorem piece {i : Nat} {x n : Int} {bk B : Bool} (hb : Vd b) (ho : b[i]? = some o) (h0 : lenM (b.take i) ≤ x) (h1 : x < lenM (b.take i) + o.2.1) (hn : 1 ≤ n) (hB : B = if bk then !o.2.2 else o.2.2) (hup : bk = false → n ≤ o.2.1 - (x - lenM (b.take i))) (hdn : bk = true → n ≤ x - lenM (b.take i) + 1) :
    comp (exR (x, n, bk)) b = some (exR (nrmR (imI o.1 o.2.2 (x - lenM (b.take i)), n, B))) ∧ gd (nrmR (imI o.1 o.2.2 (x - lenM (b.take i)), n, B)) = true := by
  have h := comp_seg hb.pos ho h0 h1 hn hup hdn
  rw [← imI_im o (by omega), ← hB] at h
  have hr := (comp_range (a := [(x, n, bk)]) (by rw [ex_one]; exact h) hb).1
  have hol := gd_lim (hb.all o (List.mem_of_getElem? ho))
  refine ⟨by rw [nrmR_ex]; exact h, gd_nrm (gd_of hn hr ?_)⟩
  cases bk with
  | false => have := hup rfl; simp only; omega
  | true => have := hdn rfl; simp only; omega
end

set_option maxHeartbeats 6400000 in
theorem ref_Compose (a b : List Rn) (A B : Option Addr) (c d : Nat) (w : World) (ha : Rns w A a) (hb : Rns w B b) (hm : a.length ≤ 9223372036854775807) (hm2 : b.length ≤ 9223372036854775807) :
    Calls Try.prog 31 #[.slice A a.length c, .slice B b.length d] w (Res (cmpL a b) (cmpE a b) w) := by
  have HA := Lib.hid ha
  have HB := Lib.hid hb
  clear ha hb
  obtain ⟨E, hE⟩ : ∃ E, cmpE a b = E := ⟨_, rfl⟩
  obtain ⟨M, hM⟩ : ∃ M, cmpL a b = M := ⟨_, rfl⟩
  rw [hE, hM]
  have HE := Lib.hid hE
  have HM := Lib.hid hM
  clear hE hM
  obtain ⟨N1, hN1⟩ : ∃ N, a.length = N := ⟨_, rfl⟩
  obtain ⟨N2, hN2⟩ : ∃ N, b.length = N := ⟨_, rfl⟩
  have HC1 : Hid (∀ W, Rns W A a → Calls Try.prog 15 #[.slice A N1 c] W fun e w' => e = .returned (.int .i64 (eC a)) ∧ Below W.heap.size W w') := fun W h1 => by
    rw [← hN1]; exact ref_Check a A c W h1 hm
  have HC2 : Hid (∀ W, Rns W B b → Calls Try.prog 15 #[.slice B N2 d] W fun e w' => e = .returned (.int .i64 (eC b)) ∧ Below W.heap.size W w') := fun W h1 => by
    rw [← hN2]; exact ref_Check b B d W h1 hm2
  rw [hN1, hN2]
  have HN1 := Lib.hid hN1
  have HN2 := Lib.hid hN2
  clear hN1 hN2 hm hm2
  go_enter Try.func31, Try.ntmps31
  go_wp2_with fail
  refine (HC1.out w HA.out).mono ?_
  rintro e w1 ⟨rfl, hb1⟩
  have HB1 := Lib.hid hb1
  clear hb1
  by_cases hz : eC a = 0
  · have HZ := Lib.hid hz
    rw [hz]
    clear hz
    go_wp2_with fail
    refine (HC2.out w1 (HB.out.on HB1.out)).mono ?_
    rintro e w2 ⟨rfl, hb2⟩
    have HB2 := Lib.hid (bstep HB1.out hb2)
    clear hb2
    by_cases hz2 : eC b = 0
    · have HZ2 : Hid (bothE a b = 0) := Lib.hid (by unfold bothE; rw [if_pos HZ.out, hz2])
      have HV := Lib.hid (both_zero HZ2.out)
      rw [hz2]
      clear hz2
      have hn1 : N1 ≤ 256 := by rw [← HN1.out]; exact HV.out.1.n
      have hn2 : N2 ≤ 256 := by rw [← HN2.out]; exact HV.out.2.n
      have HPl : Hid (∀ (x : Int) W, Rns W B b → (-9223372036854775808 ≤ x ∧ x ≤ 9223372036854775807) → Calls Try.prog 49 #[.slice B N2 d, .int .i64 x] W fun e w' => Plc b x e ∧ Below W.heap.size W w') := fun x W h hx => by
        rw [← HN2.out]; exact ref_place b B d x W h HV.out.2.all (by have := HV.out.2.n; omega) hx
      go_wp2_with fail
      go_loopg [8, 9] N1 (fun gk v i wr => ∃ (k : Nat) (Y : List Int) (A' : Option Addr) (n' c' : Nat), k ≤ N1 ∧ N1 - k ≤ gk ∧ i = .int .i64 k ∧ v = .slice A' n' c' ∧ comp (ex (a.take k)) b = some Y ∧ (nfL Y).length = n' ∧ n' ≤ c' ∧ Rns wr A' (nfL Y) ∧ Below w.heap.size w wr)
      case atStart => exact ⟨0, [], none, 0, 0, Nat.zero_le _, Nat.le_refl _, rfl, rfl, rfl, rfl, Nat.le_refl _, Rd.nil _ _ _ _, HB2.out⟩
      case round =>
        obtain ⟨k, Y, A', n', c', hk, hgk, rfl, rfl, hcomp, hn, hc, hrd, hbel⟩ := hrel
        have HGK := Lib.hid hgk
        have HCo := Lib.hid hcomp
        have HN := Lib.hid hn
        have HC := Lib.hid hc
        have HR := Lib.hid hrd
        have HBr := Lib.hid hbel
        clear hgk hcomp hn hc hrd hbel
        rcases Nat.lt_or_ge k N1 with hlt | hge
        · obtain ⟨⟨ra, rn, rb⟩, hr⟩ := get_lt (L := a) (k := k) (by rw [HN1.out]; exact hlt)
          have hgr := HV.out.1.all _ (List.mem_of_getElem? hr)
          have HGr := Lib.hid hgr
          have HRk := Lib.hid hr
          obtain ⟨b0, off, hA0, hb0, d0, d1, d2⟩ := rd_at (HA.out.on HBr.out) hr
          subst hA0
          simp only at d0 d1 d2
          obtain ⟨g1, g2, g3, g4, g5, g6⟩ := gd_iff.mp hgr
          simp only at g1 g2 g3 g4
          have HGB : Hid (1 ≤ rn ∧ rn ≤ ml ∧ 0 ≤ ra ∧ ra < ml) := ⟨g1, g2, g3, g4⟩
          have i1 : (k : Int) < (N1 : Int) := by omega
          have i2 : (0 : Int) ≤ (k : Int) := by omega
          have hz0 : imI ra rb 0 = ra := by unfold imI; cases rb <;> simp
          clear hr hgr g1 g2 g3 g4 g5 g6
          obtain ⟨G, hG⟩ : ∃ G, wr.heap.size = G := ⟨_, rfl⟩
          go_upto_region 12 with fail
          generalize hw3 : wr.alloc (.cells #[.int .i64 ra, .int .i64 rn, .bool rb] 48) = w3
          have HB3 : Hid (Below wr.heap.size wr w3) := hw3 ▸ below_alloc _ _
          have HR3 : Hid (Cel w3 G [.int .i64 (imI ra rb 0), .int .i64 (rn - 0), .bool rb]) := by rw [hz0, Int.sub_zero, ← hG]; exact hw3 ▸ Cel.new _ _ _
          have HBw3 := Lib.hid (bstep HBr.out HB3.out)
          have HRd3 := Lib.hid (HR.out.on HB3.out)
          have HGl : Hid (w.heap.size ≤ G) := Lib.hid (by rw [← hG]; exact HBr.out.size)
          have HDn : Hid (Dn a b k (ra, rn, rb) 0 Y) := Dn.start HCo.out _
          have HAp : Hid (∀ (k : Nat) (r : Rn), (nfL Y)[k]? = some r → ∀ (b off : Nat), A' = some ⟨b, off, none⟩ → ¬ b = G) := fun i s hs b off e h => by have := rd_old HR.out i s hs b off e; omega
          clear hw3 d0 d1 d2 hb0 hG hz0
          obtain ⟨wq, rfl⟩ : ∃ W, W = wr := ⟨wr, rfl⟩
          go_wp2_with fail
          go_loopg [8] (rn.toNat) (fun gj v wr => ∃ (j : Int) (Y : List Int) (A' : Option Addr) (n' c' : Nat), 0 ≤ j ∧ j < rn ∧ (rn - j).toNat ≤ gj ∧ v = .slice A' n' c' ∧ Dn a b k (ra, rn, rb) j Y ∧ (nfL Y).length = n' ∧ n' ≤ c' ∧ Rns wr A' (nfL Y) ∧ (∀ (k : Nat) (r : Rn), (nfL Y)[k]? = some r → ∀ (b off : Nat), A' = some ⟨b, off, none⟩ → ¬ b = G) ∧ Cel wr G [.int .i64 (imI ra rb j), .int .i64 (rn - j), .bool rb] ∧ Below w.heap.size w wr)
          case atStart => exact ⟨0, Y, A', n', c', Int.le_refl _, by have := HGB.out.1; omega, by rw [Int.sub_zero]; exact Nat.le_refl _, rfl, HDn.out, HN.out, HC.out, HRd3.out, HAp.out, HR3.out, HBw3.out⟩
          case round =>
            obtain ⟨j, Y, A', n', c', hj0, hj1, hgj, rfl, hdn, hn, hc, hrd, hap, hcel, hbel⟩ := hrel
            have HJ : Hid (0 ≤ j ∧ j < rn) := ⟨hj0, hj1⟩
            have HGJ := Lib.hid hgj
            have HD := Lib.hid hdn
            have HNn := Lib.hid hn
            have HCc := Lib.hid hc
            have HRr := Lib.hid hrd
            have HAA := Lib.hid hap
            have HCe := Lib.hid hcel
            have HBb := Lib.hid hbel
            have himr : 0 ≤ imI ra rb j ∧ imI ra rb j < ml := by
              rw [imI_im (ra, rn, rb) hj0]
              exact gd_im HGr.out (by simp only; omega)
            have hxin : imI ra rb j ∈ ex a := by
              rw [imI_im (ra, rn, rb) hj0]
              exact mem_ex.mpr ⟨_, List.mem_of_getElem? HRk.out, mem_exR.mpr ⟨j.toNat, by simp only; omega, rfl⟩⟩
            have HXi := Lib.hid hxin
            have HXb := Lib.hid himr
            obtain ⟨m, hm⟩ : ∃ m, rn - j = m := ⟨_, rfl⟩
            have hm1 : 1 ≤ m := by omega
            obtain ⟨x, hx⟩ : ∃ x, imI ra rb j = x := ⟨_, rfl⟩
            rw [hm, hx] at HCe
            rw [hx] at HXi HXb
            have HMj := Lib.hid hm
            have HXx := Lib.hid hx
            have hpl := HPl.out x wr (HB.out.on HBb.out) (by have := HXb.out; unfold ml at this; omega)
            have HPx := Lib.hid hpl
            have HM1 := Lib.hid hm1
            have z0 : decide (0 < m) = true := decide_eq_true (by omega)
            clear hj0 hj1 hgj hdn hn hc hrd hap hcel hbel himr hxin hm hx hpl hm1
            obtain ⟨r0, r1, r2⟩ := HCe.out.three
            go_wp2_with fail
            refine HPx.out.mono ?_
            rintro e w4 ⟨hp, hb4⟩
            have HB4 := Lib.hid hb4
            have HBw4 := Lib.hid (bstep HBb.out hb4)
            have HCe4 := Lib.hid (HCe.out.on hb4)
            clear hb4 r0 r1 r2
            rcases hp with ⟨ho, rfl⟩ | ⟨i', ⟨oa, on, ob⟩, at_, ho, h1, h2, hat, rfl⟩
            · have hnone : comp (ex a) b = none := comp_bad HXi.out ((atM_none HV.out.2.pos).mpr ho)
              obtain rfl : E = 21 := by rw [← HE.out]; unfold cmpE; rw [if_pos HZ2.out, hnone]
              obtain rfl : M = [] := by rw [← HM.out]; unfold cmpL; rw [if_pos HZ2.out, hnone]
              clear ho hnone
              go_wp2_with fail
              go_ret2
              exact Res.err HBw4.out
            · simp only at h2
              have hol := glt ho
              rw [HN2.out] at hol
              have hgo := HV.out.2.all _ (List.mem_of_getElem? ho)
              obtain ⟨q1, q2, q3, q4, -, -⟩ := gd_iff.mp hgo
              simp only at q1 q2 q3 q4
              obtain ⟨bo, offo, hB0, hbo, e0, e1, e2⟩ := rd_at (HB.out.on HBw4.out) ho
              subst hB0
              simp only at e0 e1 e2
              have HO := Lib.hid ho
              have HIn : Hid (lenM (b.take i') ≤ x ∧ x < lenM (b.take i') + on ∧ at_ = x - lenM (b.take i')) := ⟨h1, h2, hat⟩
              have i3 : (i' : Int) < (N2 : Int) := by omega
              have i4 : (0 : Int) ≤ (i' : Int) := by omega
              have i5 : decide ((i' : Int) < 0) = false := decide_eq_false (by omega)
              have HOb : Hid (1 ≤ on ∧ on ≤ ml ∧ 0 ≤ oa ∧ oa < ml ∧ 0 ≤ at_ ∧ at_ < on) := (⟨q1, q2, q3, q4, by omega, by omega⟩ : 1 ≤ on ∧ on ≤ ml ∧ 0 ≤ oa ∧ oa < ml ∧ 0 ≤ at_ ∧ at_ < on)
              have HIo := Lib.hid fun W => ref_image oa on ob at_ W (by unfold big; unfold ml at *; omega) (by unfold big; unfold ml at *; omega)
              have wo : IntKind.i64.wrap (on - at_) = on - at_ := wrap_id (by unfold ml at *; omega)
              have wa : IntKind.i64.wrap (at_ + 1) = at_ + 1 := wrap_id (by unfold ml at *; omega)
              clear ho h1 h2 hat hgo q1 q2 q3 q4 hol
              obtain ⟨r0, r1, r2⟩ := HCe4.out.three
              go_upto_region 17 with fail
              generalize hw5 : w4.alloc (.cells #[.int .i64 oa, .int .i64 on, .bool ob] 48) = w5
              have HB5 : Hid (Below w4.heap.size w4 w5) := hw5 ▸ below_alloc _ _
              have HO5 : Hid (Cel w5 w4.heap.size [.int .i64 oa, .int .i64 on, .bool ob]) := hw5 ▸ Cel.new _ _ _
              have HCe5 := Lib.hid (HCe4.out.on HB5.out)
              clear hw5 e0 e1 e2 hbo r0 r1 r2
              obtain ⟨r0, r1, r2⟩ := HCe5.out.three
              obtain ⟨x0, x1, x2⟩ := HO5.out.three
              go_cut [14] from 52 to 58 (fun v wz => v = .int .i64 (min m (on - at_)) ∧ w5 = wz)
              case first =>
                go_wp2_with fail
                all_goals
                  go_meet
                  case rel => exact ⟨congrArg (Value.int .i64) (by omega), rfl⟩
              case rest =>
                obtain ⟨rfl, rfl⟩ := hcut
                obtain ⟨n1, hn1⟩ : ∃ n, min m (on - at_) = n := ⟨_, rfl⟩
                have HN1m := Lib.hid hn1
                rw [hn1]
                clear hn1
                obtain ⟨n, hn⟩ : ∃ n, (if rb then min m (at_ + 1) else n1) = n := ⟨_, rfl⟩
                obtain ⟨B', hB'⟩ : ∃ B', (if rb then !ob else ob) = B' := ⟨_, rfl⟩
                have HNf : Hid (1 ≤ n ∧ n ≤ m ∧ (rb = false → n ≤ on - at_) ∧ (rb = true → n ≤ at_ + 1)) := by
                  have h1 := HM1.out
                  have h2 := HOb.out
                  have h3 := HN1m.out
                  rw [← hn]
                  cases rb with
                  | true => rw [if_pos rfl]; exact ⟨by omega, by omega, (fun h => by cases h), (fun _ => by omega)⟩
                  | false => rw [if_neg (by simp)]; exact ⟨by omega, by omega, (fun _ => by omega), (fun h => by cases h)⟩
                have HNn1 := Lib.hid hn
                have HBB := Lib.hid hB'
                clear hn hB'
                go_upto_if 62 with fail
                go_cut [14, 15] from 63 to 70 (fun v1 v2 wz => v1 = .int .i64 n ∧ v2 = .bool B' ∧ w5 = wz)
                case first =>
                  cases rb with
                  | true =>
                    go_wp2_with fail
                    all_goals
                      go_meet
                      case rel => exact ⟨congrArg (Value.int .i64) (by have h := HNn1.out; simp only [if_true] at h; omega), congrArg Value.bool HBB.out, rfl⟩
                  | false =>
                    go_wp2_with fail
                    go_meet
                    case rel => exact ⟨congrArg (Value.int .i64) HNn1.out, congrArg Value.bool HBB.out, rfl⟩
                case rest =>
                  obtain ⟨rfl, rfl, rfl⟩ := hcut
                  have hpc := piece (b := b) (o := (oa, on, ob)) (i := i') (x := x) (n := n) (bk := rb) (B := B') HV.out.2 HO.out HIn.out.1 HIn.out.2.1 HNf.out.1 HBB.out.symm (by rw [← HIn.out.2.2]; exact HNf.out.2.2.1) (by rw [← HIn.out.2.2]; exact HNf.out.2.2.2)
                  rw [← HIn.out.2.2] at hpc
                  obtain ⟨X, hX⟩ : ∃ X, imI oa ob at_ = X := ⟨_, rfl⟩
                  simp only at hpc
                  rw [hX] at hpc HIo
                  obtain ⟨D, hD⟩ : ∃ D, (B' && decide (1 < n)) = D := ⟨_, rfl⟩
                  have hnr : nrmR (X, n, B') = (X, n, D) := by rw [← hD]; rfl
                  rw [hnr] at hpc
                  have HGp := Lib.hid hpc.2
                  have hd2 := HD.out.step (n := n) HJ.out.1 (by have := HNf.out; omega) (by rw [HXx.out]; exact hpc.1)
                  have HD2 := Lib.hid hd2
                  obtain ⟨Y2, hY2⟩ : ∃ Y2, Y ++ exR (X, n, D) = Y2 := ⟨_, rfl⟩
                  have hbd := HD.out.bound HV.out.1 HV.out.2 HRk.out HJ.out.1 (by have := HJ.out; simp only; omega)
                  have HMo : Hid (∀ W, Rns W A' (nfL Y) → Calls Try.prog 62 #[.slice A' n' c', .agg #[.int .i64 X, .int .i64 n, .bool D]] W (ResF (nfL Y2) W)) := fun W h => by
                    have h2 := ref_moreF Y A' c' (X, n, D) W h (by omega) hbd.1 hbd.2.1 HGp.out
                    rw [HNn.out, hY2] at h2
                    exact h2
                  rw [hY2] at HD2
                  obtain ⟨N6, hN6⟩ : ∃ N, (nfL Y2).length = N := ⟨_, rfl⟩
                  have HN6 := Lib.hid hN6
                  have HDD0 := Lib.hid hD
                  have HB45 := HB5
                  have HRr5 : Hid (Rns w5 A' (nfL Y)) := HRr.out.on (bstep HB4.out HB5.out)
                  have hGl5 := HCe5.out.lt
                  have HG5 := Lib.hid hGl5
                  clear hpc hX hnr hd2 hbd hY2 hN6 hD hGl5
                  go_upto_region 22 with fail
                  go_cut [8] from 71 to 82 (fun v wz => ∃ (A7 : Option Addr) (c7 : Nat), v = .slice A7 N6 c7 ∧ Mp wz A7 c7 (nfL Y2) ∧ (∀ (b off : Nat), A7 = some ⟨b, off, none⟩ → ¬ b = G) ∧ Below w5.heap.size w5 wz)
                  case first =>
                    cases B' with
                    | true =>
                      have hD : decide (1 < n) = D := HDD0.out
                      go_wp2_with fail
                      refine (HIo.out _).mono ?_
                      rintro e w6 ⟨rfl, hb6⟩
                      have HB6 := Lib.hid hb6
                      have HRr6 := Lib.hid (HRr5.out.on hb6)
                      clear hb6 r0 r1 r2 x0 x1 x2
                      go_wp2_with fail
                      refine (HMo.out w6 HRr6.out).mono ?_
                      rintro e w7 ⟨A7, c7, rfl, hr7, hf7, hb7⟩
                      have HR7 := Lib.hid hr7
                      have HB7 := Lib.hid (bstep HB6.out hb7)
                      have HF7 : Hid (∀ (b off : Nat), A7 = some ⟨b, off, none⟩ → ¬ b = G) := fun b off e h => by have h1 := hf7 b off e; have h2 := HB6.out.size; have h3 := HG5.out; omega
                      rw [HN6.out]
                      clear hr7 hf7 hb7
                      go_wp2_with fail
                      go_meet
                      case rel => exact ⟨A7, c7, rfl, HR7.out, HF7.out, HB7.out⟩
                    | false =>
                      obtain rfl : D = false := HDD0.out.symm
                      go_wp2_with fail
                      refine (HIo.out _).mono ?_
                      rintro e w6 ⟨rfl, hb6⟩
                      have HB6 := Lib.hid hb6
                      have HRr6 := Lib.hid (HRr5.out.on hb6)
                      clear hb6 r0 r1 r2 x0 x1 x2
                      go_wp2_with fail
                      refine (HMo.out w6 HRr6.out).mono ?_
                      rintro e w7 ⟨A7, c7, rfl, hr7, hf7, hb7⟩
                      have HR7 := Lib.hid hr7
                      have HB7 := Lib.hid (bstep HB6.out hb7)
                      have HF7 : Hid (∀ (b off : Nat), A7 = some ⟨b, off, none⟩ → ¬ b = G) := fun b off e h => by have h1 := hf7 b off e; have h2 := HB6.out.size; have h3 := HG5.out; omega
                      rw [HN6.out]
                      clear hr7 hf7 hb7
                      go_wp2_with fail
                      go_meet
                      case rel => exact ⟨A7, c7, rfl, HR7.out, HF7.out, HB7.out⟩
                  case rest =>
                    obtain ⟨A7, c7, rfl, hr7, hf7, hb7⟩ := hcut
                    have HB7 := Lib.hid (bstep HB45.out hb7)
                    have HBw7 := Lib.hid (bstep HBw4.out HB7.out)
                    have HCe7 := Lib.hid (HCe4.out.on HB7.out)
                    have HR7 := Lib.hid hr7
                    have HF7 := Lib.hid hf7
                    clear hr7 hf7 hb7 r0 r1 r2 x0 x1 x2
                    obtain ⟨w7, rfl⟩ : ∃ W, W = wc := ⟨wc, rfl⟩
                    obtain ⟨r0, r1, r2⟩ := HCe7.out.three
                    by_cases hnm : n = m
                    · have s1 : (n == m) = true := by rw [hnm]; exact beq_self_eq_true m
                      have HDD : Hid (comp (ex (a.take (k + 1))) b = some Y2) := by
                        have h := HD2.out
                        rw [show j + n = rn by have := HMj.out; omega] at h
                        exact h.done HRk.out
                      clear hnm
                      go_wp2_with fail
                      go_roundg (N1 - (k + 1))
                      case measure => have := HGK.out; omega
                      case rel => exact ⟨k + 1, Y2, A7, N6, c7, by omega, Nat.le_refl _, by go_num, rfl, HDD.out, HN6.out, HN6.out ▸ HR7.out.2, HR7.out.1, HBw7.out⟩
                    · have s1 : (n == m) = false := beq_false_of_ne hnm
                      have HNm : Hid (n < m) := (by have := HNf.out; omega : n < m)
                      have hxb := HXb.out
                      have hmb : m ≤ ml := by have := HMj.out; have := HGB.out; have := HJ.out; omega
                      have hnb := HNf.out
                      have HIr := Lib.hid fun W => ref_image x m rb n W (by unfold big; unfold ml at *; omega) (by unfold big; unfold ml at *; omega)
                      have wm : IntKind.i64.wrap (m - n) = m - n := wrap_id (by unfold ml at *; omega)
                      obtain ⟨X2, hX2⟩ : ∃ X2, imI x rb n = X2 := ⟨_, rfl⟩
                      rw [hX2] at HIr
                      have HX2 : Hid (imI ra rb (j + n) = X2) := by rw [← hX2, ← HXx.out, imI_add]; exact Lib.hid rfl
                      have HM2 : Hid (rn - (j + n) = m - n) := (by have := HMj.out; omega : rn - (j + n) = m - n)
                      clear hnm hxb hmb hnb hX2
                      go_upto_region 24 with fail
                      obtain ⟨f0, f1, f2⟩ := HCe7.out.warm3
                      go_region_with ((go_at_call 50; (refine (HIr.out _).mono ?_); rintro e w8 ⟨rfl, hb8⟩; (have HC8 := (by first | exact Lib.hid (HCe7.out.on (bstep (drew_below _) hb8)) | exact Lib.hid (HCe7.out.on hb8) : Hid (Cel w8 G [.int .i64 x, .int .i64 m, .bool rb]))); (obtain ⟨t0, t1, t2⟩ := HC8.out.three); (obtain ⟨u0, u1, u2⟩ := HC8.out.warm3)))
                      all_goals
                        have HC9 := Lib.hid (HC8.out.put3 (.int .i64 X2) (.int .i64 (m - n)) (.bool rb))
                        have HO9 : Hid (Off (fun y => y = G) w7 (((w8.setCell ⟨G, 0, none⟩ (.int .i64 X2)).setCell ⟨G, 1, none⟩ (.int .i64 (m - n))).setCell ⟨G, 2, none⟩ (.bool rb))) := (by first | exact Lib.hid (((Off.refl (fun y => y = G) w7).drew.then_below hb8).trans (off_put3 _ _ _ _ _) fun x e => Or.inl e) | exact Lib.hid (((Off.refl (fun y => y = G) w7).then_below hb8).trans (off_put3 _ _ _ _ _) fun x e => Or.inl e) : Hid (Off (fun y => y = G) w7 (((w8.setCell ⟨G, 0, none⟩ (.int .i64 X2)).setCell ⟨G, 1, none⟩ (.int .i64 (m - n))).setCell ⟨G, 2, none⟩ (.bool rb))))
                        have HR9 : Hid (Rns (((w8.setCell ⟨G, 0, none⟩ (.int .i64 X2)).setCell ⟨G, 1, none⟩ (.int .i64 (m - n))).setCell ⟨G, 2, none⟩ (.bool rb)) A7 (nfL Y2)) := rd_off HR7.out.1 HO9.out fun i s hs b off e => HF7.out b off e
                        have HB9 : Hid (Below w.heap.size w (((w8.setCell ⟨G, 0, none⟩ (.int .i64 X2)).setCell ⟨G, 1, none⟩ (.int .i64 (m - n))).setCell ⟨G, 2, none⟩ (.bool rb))) := HBw7.out.trans (HO9.out.below HBw7.out.size fun y hy => by rw [hy]; exact HGl.out)
                        clear r0 r1 r2 f0 f1 f2 t0 t1 t2 u0 u1 u2 hb8
                        go_wp2_with fail
                        go_roundg (m - n).toNat
                        case measure => have h1 := HGJ.out; have h2 := HNf.out; have h3 := HMj.out; have h4 := HNm.out; omega
                        case rel => exact ⟨j + n, Y2, A7, N6, c7, by have := HJ.out; have := HNf.out; omega, by have := HNm.out; have := HMj.out; omega, by rw [HM2.out]; exact Nat.le_refl _, rfl, HD2.out, HN6.out, HN6.out ▸ HR7.out.2, HR9.out, fun i s hs b off e => HF7.out b off e, by rw [HX2.out, HM2.out]; exact HC9.out, HB9.out⟩
        · obtain rfl : k = N1 := by omega
          have hcomp := HCo.out
          rw [← HN1.out, List.take_length] at hcomp
          have HE2 : Hid (fulE (nfL Y) = E) := by rw [← HE.out]; unfold cmpE; rw [if_pos HZ2.out, hcomp]; exact Lib.hid rfl
          have HM2 : Hid (fulL (nfL Y) = M) := by rw [← HM.out]; unfold cmpL; rw [if_pos HZ2.out, hcomp]; exact Lib.hid rfl
          have hbd := comp_bound HV.out.1.all HV.out.1.n (by have := HV.out.1.len; unfold ml at this; omega) HV.out.2 hcomp
          have HLi := Lib.hid (ref_limited (nfL Y) A' c' wr HR.out (by rw [HN.out]; exact HC.out) (by omega))
          rw [HE2.out, HM2.out, HN.out] at HLi
          clear hcomp hbd
          go_wp2_with fail
          refine HLi.out.mono ?_
          rintro e w8 ⟨A8, c8, rfl, hr8, hb8⟩
          have HR8 := Lib.hid hr8
          have HB8 := Lib.hid (bstep HBr.out hb8)
          obtain ⟨N8, hN8⟩ : ∃ N, M.length = N := ⟨_, rfl⟩
          rw [hN8]
          have HN8 := Lib.hid hN8
          clear hr8 hb8 hN8
          go_wp2_with fail
          go_ret2
          exact ⟨A8, c8, ret_map HN8.out.symm rfl, HR8.out, HB8.out⟩
    · obtain ⟨z1, z2⟩ := ne_tests hz2
      have hbe : bothE a b = eC b := if_pos HZ.out
      obtain rfl : eC b = E := by rw [← HE.out]; unfold cmpE; rw [hbe, if_neg hz2]
      obtain rfl : M = [] := by rw [← HM.out]; unfold cmpL; rw [hbe, if_neg hz2]
      clear hz2 hbe
      go_wp2_with fail
      go_ret2
      exact Res.err HB2.out
  · obtain ⟨z1, z2⟩ := ne_tests hz
    have hbe : bothE a b = eC a := if_neg hz
    obtain rfl : eC a = E := by rw [← HE.out]; unfold cmpE; rw [hbe, if_neg hz]
    obtain rfl : M = [] := by rw [← HM.out]; unfold cmpL; rw [hbe, if_neg hz]
    clear hz hbe
    go_wp2_with fail
    go_ret2
    exact Res.err HB1.out
#print axioms ref_Compose
end Go.Proofs.Ytnblpooimgpgoaa.Iso
