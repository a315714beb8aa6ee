/- Forward of the reference. -/
import Derived.Test.YtkbnhmgladkojaaAlignF
import Derived.Test.YtkbnhmgladkojaaAlignG
namespace Go.Proofs.Ytkbnhmgladkojaa.Align
open Go.ChangeShapes Go.WideShapes Go.RowKit Go.Lib Go.Proofs.Ytkbnhmgladkojaa.Rw
set_option linter.unusedVariables false
set_option maxRecDepth 100000

theorem ret_two {x y a b : Int} (h : x = a) (h2 : y = b) : Ending.returned (.tuple #[.int .i64 x, .int .i64 y]) = .returned (.tuple #[.int .i64 a, .int .i64 b]) := by rw [h, h2]
theorem ne_tests {E : Int} (h : ¬ E = 0) : (E == 0) = false ∧ (E != 0) = true := by
  have : (E == 0) = false := beq_false_of_ne h
  exact ⟨this, by rw [bne, this]; rfl⟩
/-- Accepted marks, by their places: the first m, the last q at N. -/
structure Ac (L : List Mk) (m q : Mk) (N : Nat) : Prop where
  len : L.length = N + 1
  fst : L[0]? = some m
  lst : L[N]? = some q
  two : 1 ≤ N
  few : N ≤ 63
  all : ∀ x ∈ L, 0 ≤ x.1 ∧ x.1 ≤ 17179869184 ∧ 0 ≤ x.2 ∧ x.2 ≤ 17179869184
  pair : ∀ (k : Nat) (p n : Mk), L[k]? = some p → L[k + 1]? = some n → Aft p n
  fs : fsA L = m
  la : laA L = q
  seg : ∀ (k : Nat) (p n : Mk), L[k]? = some p → L[k + 1]? = some n → ∀ a : Int, p.1 ≤ a → a ≤ n.1 → valA L a = seg p n a
theorem end_at : ∀ (r : List Mk) (m : Mk), (m :: r)[r.length]? = some (end_ m r)
  | [], m => rfl
  | n :: r, m => by rw [List.length_cons, List.getElem?_cons_succ]; exact end_at r n
theorem Ac.of {L : List Mk} (h : chkA L = 0) : ∃ m q N, Ac L m q N := by
  obtain ⟨m, r, rfl, hv⟩ := Va.of h
  refine ⟨m, end_ m r, r.length, ⟨rfl, rfl, end_at r m, hv.two, hv.few, hv.all, fun k p n hp hn => gro_pair hv.gro hp hn, rfl, rfl, fun k p n hp hn a h0 h1 => ?_⟩⟩
  rw [List.getElem?_cons_succ] at hn
  exact fwd_at hv.gro hp hn h0 h1
theorem Ac.at_ {L : List Mk} {m q : Mk} {N k : Nat} (h : Ac L m q N) {p : Mk} (hp : L[k]? = some p) : 0 ≤ p.1 ∧ p.1 ≤ 17179869184 ∧ 0 ≤ p.2 ∧ p.2 ≤ 17179869184 := h.all p (List.mem_of_getElem? hp)
theorem fwdE_in {L : List Mk} {m q : Mk} {N : Nat} (hz : chkA L = 0) (h : Ac L m q N) {a : Int} (h0 : m.1 ≤ a) (h1 : a ≤ q.1) : fwdE L a = 0 ∧ fwdV L a = valA L a := by
  have e : fwdE L a = 0 := by unfold fwdE; rw [if_pos hz, h.fs, h.la, if_pos ⟨h0, h1⟩]
  exact ⟨e, by unfold fwdV; rw [if_pos e]⟩
theorem fwdE_out {L : List Mk} {m q : Mk} {N : Nat} (hz : chkA L = 0) (h : Ac L m q N) {a : Int} (h0 : a < m.1 ∨ q.1 < a) : fwdE L a = 1 ∧ fwdV L a = 0 := by
  have e : fwdE L a = 1 := by unfold fwdE; rw [if_pos hz, h.fs, h.la, if_neg (by omega)]
  exact ⟨e, by unfold fwdV; rw [e, if_neg (by decide)]⟩
theorem fwdE_bad {L : List Mk} (hz : ¬ chkA L = 0) (a : Int) : fwdE L a = chkA L ∧ fwdV L a = 0 := by
  have e : fwdE L a = chkA L := by unfold fwdE; rw [if_neg hz]
  exact ⟨e, by unfold fwdV; rw [e, if_neg hz]⟩
theorem seg_lim {p n : Mk} (h : Aft p n) (hp : 0 ≤ p.2 ∧ p.2 ≤ 17179869184) (hn : n.2 ≤ 17179869184) {a : Int} (h0 : p.1 ≤ a) (h1 : a ≤ n.1) : 0 ≤ (a - p.1) * (n.2 - p.2) / (n.1 - p.1) ∧ (a - p.1) * (n.2 - p.2) / (n.1 - p.1) ≤ 17179869184 := by
  have := seg_in h h0 h1
  unfold seg at this
  omega

theorem two_al {w : World} (p n : Mk) : Cel (((w.alloc (.cells #[.int .i64 p.1, .int .i64 p.2] 41)).alloc (.cells #[.int .i64 n.1, .int .i64 n.2] 41)).drew) w.heap.size [.int .i64 p.1, .int .i64 p.2] ∧ Cel (((w.alloc (.cells #[.int .i64 p.1, .int .i64 p.2] 41)).alloc (.cells #[.int .i64 n.1, .int .i64 n.2] 41)).drew) (w.heap.size + 1) [.int .i64 n.1, .int .i64 n.2] ∧ Below w.heap.size w (((w.alloc (.cells #[.int .i64 p.1, .int .i64 p.2] 41)).alloc (.cells #[.int .i64 n.1, .int .i64 n.2] 41)).drew) :=
  ⟨((Cel.new w [.int .i64 p.1, .int .i64 p.2] _).alloc _).drew, (Cel.new_at _ [.int .i64 n.1, .int .i64 n.2] _ (by simp)).drew, below_drew (bstep (below_alloc _ _) (below_alloc _ _))⟩
set_option maxHeartbeats 3200000 in
theorem ref_Forward (L : List Mk) (A : Option Addr) (c : Nat) (a : Int) (w : World) (ha : Mks w A L) (hm : L.length ≤ 9223372036854775807) :
    Calls Try.prog 16 #[.slice A L.length c, .int .i64 a] w fun e w' => e = .returned (.tuple #[.int .i64 (fwdV L a), .int .i64 (fwdE L a)]) ∧ Below w.heap.size w w' := by
  have HA := Lib.hid ha
  clear ha
  obtain ⟨V, hV⟩ : ∃ V, fwdV L a = V := ⟨_, rfl⟩
  obtain ⟨E, hE⟩ : ∃ E, fwdE L a = E := ⟨_, rfl⟩
  rw [hV, hE]
  have HV := Lib.hid hV
  have HE := Lib.hid hE
  clear hV hE
  go_enter Try.func16, Try.ntmps16
  go_wp2_with fail
  refine (ref_Check L A c w HA.out hm).mono ?_
  rintro e w1 ⟨rfl, hb1⟩
  have HB1 := Lib.hid hb1
  clear hb1
  by_cases hz : chkA L = 0
  · obtain ⟨m, q, N, hac⟩ := Ac.of hz
    have HZ := Lib.hid hz
    have HC := Lib.hid hac
    have hN := hac.len
    have h1N := hac.two
    have hNf := hac.few
    obtain ⟨b, off, rfl, hb⟩ := rd_ne (HA.out.on HB1.out) (show 0 < L.length by omega)
    obtain ⟨c0, c1⟩ := at_k (HA.out.on HB1.out) hac.fst
    obtain ⟨c2, c3⟩ := at_k (HA.out.on HB1.out) hac.lst
    rw [Nat.zero_mul, Nat.add_zero] at c0 c1
    have wN : IntKind.i64.wrap (N : Int) = (N : Int) := wrap_id (by omega)
    have i0 : (0 : Int) < (N : Int) + 1 := by omega
    have i1 : (N : Int) < (N : Int) + 1 := by omega
    rw [hz]
    clear hz
    rcases Int.lt_or_le a m.1 with h0 | h0
    · obtain ⟨e1, e2⟩ := fwdE_out HZ.out hac (Or.inl h0)
      obtain rfl : E = 1 := by rw [← HE.out]; exact e1
      obtain rfl : V = 0 := by rw [← HV.out]; exact e2
      have d0 : decide (a < m.1) = true := decide_eq_true h0
      clear h0 e1 e2 hac
      go_wp2_with fail
      go_ret2
      exact ⟨rfl, HB1.out⟩
    rcases Int.lt_or_le q.1 a with h1 | h1
    · obtain ⟨e1, e2⟩ := fwdE_out HZ.out hac (Or.inr h1)
      obtain rfl : E = 1 := by rw [← HE.out]; exact e1
      obtain rfl : V = 0 := by rw [← HV.out]; exact e2
      have d0 : decide (a < m.1) = false := decide_eq_false (by omega)
      have d1 : decide (q.1 < a) = true := decide_eq_true h1
      clear h0 h1 e1 e2 hac
      go_wp2_with fail
      go_ret2
      exact ⟨rfl, HB1.out⟩
    obtain ⟨e1, e2⟩ := fwdE_in HZ.out hac h0 h1
    obtain rfl : E = 0 := by rw [← HE.out]; exact e1
    have HV2 : Hid (V = valA L a) := by rw [← HV.out]; exact e2
    have d0 : decide (a < m.1) = false := decide_eq_false (by omega)
    have d1 : decide (q.1 < a) = false := decide_eq_false (by omega)
    have H0 := Lib.hid h0
    have H1 := Lib.hid h1
    clear h0 h1 e1 e2 hac
    go_wp2_with fail
    clear d0 d1 c0 c1 c2 c3
    go_loopw [7] (fun k wr => ∃ K : Nat, k = .int .i64 K ∧ K + 1 ≤ N ∧ (∀ p : Mk, L[K]? = some p → p.1 ≤ a) ∧ w1 = wr) (fun k _ => N - (intOf k).toNat)
    case atStart => exact ⟨0, rfl, h1N, fun p hp => by rw [HC.out.fst] at hp; cases hp; exact H0.out, rfl⟩
    case round =>
      obtain ⟨K, rfl, hK, hP, rfl⟩ := hrel
      obtain ⟨p, hp⟩ := get_lt (show K < L.length by omega)
      obtain ⟨n, hn⟩ := get_lt (show K + 1 < L.length by omega)
      have hpa := hP p hp
      have HP := Lib.hid hp
      have HN := Lib.hid hn
      obtain ⟨c0, c1⟩ := at_k (HA.out.on HB1.out) hp
      obtain ⟨c2, c3⟩ := at_k (HA.out.on HB1.out) hn
      have i2 : (K : Int) < (N : Int) + 1 := by omega
      have i3 : (K : Int) + 1 < (N : Int) + 1 := by omega
      have i4 : (0 : Int) ≤ (K : Int) + 1 := by omega
      have w2 : IntKind.i64.wrap ((K : Int) + 1) = (K : Int) + 1 := wrap_id (by omega)
      clear hP hp hn
      rcases Int.lt_or_le n.1 a with hlt | hge
      · have d1 : decide (n.1 < a) = true := decide_eq_true hlt
        have HK2 : Hid (K + 2 ≤ N) := Lib.hid (by
          rcases Nat.lt_or_ge (K + 1) N with h | h
          · exact h
          · have : K + 1 = N := by omega
            rw [this, HC.out.lst] at HN
            have := HN.out; cases this
            have := H1.out; omega)
        have HNl := Lib.hid hlt
        clear hlt hpa
        go_wp2_with fail
        go_roundw
        case rel => exact ⟨K + 1, by go_num, HK2.out, fun x hx => by rw [HN.out] at hx; cases hx; exact Int.le_of_lt HNl.out, trivial⟩
        case measure => have := HK2.out; simp [intOf]; omega
      · have d1 : decide (n.1 < a) = false := decide_eq_false (by omega)
        have hpair := HC.out.pair K p n HP.out HN.out
        have hpl := HC.out.at_ HP.out
        have hnl := HC.out.at_ HN.out
        have hsl := seg_lim hpair ⟨hpl.2.2.1, hpl.2.2.2⟩ hnl.2.2.2 hpa hge
        have hseg : V = seg p n a := by rw [HV2.out]; exact HC.out.seg K p n HP.out HN.out a hpa hge
        obtain ⟨X, hX⟩ : ∃ X, a - p.1 = X := ⟨_, rfl⟩
        obtain ⟨Y, hY⟩ : ∃ Y, n.2 - p.2 = Y := ⟨_, rfl⟩
        obtain ⟨Z, hZ⟩ : ∃ Z, n.1 - p.1 = Z := ⟨_, rfl⟩
        have ha1 := hpair.1
        have ha2 := hpair.2
        have HS := Lib.hid fun W => ref_Scale X Y Z W (by omega) (by omega) (by omega) (by omega) (by omega) (by omega)
        have wX : IntKind.i64.wrap X = X := wrap_id (by omega)
        have wY : IntKind.i64.wrap Y = Y := wrap_id (by omega)
        have wZ : IntKind.i64.wrap Z = Z := wrap_id (by omega)
        unfold seg at hseg
        rw [hX, hY, hZ] at hseg hsl
        obtain ⟨Q, hQ⟩ : ∃ Q, X * Y / Z = Q := ⟨_, rfl⟩
        rw [hQ] at HS hseg hsl
        have wV : IntKind.i64.wrap V = V := wrap_id (by omega)
        replace hseg := hseg.symm
        clear hge hpa hpair hpl hnl hsl ha1 ha2 hQ
        go_upto_region 9 with fail
        go_region
        · generalize hw3 : World.drew _ = w3
          obtain ⟨k1, k2, k3⟩ := two_al (w := w1) p n
          rw [hw3] at k1 k2 k3
          have HB3 := Lib.hid (bstep HB1.out k3)
          obtain ⟨x0, x1⟩ := k1.two
          obtain ⟨x2, x3⟩ := k2.two
          clear k1 k2 k3 hw3 c0 c1 c2 c3
          go_wp2_with fail
          go_quiet ((go_at_call 31; exact Calls.quiet_of_same ((HS.out _).mono fun _ _ k => ⟨k.1, k.2.symm⟩)))
          go_wp2_with fail
          go_ret2
          exact ⟨rfl, below_drewN HB3.out _⟩
        · generalize hw3 : World.drew _ = w3
          obtain ⟨k1, k2, k3⟩ := two_al (w := w1) n p
          rw [hw3] at k1 k2 k3
          have HB3 := Lib.hid (bstep HB1.out k3)
          obtain ⟨x0, x1⟩ := k1.two
          obtain ⟨x2, x3⟩ := k2.two
          clear k1 k2 k3 hw3 c0 c1 c2 c3
          go_wp2_with fail
          go_quiet ((go_at_call 31; exact Calls.quiet_of_same ((HS.out _).mono fun _ _ k => ⟨k.1, k.2.symm⟩)))
          go_wp2_with fail
          go_ret2
          exact ⟨rfl, below_drewN HB3.out _⟩
  · obtain ⟨z1, z2⟩ := ne_tests hz
    obtain ⟨e1, e2⟩ := fwdE_bad hz a
    obtain rfl : chkA L = E := by rw [← HE.out]; exact e1.symm
    obtain rfl : V = 0 := by rw [← HV.out]; exact e2
    clear hz e1 e2
    go_wp2_with fail
    go_ret2
    exact ⟨rfl, HB1.out⟩
#print axioms ref_Forward
end Go.Proofs.Ytkbnhmgladkojaa.Align
