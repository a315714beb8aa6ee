/- Several texts in one: StableB, StableC, StableD, StableE, StableF. -/
import Derived.Test.YtagjimdplmimoaaGreatPk4
import Derived.Test.YtagjimdplmimoaaGreatPk1
import Derived.BigRegion
/- A stable sort in memory: the row that is sorted, exchanges, rotations. -/
namespace Go.Proofs.YtagjimdplmimoaaGreat.Stable
open Go.ChangeShapes Go.WideShapes Go.RowKit Go.Lib Go.Proofs.YtagjimdplmimoaaGreat.Mem
set_option linter.unusedVariables false
set_option maxRecDepth 100000

/-- The values of what lies where. -/
def vals (v : Nat → Int) (s : Nat → Nat) (n : Nat) : List Int := (List.range n).map fun k => v (s k)
theorem vals_len (v : Nat → Int) (s : Nat → Nat) (n : Nat) : (vals v s n).length = n := by simp [vals]
theorem vals_at (v : Nat → Int) (s : Nat → Nat) {n i : Nat} (h : i < n) : (vals v s n)[i]? = some (v (s i)) := by
  unfold vals; rw [List.getElem?_map, List.getElem?_range h]; rfl
theorem vals_sw (v : Nat → Int) (s : Nat → Nat) {n i j : Nat} (hi : i < n) (hj : j < n) : ((vals v s n).set i (v (s j))).set j (v (s i)) = vals v (sw s i j) n := by
  apply List.ext_getElem?
  intro k
  rcases Nat.lt_or_ge k n with hk | hk
  · rw [vals_at v _ hk, List.getElem?_set, List.getElem?_set, List.length_set, vals_len]
    unfold sw
    by_cases h1 : k = j
    · subst h1; simp [hk]
    · rw [if_neg (fun e => h1 e.symm), if_neg h1]
      by_cases h2 : k = i
      · subst h2; simp [hk]
      · rw [if_neg (fun e => h2 e.symm), if_neg h2, vals_at v s hk]
  · rw [List.getElem?_eq_none (by rw [List.length_set, List.length_set, vals_len]; exact hk), List.getElem?_eq_none (by rw [vals_len]; exact hk)]
/-- The row at block g: place k holds the value of what s tells; all but the row is as it was in w0. -/
structure St (v : Nat → Int) (g n cap : Nat) (w0 w : World) (s : Nat → Nat) : Prop where
  own : Own eI 3 0 w (.slice (some ⟨g, 0, none⟩) n cap) (vals v s n)
  off : Off (fun x => x = g) w0 w
  b : ∀ k, k < n → s k < n
section
variable {v : Nat → Int} {g n cap : Nat} {w0 w w' : World} {s : Nat → Nat}
theorem St.cell (h : St v g n cap w0 w s) {k : Nat} (hk : k < n) : w.cell? ⟨g, k, none⟩ = some (.int .i64 (v (s k))) := h.own.cell (vals_at v s hk)
theorem St.warm (h : St v g n cap w0 w s) (k : Nat) : w.frozen? ⟨g, k, none⟩ = false := h.own.warm (vals_len v s n).symm k
theorem St.on (h : St v g n cap w0 w s) (hb : Below w.heap.size w w') : St v g n cap w0 w' s := ⟨h.own.on hb, h.off.then_below hb, h.b⟩
theorem St.drew (h : St v g n cap w0 w s) : St v g n cap w0 w.drew s := h.on (drew_below w)
theorem St.drewN (h : St v g n cap w0 w s) (m : Nat) : St v g n cap w0 (w.drewN m) s := h.on (below_drewN (Below.refl _ _) m)
/-- Two cells stay as they are. -/
theorem St.keep (h : St v g n cap w0 w s) {j p : Nat} (hj : j < n) (hp : p < n) {x y : Int} (hx : x = v (s j)) (hy : y = v (s p)) : ∀ W, Below w.drew.heap.size w.drew W → W.cell? ⟨g, j, none⟩ = some (.int .i64 x) ∧ W.cell? ⟨g, p, none⟩ = some (.int .i64 y) := fun W hW => by
  subst hx; subst hy
  exact ⟨(h.drew.on hW).cell hj, (h.drew.on hW).cell hp⟩
theorem St.swap (h : St v g n cap w0 w s) {i j : Nat} (hi : i < n) (hj : j < n) : St v g n cap w0 ((w.setCell ⟨g, i, none⟩ (.int .i64 (v (s j)))).setCell ⟨g, j, none⟩ (.int .i64 (v (s i)))) (sw s i j) := by
  have h1 := h.own.set (vals_len v s n).symm i (v (s j))
  have h2 := h1.set (by rw [List.length_set, vals_len]) j (v (s i))
  rw [vals_sw v s hi hj] at h2
  refine ⟨h2, (h.off.set (p := ⟨g, i, none⟩) (Or.inl rfl) _).set (p := ⟨g, j, none⟩) (Or.inl rfl) _, fun k hk => ?_⟩
  have hb := h.b
  unfold sw
  split
  · exact hb i hi
  · split
    · exact hb j hj
    · exact hb k hk
theorem St.to (h : St v g n cap w0 w s) {s' : Nat → Nat} (he : s = s') : St v g n cap w0 w s' := he ▸ h
end

set_option maxHeartbeats 1600000 in
theorem swap_range {v : Nat → Int} {g n cap : Nat} {w0 w : World} {s : Nat → Nat} (h : St v g n cap w0 w s) (hn : n ≤ 1000000) (a b m : Nat) (h1 : a + m ≤ b) (h2 : b + m ≤ n) (F : Nat) (caps : Array Value) :
    Calls Tryz.prog 114 #[.slice (some ⟨g, 0, none⟩) n cap, .int .i64 (a : Int), .int .i64 (b : Int), .int .i64 (m : Int), .func (.func F) #[] caps] w fun e w' => e = .returned (.tuple #[]) ∧ St v g n cap w0 w' (swr s a b m) := by
  have HS := Lib.hid h
  have HN := Lib.hid hn
  have H1 := Lib.hid h1
  have H2 := Lib.hid h2
  clear h hn h1 h2
  go_enter Tryz.func114, Tryz.ntmps114
  go_wp2_with fail
  go_loopw [10] (fun i wr => ∃ k : Nat, k ≤ m ∧ i = .int .i64 (k : Int) ∧ St v g n cap w0 wr (swr s a b k)) (fun i _ => m - (RowKit.intOf i).toNat)
  case atStart => exact ⟨0, Nat.zero_le _, rfl, by rw [swr_zero]; exact HS.out⟩
  case round =>
    obtain ⟨k, hk, rfl, hst⟩ := hrel
    have HST := Lib.hid hst
    clear hst
    rcases Nat.lt_or_ge k m with hlt | hge
    · have hN := HN.out
      have hH1 := H1.out
      have hH2 := H2.out
      obtain ⟨p, hp⟩ : ∃ p, p = a + k := ⟨_, rfl⟩
      obtain ⟨q, hq⟩ : ∃ q, q = b + k := ⟨_, rfl⟩
      have ep : IntKind.i64.wrap ((a : Int) + (k : Int)) = (p : Int) := by rw [wrap_id (by omega)]; omega
      have eq : IntKind.i64.wrap ((b : Int) + (k : Int)) = (q : Int) := by rw [wrap_id (by omega)]; omega
      have cp := HST.out.cell (k := p) (by omega)
      have cq := HST.out.cell (k := q) (by omega)
      have fp := HST.out.warm p
      have fq := HST.out.warm q
      have HE := Lib.hid ((HST.out.swap (i := p) (j := q) (by omega) (by omega)).to (s' := swr s a b (k + 1)) (by rw [hp, hq]; exact swr_succ s H1.out hlt))
      obtain ⟨x, hx⟩ : ∃ x, x = v (swr s a b k p) := ⟨_, rfl⟩
      obtain ⟨y, hy⟩ : ∃ y, y = v (swr s a b k q) := ⟨_, rfl⟩
      rw [← hx] at cp HE
      rw [← hy] at cq HE
      have hpq : ¬ p = q := by omega
      have hqp : ¬ q = p := by omega
      have i1 : (p : Int) < (n : Int) := by omega
      have i2 : (0 : Int) ≤ (p : Int) := by omega
      have i3 : (q : Int) < (n : Int) := by omega
      have i4 : (0 : Int) ≤ (q : Int) := by omega
      have hk1 : IntKind.i64.wrap ((k : Int) + 1) = ((k + 1 : Nat) : Int) := wrap_id (by omega)
      have i5 : (k : Int) < (m : Int) := by omega
      clear hp hq hx hy hN hH1 hH2 hk hlt
      go_wp2_with fail
      go_region
      all_goals
        go_wp2_with fail
        go_roundw
        case rel => exact ⟨k + 1, by omega, rfl, HE.out.drew⟩
        case measure => simp [RowKit.intOf]; omega
    · obtain rfl : m = k := by omega
      go_wp2_with fail
      go_end0
      exact ⟨rfl, HST.out⟩
end Go.Proofs.YtagjimdplmimoaaGreat.Stable
/- A stable sort in memory: rotations; the comparison; insertion. -/
namespace Go.Proofs.YtagjimdplmimoaaGreat.Stable
open Go.ChangeShapes Go.WideShapes Go.RowKit Go.Lib Go.Proofs.YtagjimdplmimoaaGreat.Mem
set_option linter.unusedVariables false
set_option maxRecDepth 100000

set_option maxHeartbeats 1600000 in
theorem rotate {v : Nat → Int} {g n cap : Nat} {w0 w : World} {s : Nat → Nat} (h : St v g n cap w0 w s) (hn : n ≤ 1000000) (a m b : Nat) (h1 : a < m) (h2 : m < b) (h3 : b ≤ n) (F : Nat) (caps : Array Value) :
    Calls Tryz.prog 111 #[.slice (some ⟨g, 0, none⟩) n cap, .int .i64 (a : Int), .int .i64 (m : Int), .int .i64 (b : Int), .func (.func F) #[] caps] w fun e w' => e = .returned (.tuple #[]) ∧ St v g n cap w0 w' (rot s a m b) := by
  have HS := Lib.hid h
  have HN := Lib.hid hn
  obtain ⟨i0, hi0⟩ : ∃ x, x = m - a := ⟨_, rfl⟩
  obtain ⟨j0, hj0⟩ : ∃ x, x = b - m := ⟨_, rfl⟩
  have e1 : IntKind.i64.wrap ((m : Int) - (a : Int)) = (i0 : Int) := by rw [wrap_id (by omega)]; omega
  have e2 : IntKind.i64.wrap ((b : Int) - (m : Int)) = (j0 : Int) := by rw [wrap_id (by omega)]; omega
  have HI := Lib.hid (show m - i0 = a ∧ m + j0 = b ∧ 0 < i0 ∧ 0 < j0 ∧ i0 ≤ m ∧ m + j0 ≤ n by omega)
  clear h hn h1 h2 h3 hi0 hj0
  go_enter Tryz.func111, Tryz.ntmps111
  go_wp2_with fail
  go_loopw [10, 11] (fun x y wr => ∃ (i j : Nat) (c : Nat → Nat), x = .int .i64 (i : Int) ∧ y = .int .i64 (j : Int) ∧ 0 < i ∧ 0 < j ∧ i ≤ m ∧ m + j ≤ n ∧ St v g n cap w0 wr c ∧ rot c (m - i) m (m + j) = rot s a m b) (fun x y _ => (RowKit.intOf x).toNat + (RowKit.intOf y).toNat)
  case atStart => exact ⟨i0, j0, s, rfl, rfl, HI.out.2.2.1, HI.out.2.2.2.1, HI.out.2.2.2.2.1, HI.out.2.2.2.2.2, HS.out, by rw [HI.out.1, HI.out.2.1]⟩
  case round =>
    obtain ⟨i, j, c, rfl, rfl, hi, hj, him, hjn, hst, hrot⟩ := hrel
    have HST := Lib.hid hst
    have HROT := Lib.hid hrot
    have hN := HN.out
    clear hst hrot e1 e2
    obtain ⟨p, hp⟩ : ∃ x, x = m - i := ⟨_, rfl⟩
    have ep : IntKind.i64.wrap ((m : Int) - (i : Int)) = (p : Int) := by rw [wrap_id (by omega)]; omega
    rcases Nat.lt_trichotomy i j with hlt | heq | hgt
    · obtain ⟨d, hd⟩ : ∃ x, x = j - i := ⟨_, rfl⟩
      obtain ⟨q, hq⟩ : ∃ x, x = m + j := ⟨_, rfl⟩
      obtain ⟨r, hr⟩ : ∃ x, x = m + j - i := ⟨_, rfl⟩
      have eq : IntKind.i64.wrap ((m : Int) + (j : Int)) = (q : Int) := by rw [wrap_id (by omega)]; omega
      have er : IntKind.i64.wrap ((q : Int) - (i : Int)) = (r : Int) := by rw [wrap_id (by omega)]; omega
      have ed : IntKind.i64.wrap ((j : Int) - (i : Int)) = (d : Int) := by rw [wrap_id (by omega)]; omega
      have HC := Lib.hid (swap_range HST.out hN p r i (by omega) (by omega) F caps)
      have b1 : ((i : Int) != (j : Int)) = true := by simp; omega
      have b2 : ¬ j < i := by omega
      have b3 : ¬ i = j := by omega
      have b4 : decide (j < i) = false := decide_eq_false (by omega)
      have HX := Lib.hid (show 0 < d ∧ d < j ∧ m + d ≤ n ∧ p = m - i ∧ r = m + j - i ∧ d = j - i by omega)
      clear hp hq hr hd hN hlt
      go_wp2_with fail
      refine HC.out.mono ?_
      rintro e w2 ⟨rfl, hst2⟩
      have HST2 := Lib.hid hst2
      clear hst2
      go_wp2_with fail
      go_roundw
      case rel =>
        obtain ⟨x1, x2, x3, x4, x5, x6⟩ := HX.out
        refine ⟨i, d, _, rfl, rfl, hi, x1, him, x3, HST2.out, ?_⟩
        rw [← HROT.out, x4, x5, x6]
        exact rot_less c him (by omega)
      case measure =>
        have hX := HX.out
        simp [RowKit.intOf]; omega
    · subst heq
      have HC := Lib.hid (swap_range HST.out hN p m i (by omega) (by omega) F caps)
      have HP := Lib.hid hp
      have b1 : ((i : Int) != (i : Int)) = false := by simp
      clear hp hN
      go_wp2_with fail
      refine HC.out.mono ?_
      rintro e w2 ⟨rfl, hst2⟩
      have HST2 := Lib.hid hst2
      clear hst2
      go_wp2_with fail
      go_end0
      refine ⟨rfl, HST2.out.to ?_⟩
      rw [← HROT.out, HP.out]
      exact rot_same c him
    · obtain ⟨d, hd⟩ : ∃ x, x = i - j := ⟨_, rfl⟩
      have ed : IntKind.i64.wrap ((i : Int) - (j : Int)) = (d : Int) := by rw [wrap_id (by omega)]; omega
      have HC := Lib.hid (swap_range HST.out hN p m j (by omega) (by omega) F caps)
      have b1 : ((i : Int) != (j : Int)) = true := by simp; omega
      have b2 : j < i := by omega
      have b3 : ¬ i = j := by omega
      have b4 : decide (j < i) = true := decide_eq_true (by omega)
      have HX := Lib.hid (show 0 < d ∧ d < i ∧ d ≤ m ∧ p = m - i ∧ d = i - j by omega)
      clear hp hd hN hgt
      go_wp2_with fail
      refine HC.out.mono ?_
      rintro e w2 ⟨rfl, hst2⟩
      have HST2 := Lib.hid hst2
      clear hst2
      go_wp2_with fail
      go_roundw
      case rel =>
        obtain ⟨x1, x2, x3, x4, x5⟩ := HX.out
        refine ⟨d, j, _, rfl, rfl, x1, hj, x3, hjn, HST2.out, ?_⟩
        rw [← HROT.out, x4, x5]
        exact rot_more c him (by omega)
      case measure =>
        have hX := HX.out
        simp [RowKit.intOf]; omega

end Go.Proofs.YtagjimdplmimoaaGreat.Stable
/- A stable sort in memory: the comparison; insertion. -/
namespace Go.Proofs.YtagjimdplmimoaaGreat.Stable
open Go.ChangeShapes Go.WideShapes Go.RowKit Go.Lib Go.Proofs.YtagjimdplmimoaaGreat.Mem
set_option linter.unusedVariables false
set_option maxRecDepth 100000

/-- Function F with what it captured compares: of two values the later one first. -/
structure Cm (v : Nat → Int) (B : Nat → Nat → Bool) (n g : Nat) (w0 : World) (F : Nat) (caps : Array Value) (cf : Nat → Nat → Int) : Prop where
  eg : ∀ args w, (callFunc F args).run Tryz.prog w = .ok (.enter F args) w
  neg : ∀ i j, j < i → i < n → decide (cf i j < 0) = B i j
  call : ∀ i j W, j < i → i < n → Off (fun x => x = g) w0 W → Calls Tryz.prog F (#[.int .i64 (v i), .int .i64 (v j)] ++ caps) W fun e w' => e = .returned (.int .i64 (cf i j)) ∧ Below W.heap.size W w'

set_option maxHeartbeats 1600000 in
theorem insertion {v : Nat → Int} {B : Nat → Nat → Bool} {g n cap F : Nat} {caps : Array Value} {cf : Nat → Nat → Int} {w0 w : World} {s : Nat → Nat} (hB : Sto B) (hc : Cm v B n g w0 F caps cf) (h : St v g n cap w0 w s) (hn : n ≤ 1000000) (a b : Nat) (hab : a ≤ b) (hbn : b ≤ n) (ht : ∀ p q, a ≤ p → p < q → q < b → s p < s q) :
    Calls Tryz.prog 101 #[.slice (some ⟨g, 0, none⟩) n cap, .int .i64 (a : Int), .int .i64 (b : Int), .func (.func F) #[] caps] w fun e w' => e = .returned (.tuple #[]) ∧ ∃ s', St v g n cap w0 w' s' ∧ Srt B s' a b ∧ Im s s' a b := by
  have HS := Lib.hid h
  have HB := Lib.hid hB
  have HT := Lib.hid ht
  have eg := hc.eg
  have HC := Lib.hid hc
  have e1 : IntKind.i64.wrap ((a : Int) + 1) = ((a + 1 : Nat) : Int) := wrap_id (by omega)
  clear h hB ht hc
  go_enter Tryz.func101, Tryz.ntmps101
  go_wp2_with fail
  go_loopw [8] (fun x wr => ∃ (i : Nat) (c : Nat → Nat), x = .int .i64 (i : Int) ∧ a < i ∧ St v g n cap w0 wr c ∧ Srt B c a i ∧ Im s c a i ∧ Im s c a b) (fun x _ => b - (RowKit.intOf x).toNat)
  case atStart => exact ⟨a + 1, s, rfl, by omega, HS.out, Srt.none_ (by omega), Im.refl _ _ _, Im.refl _ _ _⟩
  case round =>
    obtain ⟨i, c, rfl, hai, hst, hsrt, him, himb⟩ := hrel
    have HST := Lib.hid hst
    have HSRT := Lib.hid hsrt
    have HIM := Lib.hid him
    have HIMB := Lib.hid himb
    clear hst hsrt him himb e1
    rcases Nat.lt_or_ge i b with hlt | hge
    · have i1 : (i : Int) < (b : Int) := by omega
      have ei : IntKind.i64.wrap ((i : Int) + 1) = ((i + 1 : Nat) : Int) := wrap_id (by omega)
      have HX := Lib.hid (show a < i ∧ i < b ∧ b ≤ n ∧ n ≤ 1000000 by omega)
      have HIN : Hid (Ins B c c a i i) := Ins.start HSRT.out (by omega) fun p h1 h2 => by
        obtain ⟨j, j1, j2, e⟩ := HIM.out.in_ p h1 h2
        rw [e, HIM.out.out i (Or.inr (Nat.le_refl _))]
        exact HT.out j i j1 j2 hlt
      clear hlt hai hab hbn hn
      go_wp2_with fail
      go_loopw [9] (fun x wr => ∃ (j : Nat) (cc : Nat → Nat), x = .int .i64 (j : Int) ∧ St v g n cap w0 wr cc ∧ Ins B c cc a i j) (fun x _ => (RowKit.intOf x).toNat)
      case atStart => exact ⟨i, c, rfl, HST.out, HIN.out⟩
      case round =>
        obtain ⟨j, cc, rfl, hst, hins⟩ := hrel
        have HST2 := Lib.hid hst
        have HINS := Lib.hid hins
        clear hst hins HST HIN
        have hX := HX.out
        have haj := HINS.out.aj
        have hji := HINS.out.ji
        rcases Nat.lt_or_ge a j with hlt | hge
        · obtain ⟨p, hp⟩ : ∃ x, x = j - 1 := ⟨_, rfl⟩
          have ep : IntKind.i64.wrap ((j : Int) - 1) = (p : Int) := by rw [wrap_id (by omega)]; omega
          have g1 : decide ((a : Int) < (j : Int)) = true := decide_eq_true (by omega)
          have hlt' := HINS.out.t p (by omega) (by omega)
          have hbn := HST2.out.b j (by omega)
          have cj := HST2.out.cell (k := j) (by omega)
          have cp := HST2.out.cell (k := p) (by omega)
          have HNEG := Lib.hid (HC.out.neg (cc j) (cc p) hlt' hbn)
          have HCALL := Lib.hid (fun W => HC.out.call (cc j) (cc p) W hlt' hbn)
          have fj := HST2.out.warm j
          have fp := HST2.out.warm p
          have HP := Lib.hid (show p = j - 1 ∧ p < n ∧ j < n ∧ ¬ p = j ∧ ¬ j = p ∧ a < j by omega)
          have i2 : (j : Int) < (n : Int) := by omega
          have i3 : (0 : Int) ≤ (j : Int) := by omega
          have i4 : (p : Int) < (n : Int) := by omega
          have i5 : (0 : Int) ≤ (p : Int) := by omega
          have g2 : a < j := hlt
          obtain ⟨x, hx⟩ : ∃ x, x = v (cc j) := ⟨_, rfl⟩
          obtain ⟨y, hy⟩ : ∃ y, y = v (cc p) := ⟨_, rfl⟩
          obtain ⟨z, hz⟩ : ∃ z, z = cf (cc j) (cc p) := ⟨_, rfl⟩
          have HXY := Lib.hid (show x = v (cc j) ∧ y = v (cc p) from ⟨hx, hy⟩)
          rw [← hx] at cj HCALL
          rw [← hy] at cp HCALL
          rw [← hz] at HCALL HNEG
          have HX1 := Lib.hid (HCALL.out wr.drew HST2.out.drew.off)
          have HK := Lib.hid (HST2.out.keep HP.out.2.2.1 HP.out.2.1 hx hy)
          clear hp hlt' hbn hx hy hz hX haj hji hlt HCALL
          cases hb : B (cc j) (cc p) with
          | true =>
            rw [hb] at HNEG
            have b1 := HNEG.out
            go_wp2_with fail
            go_region_held3 (fun W' => W'.cell? ⟨g, j, none⟩ = some (.int .i64 x) ∧ W'.cell? ⟨g, p, none⟩ = some (.int .i64 y))
              (first | go_keep | exact HK.out _ hb2) (first | (go_at_fn F; (with_reducible refine HX1.out.mono ?_); rintro e w2 ⟨rfl, hb2⟩))
            have HST3 := Lib.hid (HST2.out.drew.on hb2)
            have dj := HST3.out.cell (k := j) HP.out.2.2.1
            have dp := HST3.out.cell (k := p) HP.out.2.1
            rw [← HXY.out.1] at dj
            rw [← HXY.out.2] at dp
            have fj := HST3.out.warm j
            have fp := HST3.out.warm p
            have HSW := Lib.hid (HST3.out.swap (i := j) (j := p) HP.out.2.2.1 HP.out.2.1)
            rw [← HXY.out.1, ← HXY.out.2] at HSW
            have hpj := HP.out.2.2.2.1
            have hjp := HP.out.2.2.2.2.1
            clear cj cp hb2
            go_wp2_with fail
            go_region
            all_goals
              go_wp2_with fail
              go_roundw
              case rel => exact ⟨p, _, rfl, HSW.out.drew, HP.out.1 ▸ HINS.out.step HP.out.2.2.2.2.2 (HP.out.1 ▸ hb)⟩
              case measure =>
                have := HP.out
                simp [RowKit.intOf]; omega
          | false =>
            rw [hb] at HNEG
            have b1 := HNEG.out
            go_wp2_with fail
            go_region_held3 (fun W' => W'.cell? ⟨g, j, none⟩ = some (.int .i64 x) ∧ W'.cell? ⟨g, p, none⟩ = some (.int .i64 y))
              (first | go_keep | exact HK.out _ hb2) (first | (go_at_fn F; (with_reducible refine HX1.out.mono ?_); rintro e w2 ⟨rfl, hb2⟩))
            have HST3 := Lib.hid (HST2.out.drew.on hb2)
            have HD := Lib.hid (HINS.out.done HB.out (Or.inr ⟨HP.out.2.2.2.2.2, HP.out.1 ▸ hb⟩))
            clear cj cp fj fp hb2
            go_wp2_with fail
            go_roundw
            case rel => exact ⟨i + 1, cc, rfl, by have := HX.out; omega, HST3.out, HD.out.1, (HIM.out.wide (Nat.le_refl _) (by omega)).trans HD.out.2, HIMB.out.trans (HD.out.2.wide (Nat.le_refl _) (by have := HX.out; omega))⟩
            case measure =>
              have := HX.out
              simp [RowKit.intOf]; omega
        · obtain rfl : a = j := by omega
          have g1 : decide ((a : Int) < (a : Int)) = false := decide_eq_false (by omega)
          have HD := Lib.hid (HINS.out.done HB.out (Or.inl rfl))
          clear hX haj hji hge
          go_wp2_with fail
          go_quiet (fail)
          go_wp2_with fail
          go_roundw
          case rel => exact ⟨i + 1, cc, rfl, by have := HX.out; omega, HST2.out.drewN _, HD.out.1, (HIM.out.wide (Nat.le_refl _) (by omega)).trans HD.out.2, HIMB.out.trans (HD.out.2.wide (Nat.le_refl _) (by have := HX.out; omega))⟩
          case measure =>
            have := HX.out
            simp [RowKit.intOf]; omega
    · have hmin : decide ((i : Int) < (b : Int)) = false := decide_eq_false (by omega)
      have HD : Hid (Srt B c a b) := HSRT.out.part (Nat.le_refl _) hge
      go_wp2_with fail
      go_end0
      exact ⟨rfl, c, HST.out, HD.out, HIMB.out⟩
end Go.Proofs.YtagjimdplmimoaaGreat.Stable
/- A stable sort in memory: one value at the left of a part, put in. -/
namespace Go.Proofs.YtagjimdplmimoaaGreat.Stable
open Go.ChangeShapes Go.WideShapes Go.RowKit Go.Lib Go.Proofs.YtagjimdplmimoaaGreat.Mem
set_option linter.unusedVariables false
set_option maxRecDepth 100000

/-- What a merge leaves. -/
def Mgd (v : Nat → Int) (B : Nat → Nat → Bool) (g n cap : Nat) (w0 : World) (s : Nat → Nat) (a b : Nat) (w' : World) : Prop := ∃ s', St v g n cap w0 w' s' ∧ Srt B s' a b ∧ Im s s' a b

set_option maxHeartbeats 1600000 in
theorem sym_left {v : Nat → Int} {B : Nat → Nat → Bool} {g n cap F : Nat} {caps : Array Value} {cf : Nat → Nat → Int} {w0 w : World} {s : Nat → Nat} (hB : Sto B) (hc : Cm v B n g w0 F caps cf) (h : St v g n cap w0 w s) (hn : n ≤ 1000000) (a b : Nat) (hab : a + 1 < b) (hbn : b ≤ n) (hh : Halves B s a (a + 1) b) :
    Calls Tryz.prog 102 #[.slice (some ⟨g, 0, none⟩) n cap, .int .i64 (a : Int), .int .i64 ((a + 1 : Nat) : Int), .int .i64 (b : Int), .func (.func F) #[] caps] w fun e w' => e = .returned (.tuple #[]) ∧ Mgd v B g n cap w0 s a b w' := by
  obtain ⟨m, hm⟩ : ∃ m, m = a + 1 := ⟨_, rfl⟩
  rw [← hm]
  have HS := Lib.hid h
  have HB := Lib.hid hB
  have HH := Lib.hid hh
  have HM := Lib.hid hm
  have HX := Lib.hid (show a + 1 < b ∧ b ≤ n ∧ n ≤ 1000000 by omega)
  have eg := hc.eg
  have HC := Lib.hid hc
  have e1 : IntKind.i64.wrap ((m : Int) - (a : Int)) = 1 := by rw [wrap_id (by omega)]; omega
  clear h hB hc hh hm hab hbn hn
  go_enter Tryz.func102, Tryz.ntmps102
  go_wp2_with fail
  go_loopw [10, 11, 12] (fun x y _ wr => ∃ i j : Nat, x = .int .i64 (i : Int) ∧ y = .int .i64 (j : Int) ∧ a + 1 ≤ i ∧ i ≤ j ∧ j ≤ b ∧ (a + 1 < i → B (s (i - 1)) (s a) = true) ∧ (j < b → B (s j) (s a) = false) ∧ St v g n cap w0 wr s) (fun x y _ _ => (RowKit.intOf y).toNat - (RowKit.intOf x).toNat)
  case atStart => exact ⟨m, b, rfl, rfl, by rw [HM.out]; exact Nat.le_refl _, by have := HM.out; have := HX.out; omega, Nat.le_refl _, fun h => by have := HM.out; omega, fun h => by omega, HS.out⟩
  case round =>
    obtain ⟨i, j, rfl, rfl, h1, h2, h3, hlo, hhi, hst⟩ := hrel
    have HLO := Lib.hid hlo
    have HHI := Lib.hid hhi
    have HST := Lib.hid hst
    have hX := HX.out
    clear hst hlo hhi e1
    rcases Nat.lt_or_ge i j with hlt | hge
    · obtain ⟨q, hq⟩ : ∃ x, x = i + j := ⟨_, rfl⟩
      obtain ⟨h, hh⟩ : ∃ x, x = q / 2 := ⟨_, rfl⟩
      have e1 : IntKind.i64.wrap ((i : Int) + (j : Int)) = (q : Int) := by rw [wrap_id (by omega)]; omega
      have e2 : IntKind.u64.wrap (q : Int) = (q : Int) := by rw [IntKind.wrap_u64]; omega
      have e3 : (q : Int) / 2 = (h : Int) := by omega
      have e4 : IntKind.i64.wrap (h : Int) = (h : Int) := wrap_id (by omega)
      have e5 : IntKind.i64.wrap ((h : Int) + 1) = ((h + 1 : Nat) : Int) := wrap_id (by omega)
      have ht := HH.out.t a h (Nat.le_refl _) (by omega) (by omega) (by omega)
      have hbd := HST.out.b h (by omega)
      have ch := HST.out.cell (k := h) (by omega)
      have ca := HST.out.cell (k := a) (by omega)
      have HNEG := Lib.hid (HC.out.neg (s h) (s a) ht hbd)
      have HCALL := Lib.hid (fun W => HC.out.call (s h) (s a) W ht hbd)
      have HP := Lib.hid (show i ≤ h ∧ h < j ∧ a < n ∧ h < n ∧ h + 1 ≤ j by omega)
      have i2 : (h : Int) < (n : Int) := by omega
      have i3 : (0 : Int) ≤ (h : Int) := by omega
      have i4 : (a : Int) < (n : Int) := by omega
      have i5 : (0 : Int) ≤ (a : Int) := by omega
      obtain ⟨x, hx⟩ : ∃ x, x = v (s h) := ⟨_, rfl⟩
      obtain ⟨y, hy⟩ : ∃ y, y = v (s a) := ⟨_, rfl⟩
      obtain ⟨z, hz⟩ : ∃ z, z = cf (s h) (s a) := ⟨_, rfl⟩
      rw [← hx] at ch HCALL
      rw [← hy] at ca HCALL
      rw [← hz] at HCALL HNEG
      have HX1 := Lib.hid (HCALL.out wr.drew HST.out.drew.off)
      have HK := Lib.hid (HST.out.keep HP.out.2.2.2.1 HP.out.2.2.1 hx hy)
      clear hq hh ht hbd hx hy hz HCALL
      cases hb : B (s h) (s a) with
      | true =>
        rw [hb] at HNEG
        have b1 := HNEG.out
        clear hX
        go_wp2_with fail
        go_region_held3 (fun W' => W'.cell? ⟨g, h, none⟩ = some (.int .i64 x) ∧ W'.cell? ⟨g, a, none⟩ = some (.int .i64 y))
          (first | go_keep | exact HK.out _ hb2) (first | (go_at_fn F; (with_reducible refine HX1.out.mono ?_); rintro e w2 ⟨rfl, hb2⟩))
        have HST3 := Lib.hid (HST.out.drew.on hb2)
        clear ch ca hb2
        go_wp2_with fail
        go_roundw
        case rel =>
          have := HP.out
          exact ⟨h + 1, j, rfl, rfl, by omega, by omega, h3, fun _ => hb, HHI.out, HST3.out⟩
        case measure =>
          have := HP.out
          simp [RowKit.intOf]; omega
      | false =>
        rw [hb] at HNEG
        have b1 := HNEG.out
        clear hX
        go_wp2_with fail
        go_region_held3 (fun W' => W'.cell? ⟨g, h, none⟩ = some (.int .i64 x) ∧ W'.cell? ⟨g, a, none⟩ = some (.int .i64 y))
          (first | go_keep | exact HK.out _ hb2) (first | (go_at_fn F; (with_reducible refine HX1.out.mono ?_); rintro e w2 ⟨rfl, hb2⟩))
        have HST3 := Lib.hid (HST.out.drew.on hb2)
        clear ch ca hb2
        go_wp2_with fail
        go_roundw
        case rel =>
          have := HP.out
          exact ⟨i, h, rfl, rfl, h1, by omega, by omega, HLO.out, fun _ => hb, HST3.out⟩
        case measure =>
          have := HP.out
          simp [RowKit.intOf]; omega
    · obtain rfl : i = j := by omega
      have HD := Lib.hid ((HM.out ▸ HH.out : Halves B s a (a + 1) b).one_left HB.out h1 h3 HLO.out HHI.out)
      obtain ⟨t, ht⟩ : ∃ t, t = i - 1 := ⟨_, rfl⟩
      have HT := Lib.hid (show t = i - 1 ∧ a ≤ t ∧ t + 1 ≤ n ∧ t + 1 = i by omega)
      have e1 : IntKind.i64.wrap ((i : Int) - 1) = (t : Int) := by rw [wrap_id (by omega)]; omega
      clear h1 h2 h3 hge hX ht HLO HHI
      go_wp2_with fail
      go_loopw [13] (fun x wr => ∃ k : Nat, x = .int .i64 (k : Int) ∧ a ≤ k ∧ k ≤ t ∧ St v g n cap w0 wr (rot s a (a + 1) (k + 1))) (fun x _ => t - (RowKit.intOf x).toNat)
      case atStart => exact ⟨a, rfl, Nat.le_refl _, HT.out.2.1, HST.out.to (rot_right s (Nat.le_succ a)).symm⟩
      case round =>
        obtain ⟨k, rfl, k1, k2, hst⟩ := hrel
        have HST4 := Lib.hid hst
        have hT := HT.out
        have hX := HX.out
        clear hst
        rcases Nat.lt_or_ge k t with hlt | hge
        · obtain ⟨p, hp⟩ : ∃ x, x = k + 1 := ⟨_, rfl⟩
          have ep : IntKind.i64.wrap ((k : Int) + 1) = (p : Int) := by rw [wrap_id (by omega)]; omega
          have dk := HST4.out.cell (k := k) (by omega)
          have dp := HST4.out.cell (k := p) (by omega)
          have HSW := Lib.hid ((HST4.out.swap (i := k) (j := p) (by omega) (by omega)).to (s' := rot s a (a + 1) (p + 1)) (by rw [hp]; exact rot_up s k1))
          obtain ⟨x, hx⟩ : ∃ x, x = v (rot s a (a + 1) (k + 1) k) := ⟨_, rfl⟩
          obtain ⟨y, hy⟩ : ∃ y, y = v (rot s a (a + 1) (k + 1) p) := ⟨_, rfl⟩
          rw [← hx] at dk HSW
          rw [← hy] at dp HSW
          have fj := HST4.out.warm k
          have fp := HST4.out.warm p
          have i2 : (k : Int) < (n : Int) := by omega
          have i3 : (0 : Int) ≤ (k : Int) := by omega
          have i4 : (p : Int) < (n : Int) := by omega
          have i5 : (0 : Int) ≤ (p : Int) := by omega
          have hpk : ¬ p = k := by omega
          have hkp : ¬ k = p := by omega
          have b1 : k < t := hlt
          have HP := Lib.hid (show p = k + 1 ∧ p ≤ t ∧ a ≤ p by omega)
          clear hT hX hp hx hy hlt k1 k2
          go_wp2_with fail
          go_region
          all_goals
            go_wp2_with fail
            go_roundw
            case rel => exact ⟨p, rfl, HP.out.2.2, HP.out.2.1, HSW.out.drew⟩
            case measure =>
              have := HP.out
              simp [RowKit.intOf]; omega
        · obtain rfl : k = t := by omega
          have HE := Lib.hid (HST4.out.to (s' := rot s a (a + 1) i) (by rw [hT.2.2.2]))
          clear hT hX k1 k2 hge
          go_wp2_with fail
          try simp only [Exit.inBlock, Exit.then]
          refine bodyPost_ret (results_none rfl _ _ _) rfl ?_
          exact ⟨rfl, _, HE.out, HD.out.1, HD.out.2⟩
end Go.Proofs.YtagjimdplmimoaaGreat.Stable
/- A stable sort in memory: one value at the right of a part, put in. -/
namespace Go.Proofs.YtagjimdplmimoaaGreat.Stable
open Go.ChangeShapes Go.WideShapes Go.RowKit Go.Lib Go.Proofs.YtagjimdplmimoaaGreat.Mem
set_option linter.unusedVariables false
set_option maxRecDepth 100000

set_option maxHeartbeats 1600000 in
theorem sym_right {v : Nat → Int} {B : Nat → Nat → Bool} {g n cap F : Nat} {caps : Array Value} {cf : Nat → Nat → Int} {w0 w : World} {s : Nat → Nat} (hB : Sto B) (hc : Cm v B n g w0 F caps cf) (h : St v g n cap w0 w s) (hn : n ≤ 1000000) (a m : Nat) (hab : a + 1 < m) (hbn : m + 1 ≤ n) (hh : Halves B s a m (m + 1)) :
    Calls Tryz.prog 102 #[.slice (some ⟨g, 0, none⟩) n cap, .int .i64 (a : Int),   .int .i64 (m : Int), .int .i64 ((m + 1 : Nat) : Int), .func (.func F) #[] caps] w fun e w' => e = .returned (.tuple #[]) ∧ Mgd v B g n cap w0 s a (m + 1) w' := by
  obtain ⟨b, hm⟩ : ∃ b, b = m + 1 := ⟨_, rfl⟩
  obtain ⟨d, hd⟩ : ∃ d, d = m - a := ⟨_, rfl⟩
  rw [← hm]
  rw [← hm] at hh hbn
  have HS := Lib.hid h
  have HB := Lib.hid hB
  have HH := Lib.hid hh
  have HM := Lib.hid hm
  have HX := Lib.hid (show a + 1 < m ∧ b ≤ n ∧ n ≤ 1000000 ∧ b = m + 1 by omega)
  have eg := hc.eg
  have HC := Lib.hid hc
  have e1 : IntKind.i64.wrap ((m : Int) - (a : Int)) = (d : Int) := by rw [wrap_id (by omega)]; omega
  have d1 : ((d : Int) == 1) = false := by simp; omega
  have d2 : ¬ d = 1 := by omega
  have e2 : IntKind.i64.wrap ((b : Int) - (m : Int)) = 1 := by rw [wrap_id (by omega)]; omega
  clear h hB hc hh hm hd hab hbn hn
  go_enter Tryz.func102, Tryz.ntmps102
  go_wp2_with fail
  go_loopw [14, 15, 16] (fun x y _ wr => ∃ i j : Nat, x = .int .i64 (i : Int) ∧ y = .int .i64 (j : Int) ∧ a ≤ i ∧ i ≤ j ∧ j ≤ m ∧ (a < i → B (s m) (s (i - 1)) = false) ∧ (j < m → B (s m) (s j) = true) ∧ St v g n cap w0 wr s) (fun x y _ _ => (RowKit.intOf y).toNat - (RowKit.intOf x).toNat)
  case atStart => exact ⟨a, m, rfl, rfl, Nat.le_refl _, by have := HX.out; omega, Nat.le_refl _, fun h => by omega, fun h => by omega, HS.out⟩
  case round =>
    obtain ⟨i, j, rfl, rfl, h1, h2, h3, hlo, hhi, hst⟩ := hrel
    have HLO := Lib.hid hlo
    have HHI := Lib.hid hhi
    have HST := Lib.hid hst
    have hX := HX.out
    clear hst hlo hhi e1 e2 d1 d2
    rcases Nat.lt_or_ge i j with hlt | hge
    · obtain ⟨q, hq⟩ : ∃ x, x = i + j := ⟨_, rfl⟩
      obtain ⟨h, hh⟩ : ∃ x, x = q / 2 := ⟨_, rfl⟩
      have e1 : IntKind.i64.wrap ((i : Int) + (j : Int)) = (q : Int) := by rw [wrap_id (by omega)]; omega
      have e2 : IntKind.u64.wrap (q : Int) = (q : Int) := by rw [IntKind.wrap_u64]; omega
      have e3 : (q : Int) / 2 = (h : Int) := by omega
      have e4 : IntKind.i64.wrap (h : Int) = (h : Int) := wrap_id (by omega)
      have e5 : IntKind.i64.wrap ((h : Int) + 1) = ((h + 1 : Nat) : Int) := wrap_id (by omega)
      have ht := HH.out.t h m (by omega) (by omega) (by omega) (by omega)
      have hbd := HST.out.b m (by omega)
      have ch := HST.out.cell (k := h) (by omega)
      have ca := HST.out.cell (k := m) (by omega)
      have HNEG := Lib.hid (HC.out.neg (s m) (s h) ht hbd)
      have HCALL := Lib.hid (fun W => HC.out.call (s m) (s h) W ht hbd)
      have HP := Lib.hid (show i ≤ h ∧ h < j ∧ m < n ∧ h < n ∧ h + 1 ≤ j by omega)
      have i2 : (h : Int) < (n : Int) := by omega
      have i3 : (0 : Int) ≤ (h : Int) := by omega
      have i4 : (m : Int) < (n : Int) := by omega
      have i5 : (0 : Int) ≤ (m : Int) := by omega
      obtain ⟨x, hx⟩ : ∃ x, x = v (s h) := ⟨_, rfl⟩
      obtain ⟨y, hy⟩ : ∃ y, y = v (s m) := ⟨_, rfl⟩
      obtain ⟨z, hz⟩ : ∃ z, z = cf (s m) (s h) := ⟨_, rfl⟩
      rw [← hx] at ch HCALL
      rw [← hy] at ca HCALL
      rw [← hz] at HCALL HNEG
      have HX1 := Lib.hid (HCALL.out wr.drew HST.out.drew.off)
      have HK := Lib.hid (HST.out.keep HP.out.2.2.2.1 HP.out.2.2.1 hx hy)
      clear hq hh ht hbd hx hy hz HCALL
      cases hb : B (s m) (s h) with
      | true =>
        rw [hb] at HNEG
        have b1 := HNEG.out
        clear hX
        go_wp2_with fail
        go_region_held3 (fun W' => W'.cell? ⟨g, h, none⟩ = some (.int .i64 x) ∧ W'.cell? ⟨g, m, none⟩ = some (.int .i64 y))
          (first | go_keep | exact HK.out _ hb2) (first | (go_at_fn F; (with_reducible refine HX1.out.mono ?_); rintro e w2 ⟨rfl, hb2⟩))
        have HST3 := Lib.hid (HST.out.drew.on hb2)
        clear ch ca hb2
        go_wp2_with fail
        go_roundw
        case rel =>
          have := HP.out
          exact ⟨i, h, rfl, rfl, h1, by omega, by omega, HLO.out, fun _ => hb, HST3.out⟩
        case measure =>
          have := HP.out
          simp [RowKit.intOf]; omega
      | false =>
        rw [hb] at HNEG
        have b1 := HNEG.out
        clear hX
        go_wp2_with fail
        go_region_held3 (fun W' => W'.cell? ⟨g, h, none⟩ = some (.int .i64 x) ∧ W'.cell? ⟨g, m, none⟩ = some (.int .i64 y))
          (first | go_keep | exact HK.out _ hb2) (first | (go_at_fn F; (with_reducible refine HX1.out.mono ?_); rintro e w2 ⟨rfl, hb2⟩))
        have HST3 := Lib.hid (HST.out.drew.on hb2)
        clear ch ca hb2
        go_wp2_with fail
        go_roundw
        case rel =>
          have := HP.out
          exact ⟨h + 1, j, rfl, rfl, by omega, by omega, h3, fun _ => hb, HHI.out, HST3.out⟩
        case measure =>
          have := HP.out
          simp [RowKit.intOf]; omega
    · obtain rfl : i = j := by omega
      have HD := Lib.hid ((HM.out ▸ HH.out : Halves B s a m (m + 1)).one_right HB.out h1 h3 HLO.out HHI.out)
      have HT := Lib.hid (show a ≤ i ∧ i ≤ m by omega)
      clear h1 h2 h3 hge hX HLO HHI
      go_wp2_with fail
      go_loopw [17] (fun x wr => ∃ k : Nat, x = .int .i64 (k : Int) ∧ i ≤ k ∧ k ≤ m ∧ St v g n cap w0 wr (rot s k m (m + 1))) (fun x _ => (RowKit.intOf x).toNat - i)
      case atStart => exact ⟨m, rfl, HT.out.2, Nat.le_refl _, HST.out.to (rot_left s _ (Nat.le_succ m)).symm⟩
      case round =>
        obtain ⟨k, rfl, k1, k2, hst⟩ := hrel
        have HST4 := Lib.hid hst
        have hX := HX.out
        clear hst
        rcases Nat.lt_or_ge i k with hlt | hge
        · obtain ⟨p, hp⟩ : ∃ x, x = k - 1 := ⟨_, rfl⟩
          have ep : IntKind.i64.wrap ((k : Int) - 1) = (p : Int) := by rw [wrap_id (by omega)]; omega
          have dk := HST4.out.cell (k := k) (by omega)
          have dp := HST4.out.cell (k := p) (by omega)
          have HSW := Lib.hid ((HST4.out.swap (i := k) (j := p) (by omega) (by omega)).to (s' := rot s p m (m + 1)) (by rw [show k = p + 1 by omega]; exact rot_down s (by omega)))
          obtain ⟨x, hx⟩ : ∃ x, x = v (rot s k m (m + 1) k) := ⟨_, rfl⟩
          obtain ⟨y, hy⟩ : ∃ y, y = v (rot s k m (m + 1) p) := ⟨_, rfl⟩
          rw [← hx] at dk HSW
          rw [← hy] at dp HSW
          have fj := HST4.out.warm k
          have fp := HST4.out.warm p
          have i2 : (k : Int) < (n : Int) := by omega
          have i3 : (0 : Int) ≤ (k : Int) := by omega
          have i4 : (p : Int) < (n : Int) := by omega
          have i5 : (0 : Int) ≤ (p : Int) := by omega
          have hpk : ¬ p = k := by omega
          have hkp : ¬ k = p := by omega
          have b1 : i < k := hlt
          have HP := Lib.hid (show p = k - 1 ∧ i ≤ p ∧ p ≤ m ∧ p < k by omega)
          clear hX hp hx hy hlt k1 k2
          go_wp2_with fail
          go_region
          all_goals
            go_wp2_with fail
            go_roundw
            case rel => exact ⟨p, rfl, HP.out.2.1, HP.out.2.2.1, HSW.out.drew⟩
            case measure =>
              have := HP.out
              simp [RowKit.intOf]; omega
        · obtain rfl : i = k := by omega
          clear hX k1 k2 hge
          go_wp2_with fail
          try simp only [Exit.inBlock, Exit.then]
          refine bodyPost_ret (results_none rfl _ _ _) rfl ?_
          exact ⟨rfl, _, HST4.out, by rw [HM.out]; exact HD.out.1, by rw [HM.out]; exact HD.out.2⟩
end Go.Proofs.YtagjimdplmimoaaGreat.Stable
