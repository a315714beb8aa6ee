/- A stable sort in memory: the row that is sorted, exchanges, rotations. -/
import Derived.Test.YtdolhanniiejfaaStableA
import Derived.Test.YtdolhanniiejfaaMemA
import Derived.BigRegion
namespace Go.Proofs.Ytdolhanniiejfaa.Stable
open Go.ChangeShapes Go.WideShapes Go.RowKit Go.Lib Go.Proofs.Ytdolhanniiejfaa.Mem
set_option linter.unusedVariables false
set_option maxRecDepth 100000

/-- The values of what lies where. -/
def vals (v : Nat → Int) (s : Nat → Nat) (n : Nat) : List Int := (List.range n).map fun k => v (s k)
theorem vals_len (v : Nat → Int) (s : Nat → Nat) (n : Nat) : (vals v s n).length = n := by simp [vals]
theorem vals_at (v : Nat → Int) (s : Nat → Nat) {n i : Nat} (h : i < n) : (vals v s n)[i]? = some (v (s i)) := by
  unfold vals; rw [List.getElem?_map, List.getElem?_range h]; rfl
theorem vals_sw (v : Nat → Int) (s : Nat → Nat) {n i j : Nat} (hi : i < n) (hj : j < n) : ((vals v s n).set i (v (s j))).set j (v (s i)) = vals v (sw s i j) n := by
  apply List.ext_getElem?
  intro k
  rcases Nat.lt_or_ge k n with hk | hk
  · rw [vals_at v _ hk, List.getElem?_set, List.getElem?_set, List.length_set, vals_len]
    unfold sw
    by_cases h1 : k = j
    · subst h1; simp [hk]
    · rw [if_neg (fun e => h1 e.symm), if_neg h1]
      by_cases h2 : k = i
      · subst h2; simp [hk]
      · rw [if_neg (fun e => h2 e.symm), if_neg h2, vals_at v s hk]
  · rw [List.getElem?_eq_none (by rw [List.length_set, List.length_set, vals_len]; exact hk), List.getElem?_eq_none (by rw [vals_len]; exact hk)]
/-- The row at block g: place k holds the value of what s tells; all but the row is as it was in w0. -/
structure St (v : Nat → Int) (g n cap : Nat) (w0 w : World) (s : Nat → Nat) : Prop where
  own : Own eI 3 0 w (.slice (some ⟨g, 0, none⟩) n cap) (vals v s n)
  off : Off (fun x => x = g) w0 w
  b : ∀ k, k < n → s k < n
section
variable {v : Nat → Int} {g n cap : Nat} {w0 w w' : World} {s : Nat → Nat}
theorem St.cell (h : St v g n cap w0 w s) {k : Nat} (hk : k < n) : w.cell? ⟨g, k, none⟩ = some (.int .i64 (v (s k))) := h.own.cell (vals_at v s hk)
theorem St.warm (h : St v g n cap w0 w s) (k : Nat) : w.frozen? ⟨g, k, none⟩ = false := h.own.warm (vals_len v s n).symm k
theorem St.on (h : St v g n cap w0 w s) (hb : Below w.heap.size w w') : St v g n cap w0 w' s := ⟨h.own.on hb, h.off.then_below hb, h.b⟩
theorem St.drew (h : St v g n cap w0 w s) : St v g n cap w0 w.drew s := h.on (drew_below w)
theorem St.drewN (h : St v g n cap w0 w s) (m : Nat) : St v g n cap w0 (w.drewN m) s := h.on (below_drewN (Below.refl _ _) m)
/-- Two cells stay as they are. -/
theorem St.keep (h : St v g n cap w0 w s) {j p : Nat} (hj : j < n) (hp : p < n) {x y : Int} (hx : x = v (s j)) (hy : y = v (s p)) : ∀ W, Below w.drew.heap.size w.drew W → W.cell? ⟨g, j, none⟩ = some (.int .i64 x) ∧ W.cell? ⟨g, p, none⟩ = some (.int .i64 y) := fun W hW => by
  subst hx; subst hy
  exact ⟨(h.drew.on hW).cell hj, (h.drew.on hW).cell hp⟩
theorem St.swap (h : St v g n cap w0 w s) {i j : Nat} (hi : i < n) (hj : j < n) : St v g n cap w0 ((w.setCell ⟨g, i, none⟩ (.int .i64 (v (s j)))).setCell ⟨g, j, none⟩ (.int .i64 (v (s i)))) (sw s i j) := by
  have h1 := h.own.set (vals_len v s n).symm i (v (s j))
  have h2 := h1.set (by rw [List.length_set, vals_len]) j (v (s i))
  rw [vals_sw v s hi hj] at h2
  refine ⟨h2, (h.off.set (p := ⟨g, i, none⟩) (Or.inl rfl) _).set (p := ⟨g, j, none⟩) (Or.inl rfl) _, fun k hk => ?_⟩
  have hb := h.b
  unfold sw
  split
  · exact hb i hi
  · split
    · exact hb j hj
    · exact hb k hk
theorem St.to (h : St v g n cap w0 w s) {s' : Nat → Nat} (he : s = s') : St v g n cap w0 w s' := he ▸ h
end

set_option maxHeartbeats 1600000 in
theorem swap_range {v : Nat → Int} {g n cap : Nat} {w0 w : World} {s : Nat → Nat} (h : St v g n cap w0 w s) (hn : n ≤ 1000000) (a b m : Nat) (h1 : a + m ≤ b) (h2 : b + m ≤ n) (F : Nat) (caps : Array Value) :
    Calls Try.prog 87 #[.slice (some ⟨g, 0, none⟩) n cap, .int .i64 (a : Int), .int .i64 (b : Int), .int .i64 (m : Int), .func (.func F) #[] caps] w fun e w' => e = .returned (.tuple #[]) ∧ St v g n cap w0 w' (swr s a b m) := by
  have HS := Lib.hid h
  have HN := Lib.hid hn
  have H1 := Lib.hid h1
  have H2 := Lib.hid h2
  clear h hn h1 h2
  go_enter Try.func87, Try.ntmps87
  go_wp2_with fail
  go_loopw [10] (fun i wr => ∃ k : Nat, k ≤ m ∧ i = .int .i64 (k : Int) ∧ St v g n cap w0 wr (swr s a b k)) (fun i _ => m - (intOf i).toNat)
  case atStart => exact ⟨0, Nat.zero_le _, rfl, by rw [swr_zero]; exact HS.out⟩
  case round =>
    obtain ⟨k, hk, rfl, hst⟩ := hrel
    have HST := Lib.hid hst
    clear hst
    rcases Nat.lt_or_ge k m with hlt | hge
    · have hN := HN.out
      have hH1 := H1.out
      have hH2 := H2.out
      obtain ⟨p, hp⟩ : ∃ p, p = a + k := ⟨_, rfl⟩
      obtain ⟨q, hq⟩ : ∃ q, q = b + k := ⟨_, rfl⟩
      have ep : IntKind.i64.wrap ((a : Int) + (k : Int)) = (p : Int) := by rw [wrap_id (by omega)]; omega
      have eq : IntKind.i64.wrap ((b : Int) + (k : Int)) = (q : Int) := by rw [wrap_id (by omega)]; omega
      have cp := HST.out.cell (k := p) (by omega)
      have cq := HST.out.cell (k := q) (by omega)
      have fp := HST.out.warm p
      have fq := HST.out.warm q
      have HE := Lib.hid ((HST.out.swap (i := p) (j := q) (by omega) (by omega)).to (s' := swr s a b (k + 1)) (by rw [hp, hq]; exact swr_succ s H1.out hlt))
      obtain ⟨x, hx⟩ : ∃ x, x = v (swr s a b k p) := ⟨_, rfl⟩
      obtain ⟨y, hy⟩ : ∃ y, y = v (swr s a b k q) := ⟨_, rfl⟩
      rw [← hx] at cp HE
      rw [← hy] at cq HE
      have hpq : ¬ p = q := by omega
      have hqp : ¬ q = p := by omega
      have i1 : (p : Int) < (n : Int) := by omega
      have i2 : (0 : Int) ≤ (p : Int) := by omega
      have i3 : (q : Int) < (n : Int) := by omega
      have i4 : (0 : Int) ≤ (q : Int) := by omega
      have hk1 : IntKind.i64.wrap ((k : Int) + 1) = ((k + 1 : Nat) : Int) := wrap_id (by omega)
      have i5 : (k : Int) < (m : Int) := by omega
      clear hp hq hx hy hN hH1 hH2 hk hlt
      go_wp2_with fail
      go_region
      all_goals
        go_wp2_with fail
        go_roundw
        case rel => exact ⟨k + 1, by omega, rfl, HE.out.drew⟩
        case measure => simp [intOf]; omega
    · obtain rfl : m = k := by omega
      go_wp2_with fail
      go_end0
      exact ⟨rfl, HST.out⟩
#print axioms swap_range
end Go.Proofs.Ytdolhanniiejfaa.Stable
