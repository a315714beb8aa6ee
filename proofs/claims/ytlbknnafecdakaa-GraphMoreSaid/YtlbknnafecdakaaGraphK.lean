/- headsOf. -/
import Derived.Test.YtlbknnafecdakaaGraphJ
namespace Go.Proofs.Ytlbknnafecdakaa.Graph
open Go.ChangeShapes Go.WideShapes Go.RowKit Go.Lib
set_option linter.unusedVariables false
set_option maxRecDepth 100000

/-! ### The lists (pure) -/
/-- In the lists stand the ends of the arcs M. -/
def IsX (N : Nat) (M : Arcs) (X : List (List Int)) : Prop := X.length = N ∧ ∀ (n : Nat) (l : List Int), X[n]? = some l → l.length ≤ M.length ∧ ∀ b : Int, b ∈ l ↔ ∃ m : Nat, b = (m : Int) ∧ (n, m) ∈ M
/-- The lists of headsOf. -/
def IsH (N : Nat) (L : Arcs) (H : List (List Int)) : Prop := H.length = N ∧ ∀ (n : Nat) (l : List Int), H[n]? = some l → Asc l ∧ l.length ≤ L.length ∧ ∀ b : Int, b ∈ l ↔ ∃ m : Nat, b = (m : Int) ∧ (n, m) ∈ L
theorem IsX.start (N : Nat) : IsX N [] (List.replicate N []) := by
  refine ⟨by simp, fun n l hl => ?_⟩
  rw [List.getElem?_replicate] at hl
  split at hl
  · cases hl; simp
  · cases hl
theorem IsX.arc {N : Nat} {M : Arcs} {X : List (List Int)} (h : IsX N M X) {a b : Nat} {l : List Int} (hl : X[a]? = some l) : IsX N (M ++ [(a, b)]) (X.set a (l ++ [(b : Int)])) := by
  refine ⟨by rw [List.length_set]; exact h.1, fun n l' hl' => ?_⟩
  rcases set_get hl' with ⟨rfl, rfl⟩ | ⟨hne, hl'⟩
  · obtain ⟨h1, h2⟩ := h.2 n l hl
    refine ⟨by simp; omega, fun x => ?_⟩
    rw [List.mem_append, h2, List.mem_singleton]
    constructor
    · rintro (⟨m, e, hm⟩ | rfl)
      · exact ⟨m, e, List.mem_append_left _ hm⟩
      · exact ⟨b, rfl, by simp⟩
    · rintro ⟨m, e, hm⟩
      rcases List.mem_append.mp hm with hm | hm
      · exact Or.inl ⟨m, e, hm⟩
      · simp at hm; subst hm; exact Or.inr e
  · obtain ⟨h1, h2⟩ := h.2 n l' hl'
    refine ⟨by simp; omega, fun x => ?_⟩
    rw [h2]
    constructor
    · rintro ⟨m, e, hm⟩; exact ⟨m, e, List.mem_append_left _ hm⟩
    · rintro ⟨m, e, hm⟩
      rcases List.mem_append.mp hm with hm | hm
      · exact ⟨m, e, hm⟩
      · simp at hm; exact absurd hm.1 hne
/-- The first k lists are sorted. -/
def IsY (N : Nat) (L : Arcs) (k : Nat) (X : List (List Int)) : Prop := IsX N L X ∧ ∀ (n : Nat) (l : List Int), X[n]? = some l → n < k → Asc l
theorem IsY.start {N : Nat} {L : Arcs} {X : List (List Int)} (h : IsX N L X) : IsY N L 0 X := ⟨h, fun n l _ h => by omega⟩
theorem IsY.step {N : Nat} {L : Arcs} {k : Nat} {X : List (List Int)} (h : IsY N L k X) {l : List Int} (hl : X[k]? = some l) : IsY N L (k + 1) (X.set k (nub l)) := by
  have hle : (nub l).length ≤ l.length := by unfold nub; exact Nat.le_trans (compact_le _) (Nat.le_of_eq (srt_len l))
  refine ⟨⟨by rw [List.length_set]; exact h.1.1, fun n l' hl' => ?_⟩, fun n l' hl' hn => ?_⟩
  · rcases set_get hl' with ⟨rfl, rfl⟩ | ⟨hne, hl'⟩
    · obtain ⟨h1, h2⟩ := h.1.2 n l hl
      exact ⟨by omega, fun b => by rw [(nub_is l).2, h2]⟩
    · exact h.1.2 n l' hl'
  · rcases set_get hl' with ⟨rfl, rfl⟩ | ⟨hne, hl'⟩
    · exact (nub_is l).1
    · exact h.2 n l' hl' (by omega)
theorem IsY.done {N : Nat} {L : Arcs} {X : List (List Int)} (h : IsY N L N X) : IsH N L X :=
  ⟨h.1.1, fun n l hl => ⟨h.2 n l hl (by have := lt_of_get hl; have := h.1.1; omega), (h.1.2 n l hl).1, (h.1.2 n l hl).2⟩⟩

theorem take_snoc_of {α : Type} {l : List α} {k : Nat} {z : α} (h : l[k]? = some z) : l.take (k + 1) = l.take k ++ [z] := by
  rw [List.take_add_one, h]; rfl
/-! ### The walk -/
theorem grown_of {B : Nat} {w w' : World} {row : Option Nat} (hb : Below B w w') (hk : ∀ b, b < w.heap.size → row ≠ some b → w'.heap[b]? = w.heap[b]?) : w.grownBy w' row :=
  ⟨hb.os, hb.tape, hb.output, hb.size, fun k h1 h2 => hk k h1 fun e => h2 e.symm⟩
theorem heads_step {B : Nat} {wq w' : World} {g N a g' m cap : Nat} {xs : List Value} {X : List (List Int)} {v : Value} {l : List Int} (hT : Tb B wq g N xs X) (hk : xs[a]? = some v) (hb : Below B wq w') (hkeep : ∀ b, b < wq.heap.size → v.ownBlock ≠ some b → w'.heap[b]? = wq.heap[b]?)
    (ho : Own eI 3 B w' (.slice (some ⟨g', 0, none⟩) m cap) l) (hat : v.ownBlock = some g' ∨ wq.heap.size ≤ g') :
    Tb B (w'.setCell ⟨g, a, none⟩ (.slice (some ⟨g', 0, none⟩) m cap)) g N (xs.set a (.slice (some ⟨g', 0, none⟩) m cap)) (X.set a l) ∧ Below B wq (w'.setCell ⟨g, a, none⟩ (.slice (some ⟨g', 0, none⟩) m cap)) :=
  ⟨hT.turn hk (grown_of hb hkeep) ho fun b hb' => by
    have : g' = b := by simpa [Value.ownBlock] using hb'
    subst this; exact hat, hb.setCell hT.lt.1 _⟩

set_option maxHeartbeats 3200000 in
theorem graph_headsOf (N : Nat) (L : Arcs) (A : Option Addr) (c : Nat) (w : World) (hN : N ≤ 64) (hL : L.length ≤ 512) (hok : Ok N L) (ha : Ars w A (asI L)) :
    Calls Try.prog 31 #[.agg #[.int .i64 (N : Int), .slice A L.length c]] w fun e w' => ∃ A' H, e = .returned (.slice A' N N) ∧ IsH N L H ∧ Hd w' A' H ∧ Below w.heap.size w w' := by
  have HA := Lib.hid ha
  have hmk := fun W => make_rows N (by omega) W
  have HN := Lib.hid hN
  have HL := Lib.hid hL
  have HOK := Lib.hid hok
  clear ha hok
  go_enter Try.func31, Try.ntmps31
  go_upto_region 1 with fail
  obtain ⟨w1, hw1⟩ : ∃ W, w.alloc (.cells #[.int .i64 (N : Int), .slice A L.length c] 24) = W := ⟨_, rfl⟩
  have HX0 : Hid (Bx w1 w.heap.size N A L.length c) := hw1 ▸ Bx.new _ _ _ _ _ _
  have HB0 : Hid (Below w.heap.size w w1) := hw1 ▸ below_alloc _ _
  have HT0 := Lib.hid (Tb.start w1 N (by omega))
  obtain ⟨_, x0, x1⟩ := HX0.out
  have y1 := HX0.out.a1
  rw [hw1]
  clear hw1
  go_wp2_with fail
  obtain ⟨g, hg⟩ : ∃ g, w1.heap.size = g := ⟨_, rfl⟩
  have HG := Lib.hid hg
  rw [hg] at HT0 ⊢
  clear hmk x0 x1 y1 hg
  go_loopw [14] (fun i wr => ∃ (k : Nat) (xs : List Value) (X : List (List Int)), k ≤ L.length ∧ i = .int .i64 k ∧ IsX N (L.take k) X ∧ Tb g wr g N xs X ∧ Below g w1 wr) (fun i _ => L.length - (intOf i).toNat)
  case atStart => exact ⟨0, _, _, Nat.zero_le _, rfl, by rw [List.take_zero]; exact IsX.start N, HT0.out, HG.out ▸ below_alloc _ _⟩
  case round =>
    obtain ⟨k, xs, X, hk, rfl, hX, hT, hbel⟩ := hrel
    have HW := Lib.hid hbel
    have HTB := Lib.hid hT
    have HIX := Lib.hid hX
    have hBW : Below w.heap.size w wr := HB0.out.trans (hbel.mono (HG.out ▸ HB0.out.size))
    clear hbel hT hX
    rcases Nat.lt_or_ge k L.length with hlt | hge
    · obtain ⟨⟨a, b⟩, hs⟩ := get_lt hlt
      have hab := HOK.out a b (List.mem_of_getElem? hs)
      obtain ⟨g0, off, rfl, hg0, h0, h1⟩ := (HA.out.on hBW).nat hs
      have hxa : a < xs.length := by rw [HTB.out.len]; exact hab.1
      have hXa : a < X.length := by rw [HTB.out.lenX]; exact hab.1
      obtain ⟨l, hl⟩ := get_lt hXa
      obtain ⟨v, hv, hov⟩ := HTB.out.row a l hl
      have HS := Lib.hid hs
      have HV := Lib.hid hv
      have HPX : Hid (IsX N (L.take (k + 1)) (X.set a (l ++ [(b : Int)]))) := (by rw [take_snoc_of hs]; exact HIX.out.arc hl : IsX _ _ _)
      have i1 : (a : Int) < (N : Int) := by omega
      have i2 : (0 : Int) ≤ (a : Int) := by omega
      have i3 : (k : Int) < (L.length : Int) := by omega
      have hll := (HIX.out.2 a l hl).1
      obtain ⟨m, hm⟩ : ∃ m, m = l.length := ⟨_, rfl⟩
      have HM := Lib.hid hm
      have HLE : Hid (m + 1 ≤ 1000000) := (by rw [hm]; rw [List.length_take] at hll; omega : m + 1 ≤ 1000000)
      clear hs hv hl hm hll hxa hXa
      go_upto_region 5 with fail
      obtain ⟨wq, hwq⟩ : ∃ W, wr.alloc (.cells #[.int .i64 (a : Int), .int .i64 (b : Int)] 42) = W := ⟨_, rfl⟩
      obtain ⟨g5, hg5⟩ : ∃ g5, wr.heap.size = g5 := ⟨_, rfl⟩
      have hq1 : wq.cell? ⟨g5, 0, none⟩ = some (.int .i64 (a : Int)) := by rw [← hwq, ← hg5]; simp
      have hq2 : wq.cell? ⟨g5, 1, none⟩ = some (.int .i64 (b : Int)) := by rw [← hwq, ← hg5]; simp
      have hq5 : g5 < wq.heap.size := by rw [← hwq, ← hg5]; simp
      have HTQ : Hid (Tb g wq g N xs X) := hwq ▸ HTB.out.on (below_alloc _ _)
      have HOV : Hid (Own eI 3 g wq v l) := hwq ▸ hov.alloc _
      have HVN : Hid (v.ownBlock ≠ some g5) := by intro e; have := (hov.lt g5 e).2; omega
      have HWQ : Hid (Below g w1 wq) := hwq ▸ (HW.out.alloc (Nat.le_of_lt HTB.out.lt.2) _)
      rw [hwq, hg5]
      clear hwq hg5 hov h0 h1 hg0 hBW
      have hq3 := HTQ.out.cell HV.out
      have q1 : ∀ o, (wq.alloc o).cell? ⟨g5, 0, none⟩ = some (.int .i64 (a : Int)) := fun o => ((below_alloc wq o).cell (p := ⟨g5, 0, none⟩) hq5).trans hq1
      have q2 : ∀ o, (wq.alloc o).cell? ⟨g5, 1, none⟩ = some (.int .i64 (b : Int)) := fun o => ((below_alloc wq o).cell (p := ⟨g5, 1, none⟩) hq5).trans hq2
      have q3 : ∀ o, (wq.alloc o).cell? ⟨g, a, none⟩ = some v := fun o => ((below_alloc wq o).cell (p := ⟨g, a, none⟩) HTQ.out.lt.2).trans hq3
      have HQ5 := Lib.hid hq5
      have HQ1 := Lib.hid hq1
      have HGB : Hid (g ≤ wq.heap.size) := Nat.le_of_lt HTQ.out.lt.2
      go_region_law (refine step_int wq rfl (.tmp 25) (.tmp 28) rfl g v l (by simp [Act.eval]) HOV.out (by first | exact below_alloc _ _ | exact below_drew (below_alloc _ _)) wq.heap.size 1 (b : Int) (by simp [Act.eval]) (by simp) m HM.out HLE.out HGB.out ?_; intro g' cap' w' hown' hk' hb' hat; have HK' := Lib.hid hk'; have y1' : w'.cell? ⟨g5, 0, none⟩ = some (.int .i64 (a : Int)) := (World.cell?_of_block (a := ⟨g5, 0, none⟩) (HK'.out g5 HQ5.out HVN.out)).trans HQ1.out; have z1' : w'.cell? ⟨g, a, none⟩ = some v := (World.cell?_of_block (a := ⟨g, a, none⟩) (HK'.out g HTQ.out.lt.2 (HTQ.out.gap a v HV.out))).trans (HTQ.out.cell HV.out); have f1' : w'.frozen? ⟨g, a, none⟩ = false := (World.frozen?_of_block (a := ⟨g, a, none⟩) (HK'.out g HTQ.out.lt.2 (HTQ.out.gap a v HV.out))).trans (HTQ.out.warm a))
      all_goals (
        have HS2 := Lib.hid (heads_step HTQ.out HV.out hb' hk' hown' hat)
        clear hown' hk' hb' hat y1' z1' f1'
        go_wp2_with fail
        go_roundw
        case rel => exact ⟨k + 1, _, _, by omega, by go_num, HPX.out, HS2.out.1, HWQ.out.trans HS2.out.2⟩
        case measure => simp [intOf]; omega)
    · obtain rfl : k = L.length := by omega
      have HY0 : Hid (IsY N L 0 X) := IsY.start (by have := HIX.out; rw [List.take_length] at this; exact this)
      have HW0 := Lib.hid hBW
      clear hge hk hBW
      go_wp2_with fail
      go_loopw [34] (fun i wr => ∃ (k : Nat) (xs : List Value) (X : List (List Int)), k ≤ N ∧ i = .int .i64 k ∧ IsY N L k X ∧ Tb g wr g N xs X ∧ Below g w1 wr) (fun i _ => N - (intOf i).toNat)
      case atStart => exact ⟨0, _, _, Nat.zero_le _, rfl, HY0.out, HTB.out, HW.out⟩
      case round =>
        clear HY0 HTB HW HW0 HIX
        obtain ⟨k, xs, X, hk, rfl, hY, hT, hbel⟩ := hrel
        have HW := Lib.hid hbel
        have HTB := Lib.hid hT
        have HIY := Lib.hid hY
        have HBW : Hid (Below w.heap.size w wr) := HB0.out.trans (hbel.mono (HG.out ▸ HB0.out.size))
        clear hbel hT hY
        rcases Nat.lt_or_ge k N with hlt | hge
        · obtain ⟨l, hl⟩ := get_lt (L := X) (k := k) (by rw [HTB.out.lenX]; exact hlt)
          obtain ⟨v, hv, hov⟩ := HTB.out.row k l hl
          have hll := (HIY.out.1.2 k l hl).1
          have HSY := Lib.hid (HIY.out.step hl)
          have HSO := Lib.hid (sort_own l v g wr hov (by omega))
          have HV := Lib.hid hv
          have hc := HTB.out.cell hv
          have i1 : (k : Int) < (N : Int) := by omega
          have i2 : (0 : Int) ≤ (k : Int) := by omega
          have HLL : Hid ((srt l).length ≤ 1000000) := (by rw [srt_len]; omega : (srt l).length ≤ 1000000)
          clear hl hv hov hll
          go_wp2_with fail
          refine HSO.out.mono ?_
          rintro e w2 ⟨rfl, ho2, hg2⟩
          have HT2 := Lib.hid (HTB.out.still HV.out hg2 ho2)
          have HCO := Lib.hid (compact_own (srt l) v g w2 ho2 HLL.out)
          have HB2 := Lib.hid (HW.out.trans (HTB.out.below HV.out hg2 (Nat.le_of_lt HTB.out.lt.2)))
          clear ho2 hg2 hc
          go_wp2_with fail
          refine HCO.out.mono ?_
          rintro e w3 ⟨v', rfl, ho3, hob, hg3⟩
          obtain ⟨A3, c3, e3, _⟩ := ho3.inS
          obtain ⟨n3, hn3⟩ : ∃ n3, n3 = (Lib.compact (srt l)).length := ⟨_, rfl⟩
          rw [← hn3] at e3
          subst e3
          have hc3 : w3.cell? ⟨g, k, none⟩ = some v := (World.cell?_of_block (a := ⟨g, k, none⟩) (hg3.block g HT2.out.lt.2 fun e => HT2.out.gap k v HV.out e.symm)).trans (HT2.out.cell HV.out)
          have hf3 : w3.frozen? ⟨g, k, none⟩ = false := (World.frozen?_of_block (a := ⟨g, k, none⟩) (hg3.block g HT2.out.lt.2 fun e => HT2.out.gap k v HV.out e.symm)).trans (HT2.out.warm k)
          have HT3 := Lib.hid (HT2.out.turn HV.out hg3 ho3 fun b hb => Or.inl (hob ▸ hb))
          have HB3 := Lib.hid ((HB2.out.trans (HT2.out.below HV.out hg3 (Nat.le_of_lt HT2.out.lt.2))).setCell (p := ⟨g, k, none⟩) (Nat.le_refl _) (.slice A3 n3 c3))
          rw [List.set_set] at HT3
          clear ho3 hob hg3 hn3
          go_wp2_with fail
          go_roundw
          case rel => exact ⟨k + 1, _, _, by omega, by go_num, HSY.out, HT3.out, HB3.out⟩
          case measure => simp [intOf]; omega
        · obtain rfl : k = N := by omega
          go_wp2_with fail
          go_ret
          exact ⟨_, X, rfl, HIY.out.done, HTB.out.hd, HBW.out⟩
#print axioms graph_headsOf
end Go.Proofs.Ytlbknnafecdakaa.Graph
