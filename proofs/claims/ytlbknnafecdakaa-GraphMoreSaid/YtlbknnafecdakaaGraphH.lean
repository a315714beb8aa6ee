/- Arcs made and set; turned; Reverse. -/
import Derived.Test.YtlbknnafecdakaaGraphG
import Derived.Deep.Cut
namespace Go.Proofs.Ytlbknnafecdakaa.Graph
open Go.ChangeShapes Go.WideShapes Go.RowKit Go.Lib
set_option linter.unusedVariables false
set_option maxRecDepth 100000

theorem Ars.keep {w w' : World} {A : Option Addr} {L : List Pr} (h : Ars w A L) (hs : w.heap.size ≤ w'.heap.size) (hk : ∀ b off, A = some ⟨b, off, none⟩ → w'.heap[b]? = w.heap[b]?) : Ars w' A L := by
  intro k s hs'
  obtain ⟨b, off, e, hlt, h0, h1⟩ := h k s hs'
  exact ⟨b, off, e, Nat.lt_of_lt_of_le hlt hs, (World.cell?_of_block (a := ⟨b, off + k * 2, none⟩) (hk b off e)).trans h0, (World.cell?_of_block (a := ⟨b, off + k * 2 + 1, none⟩) (hk b off e)).trans h1⟩
theorem frozen_of {W : World} {g : Nat} {cs : Array Value} {t : TypeId} (h : W.heap[g]? = some (.cells cs t (0, 0))) (i : Nat) : W.frozen? ⟨g, i, none⟩ = false := by simp [World.frozen?, h]
/-- Arcs that are filled in, one by one. -/
def Fil (w : World) (g n : Nat) (D : List Pr) : Prop :=
  ∃ cur, w.heap[g]? = some (.cells cur 42 (0, 0)) ∧ cur.size = n * 2 ∧ (∀ j, j < n * 2 → ∃ z, cur[j]? = some (.int .i64 z)) ∧
    ∀ (k : Nat) (s : Pr), D[k]? = some s → cur[k * 2]? = some (.int .i64 s.1) ∧ cur[k * 2 + 1]? = some (.int .i64 s.2)
theorem Fil.lt {w : World} {g n : Nat} {D : List Pr} (h : Fil w g n D) : g < w.heap.size := by
  obtain ⟨cur, hg, _⟩ := h; exact (Array.getElem?_eq_some_iff.mp hg).1
theorem Fil.keep {w w' : World} {g n : Nat} {D : List Pr} (h : Fil w g n D) (hk : w'.heap[g]? = w.heap[g]?) : Fil w' g n D := by
  obtain ⟨cur, hg, h1⟩ := h; exact ⟨cur, hk.trans hg, h1⟩
theorem Fil.on {w w' : World} {g n : Nat} {D : List Pr} (h : Fil w g n D) (hb : Below w.heap.size w w') : Fil w' g n D := h.keep (hb.block g h.lt)
theorem Fil.at_ {w : World} {g n : Nat} {D : List Pr} (h : Fil w g n D) {j : Nat} (hj : j < n * 2) : (∃ z, w.cell? ⟨g, j, none⟩ = some (.int .i64 z)) ∧ w.frozen? ⟨g, j, none⟩ = false := by
  obtain ⟨cur, hg, _, h1, _⟩ := h
  obtain ⟨z, hz⟩ := h1 j hj
  exact ⟨⟨z, by rw [cell_of_row w g j cur _ (0, 0) hg]; exact hz⟩, frozen_of hg _⟩
theorem Fil.store {w : World} {g n : Nat} {D : List Pr} (h : Fil w g n D) {k : Nat} (hk : k = D.length) (hl : k < n) (x y : Int) :
    Fil ((w.setCell ⟨g, k * 2, none⟩ (.int .i64 x)).setCell ⟨g, k * 2 + 1, none⟩ (.int .i64 y)) g n (D ++ [(x, y)]) := by
  subst hk
  obtain ⟨cur, hg, hs, h1, h2⟩ := h
  refine ⟨(cur.set! (D.length * 2) (.int .i64 x)).set! (D.length * 2 + 1) (.int .i64 y), by simp [World.setCell, Array.getElem?_modify, hg], by simp [hs], fun j hj => ?_, fun k s hk => ?_⟩
  · obtain ⟨z, hz⟩ := h1 j hj
    simp only [Array.set!_eq_setIfInBounds, Array.getElem?_setIfInBounds, Array.size_setIfInBounds]
    split
    · exact ⟨y, by rw [if_pos (by omega)]⟩
    · split
      · exact ⟨x, by rw [if_pos (by omega)]⟩
      · exact ⟨z, hz⟩
  · have hkl := lt_of_get hk
    rw [List.length_append, List.length_singleton] at hkl
    simp only [Array.set!_eq_setIfInBounds, Array.getElem?_setIfInBounds, Array.size_setIfInBounds]
    rcases Nat.lt_or_eq_of_le (Nat.le_of_lt_succ hkl) with h3 | rfl
    · rw [List.getElem?_append_left h3] at hk
      rw [if_neg (by omega), if_neg (by omega), if_neg (by omega), if_neg (by omega)]
      exact h2 k s hk
    · rw [List.getElem?_append_right (Nat.le_refl _), Nat.sub_self] at hk
      obtain rfl : (x, y) = s := by simpa using hk
      rw [if_neg (by omega), if_pos rfl, if_pos (by omega), if_pos rfl, if_pos (by omega)]
      exact ⟨rfl, rfl⟩
theorem Fil.ars {w : World} {g n : Nat} {D : List Pr} (h : Fil w g n D) : Ars w (some ⟨g, 0, none⟩) D := by
  intro k s hs
  refine ⟨g, 0, rfl, h.lt, ?_, ?_⟩
  · obtain ⟨cur, hg, _, _, h2⟩ := h
    rw [cell_of_row w g _ cur _ (0, 0) hg, Nat.zero_add]; exact (h2 k s hs).1
  · obtain ⟨cur, hg, _, _, h2⟩ := h
    rw [cell_of_row w g _ cur _ (0, 0) hg, Nat.zero_add]; exact (h2 k s hs).2
theorem fil_start (W : World) (n : Nat) : Fil (W.alloc (.cells (madeCells #[.int .i64 0, .int .i64 0] (n * 2)) 42)) W.heap.size n [] := by
  refine ⟨_, heap_alloc_new W _, by simp [madeCells], fun j hj => ⟨0, ?_⟩, fun k s hs => by simp at hs⟩
  have hm : j % 2 = 0 ∨ j % 2 = 1 := by omega
  unfold madeCells
  rcases hm with hm | hm <;> simp [hj, hm]
def swp (L : List Pr) : List Pr := L.map fun e => (e.2, e.1)
theorem swp_len (L : List Pr) : (swp L).length = L.length := by simp [swp]
theorem swp_asI (L : Arcs) : swp (asI L) = asI (rev L) := by simp [swp, asI, rev]
theorem swp_take {L : List Pr} {k : Nat} {s : Pr} (h : L[k]? = some s) : (swp L).take (k + 1) = (swp L).take k ++ [(s.2, s.1)] := by
  rw [List.take_add_one]
  have : (swp L)[k]? = some (s.2, s.1) := by unfold swp; rw [List.getElem?_map, h]; rfl
  rw [this]; rfl
/-- A box of a graph that may be set. -/
def Wx (w : World) (g : Nat) : Prop := g < w.heap.size ∧ (∃ n A m c, w.cell? ⟨g, 0, none⟩ = some (.int .i64 n) ∧ w.cell? ⟨g, 1, none⟩ = some (.slice A m c)) ∧ w.frozen? ⟨g, 0, none⟩ = false ∧ w.frozen? ⟨g, 1, none⟩ = false
theorem Wx.on {w w' : World} {g : Nat} (h : Wx w g) (hb : Below w.heap.size w w') : Wx w' g := by
  obtain ⟨h1, ⟨n, A, m, c, h2, h3⟩, h4, h5⟩ := h
  exact ⟨Nat.lt_of_lt_of_le h1 hb.size, ⟨n, A, m, c, (hb.cell (p := ⟨g, 0, none⟩) h1).trans h2, (hb.cell (p := ⟨g, 1, none⟩) h1).trans h3⟩, (hb.frozen (p := ⟨g, 0, none⟩) h1).trans h4, (hb.frozen (p := ⟨g, 1, none⟩) h1).trans h5⟩
theorem Wx.new (w : World) (n : Int) (A : Option Addr) (m c : Nat) (T : TypeId) : Wx (w.alloc (.cells #[.int .i64 n, .slice A m c] T)) w.heap.size := ⟨by simp, ⟨n, A, m, c, by simp, by simp⟩, by simp, by simp⟩
theorem Wx.keep {w w' : World} {g : Nat} (h : Wx w g) (hs : w.heap.size ≤ w'.heap.size) (hb : w'.heap[g]? = w.heap[g]?) : Wx w' g := by
  obtain ⟨h1, ⟨n, A, m, c, h2, h3⟩, h4, h5⟩ := h
  exact ⟨Nat.lt_of_lt_of_le h1 hs, ⟨n, A, m, c, (World.cell?_of_block (a := ⟨g, 0, none⟩) hb).trans h2, (World.cell?_of_block (a := ⟨g, 1, none⟩) hb).trans h3⟩, (World.frozen?_of_block (a := ⟨g, 0, none⟩) hb).trans h4, (World.frozen?_of_block (a := ⟨g, 1, none⟩) hb).trans h5⟩
theorem Bx.keep {w w' : World} {g : Nat} {n : Int} {A : Option Addr} {m c : Nat} (h : Bx w g n A m c) (hs : w.heap.size ≤ w'.heap.size) (hb : w'.heap[g]? = w.heap[g]?) : Bx w' g n A m c :=
  ⟨Nat.lt_of_lt_of_le h.1 hs, (World.cell?_of_block (a := ⟨g, 0, none⟩) hb).trans h.2.1, (World.cell?_of_block (a := ⟨g, 1, none⟩) hb).trans h.2.2⟩
theorem Wx.put {w : World} {g : Nat} (h : Wx w g) (n : Int) (A : Option Addr) (m c : Nat) : Bx ((w.setCell ⟨g, 0, none⟩ (.int .i64 n)).setCell ⟨g, 1, none⟩ (.slice A m c)) g n A m c := by
  obtain ⟨h1, ⟨n', A', m', c', h2, h3⟩, _⟩ := h
  have e1 : (w.setCell ⟨g, 0, none⟩ (.int .i64 n)).cell? ⟨g, 0, none⟩ = some (.int .i64 n) := World.cell?_setCell_same _ _ _ h2
  have e2 : (w.setCell ⟨g, 0, none⟩ (.int .i64 n)).cell? ⟨g, 1, none⟩ = some (.slice A' m' c') := (World.cell?_setCell_other _ _ _ _ (by simp)).trans h3
  exact ⟨by simpa using h1, (World.cell?_setCell_other _ _ _ _ (by simp)).trans e1, World.cell?_setCell_same _ _ _ e2⟩
/-- Results that hold a graph in a box. -/
theorem res_graph {fn : Func} {p : Tmp} (h : fn.results = #[.cell p 24]) {tmps : Array Value} {w : World} {g : Nat} {n : Int} {A : Option Addr} {m c : Nat} (hp : tmps.getD p undef = .pointer (some ⟨g, 0, none⟩))
    (h0 : w.cell? ⟨g, 0, none⟩ = some (.int .i64 n)) (h1 : w.cell? ⟨g, 1, none⟩ = some (.slice A m c)) : (results fn tmps).run Try.prog w = .ok (.agg #[.int .i64 n, .slice A m c]) w := by
  have hp' : tmps[p]?.getD undef = .pointer (some ⟨g, 0, none⟩) := by simpa using hp
  simp [results, h, hp', go_sem, h0, h1]
theorem res_graph2 {fn : Func} {p u : Tmp} (h : fn.results = #[.cell p 24, .tmp u]) {tmps : Array Value} {w : World} {g : Nat} {n : Int} {A : Option Addr} {m c : Nat} (hp : tmps.getD p undef = .pointer (some ⟨g, 0, none⟩))
    (h0 : w.cell? ⟨g, 0, none⟩ = some (.int .i64 n)) (h1 : w.cell? ⟨g, 1, none⟩ = some (.slice A m c)) : (results fn tmps).run Try.prog w = .ok (.tuple #[.agg #[.int .i64 n, .slice A m c], tmps.getD u undef]) w := by
  have hp' : tmps[p]?.getD undef = .pointer (some ⟨g, 0, none⟩) := by simpa using hp
  simp [results, h, hp', go_sem, h0, h1]

set_option maxHeartbeats 800000 in
theorem graph_turned (n : Int) (L : List Pr) (A : Option Addr) (c : Nat) (w : World) (ha : Ars w A L) (hm : L.length ≤ 1000) :
    Calls Try.prog 39 #[.agg #[.int .i64 n, .slice A L.length c]] w fun e w' => ∃ A', e = .returned (.agg #[.int .i64 n, .slice A' L.length L.length]) ∧ Ars w' A' (swp L) ∧ (∃ g, A' = some ⟨g, 0, none⟩ ∧ w.heap.size ≤ g) ∧ Below w.heap.size w w' := by
  have HA := Lib.hid ha
  have hmk := fun W => make_arcs L.length (by omega) W
  have HM := Lib.hid hm
  clear ha
  go_enter Try.func39, Try.ntmps39
  go_wp2_with fail
  clear hmk
  generalize hw1 : (w.alloc (.cells #[.int .i64 n, .slice A L.length c] 24)).alloc (.cells #[.int .i64 0, .slice none 0 0] 24) = w1
  have HX0 : Hid (Bx w1 w.heap.size n A L.length c) := hw1 ▸ (Bx.new _ _ _ _ _ _).on (below_alloc _ _)
  have HR0 : Hid (Wx w1 (w.heap.size + 1)) := hw1 ▸ (by have := Wx.new (w.alloc (.cells #[.int .i64 n, .slice A L.length c] 24)) 0 none 0 0 24; rw [World.size_alloc] at this; exact this : Wx _ _)
  have HB0 : Hid (Below w.heap.size w w1) := hw1 ▸ bstep (below_alloc _ _) (below_alloc _ _)
  have hsz1 : w1.heap.size = w.heap.size + 1 + 1 := by rw [← hw1]; simp
  have HF0 := Lib.hid (fil_start w1 L.length)
  rw [hsz1] at HF0
  have HSZ := Lib.hid hsz1
  have hsz2 : w.heap.size + 1 < w1.heap.size := by omega
  clear hw1 hsz1
  go_loopw [13] (fun i wr => ∃ k : Nat, k ≤ L.length ∧ i = .int .i64 k ∧ Fil wr (w.heap.size + 1 + 1) L.length ((swp L).take k) ∧ Below w1.heap.size w1 wr) (fun i _ => L.length - (intOf i).toNat)
  case atStart => exact ⟨0, Nat.zero_le _, rfl, HF0.out, below_alloc _ _⟩
  case round =>
    obtain ⟨k, hk, rfl, hfil, hbel⟩ := hrel
    have HFI := Lib.hid hfil
    have HW := Lib.hid hbel
    have HBW : Hid (Below w.heap.size w wr) := bstep HB0.out hbel
    have hgl := hfil.lt
    have hsz := hbel.size
    have hx := HX0.out.on hbel
    have hr := HR0.out.on hbel
    clear hfil hbel
    rcases Nat.lt_or_ge k L.length with hlt | hge
    · obtain ⟨s, hs⟩ := get_lt hlt
      obtain ⟨b, off, rfl, hb, h0, h1⟩ := HA.out.on HBW.out k s hs
      have HS := Lib.hid hs
      clear hs
      obtain ⟨⟨z0, q0⟩, p0⟩ := HFI.out.at_ (j := k * 2) (by omega)
      obtain ⟨⟨z1, q1⟩, p1⟩ := HFI.out.at_ (j := k * 2 + 1) (by omega)
      go_wp2_with fail
      go_roundw
      case rel =>
        refine ⟨k + 1, by omega, by go_num, ?_, ?_⟩
        · rw [swp_take HS.out]
          exact (HFI.out.store (by rw [List.length_take, swp_len]; omega) hlt _ _).on (below_alloc _ _)
        · exact ((HW.out.setCell (p := ⟨w.heap.size + 1 + 1, _, none⟩) (Nat.le_of_eq HSZ.out) _).setCell (p := ⟨w.heap.size + 1 + 1, _, none⟩) (Nat.le_of_eq HSZ.out) _).alloc (by simpa using HW.out.size) _
      case measure => simp [intOf]; omega
    · obtain rfl : k = L.length := by omega
      obtain ⟨_, x0, x1⟩ := hx
      have HPUT := Lib.hid (hr.put n (some ⟨w.heap.size + 1 + 1, 0, none⟩) L.length L.length)
      obtain ⟨_, ⟨n', A', m', c', r0, r1⟩, r2, r3⟩ := hr
      go_wp2_with fail
      have HT := HFI.out
      rw [show (swp L).take L.length = swp L by rw [← swp_len, List.take_length]] at HT
      (try simp only [Exit.inBlock, Exit.then])
      refine bodyPost_ret (res_graph Try.results39 rfl (g := w.heap.size + 1) (n := n) (A := some ⟨w.heap.size + 1 + 1, 0, none⟩) (m := L.length) (c := L.length) ?_ ?_) rfl ⟨_, rfl, ?_, ⟨_, rfl, by omega⟩, ?_⟩
      · exact HPUT.out.2.1
      · exact HPUT.out.2.2
      · exact (HT.keep (by simp [World.setCell, Array.getElem?_modify])).ars
      · exact (HBW.out.setCell (p := ⟨w.heap.size + 1, _, none⟩) (Nat.le_succ _) _).setCell (p := ⟨w.heap.size + 1, _, none⟩) (Nat.le_succ _) _

/-- What Reverse returns. -/
def RvR (n : Int) (L : List Pr) (w : World) (e : Ending) (w' : World) : Prop :=
  (chkE n L = 0 ∧ (∃ A' c', e = .returned (.tuple #[.agg #[.int .i64 n, .slice A' L.length c'], .int .i64 0]) ∧ L.length ≤ c' ∧ c' ≤ maxLen ∧ Ars w' A' (swp L)) ∧ Below w.heap.size w w') ∨
  (chkE n L ≠ 0 ∧ e = .returned (.tuple #[.agg #[.int .i64 0, .slice none 0 0], .int .i64 (chkE n L)]) ∧ Below w.heap.size w w')
theorem chk_len {n : Int} {L : List Pr} (h : chkE n L = 0) : L.length ≤ 512 := by
  obtain ⟨N, M, _, _, rfl, h1, _⟩ := chk_ok h
  rw [asI_len]; exact h1
theorem chk_pos {n : Int} {L : List Pr} : 0 ≤ chkE n L ∧ chkE n L ≤ 8 := by
  unfold chkE
  split
  · omega
  · split
    · omega
    · split <;> omega

set_option maxHeartbeats 800000 in
theorem graph_Reverse (n : Int) (L : List Pr) (A : Option Addr) (c : Nat) (w : World) (ha : Ars w A L) (hm : L.length ≤ 9223372036854775807) :
    Calls Try.prog 26 #[.agg #[.int .i64 n, .slice A L.length c]] w (RvR n L w) := by
  have HA := Lib.hid ha
  have HM := Lib.hid hm
  clear ha
  go_enter Try.func26, Try.ntmps26
  go_upto_region 1 with fail
  generalize hw1 : (w.alloc (.cells #[.int .i64 n, .slice A L.length c] 24)).alloc (.cells #[.int .i64 0, .slice none 0 0] 24) = w1
  have HX0 : Hid (Bx w1 w.heap.size n A L.length c) := hw1 ▸ (Bx.new _ _ _ _ _ _).on (below_alloc _ _)
  have HR0 : Hid (Bx w1 (w.heap.size + 1) 0 none 0 0) := hw1 ▸ (by have := Bx.new (w.alloc (.cells #[.int .i64 n, .slice A L.length c] 24)) 0 none 0 0 24; rw [World.size_alloc] at this; exact this : Bx _ _ _ _ _ _)
  have HS0 : Hid (Wx w1 (w.heap.size + 1)) := hw1 ▸ (by have := Wx.new (w.alloc (.cells #[.int .i64 n, .slice A L.length c] 24)) 0 none 0 0 24; rw [World.size_alloc] at this; exact this : Wx _ _)
  have HB0 : Hid (Below w.heap.size w w1) := hw1 ▸ bstep (below_alloc _ _) (below_alloc _ _)
  clear hw1
  obtain ⟨_, x0, x1⟩ := HX0.out
  go_wp2_with fail
  refine (graph_Check n L A c w1 (HA.out.on HB0.out) hm).mono ?_
  rintro e w2 ⟨rfl, hb2⟩
  have HB2 := Lib.hid (bstep HB0.out hb2)
  have HX2 := Lib.hid (HX0.out.on hb2)
  have HR2 := Lib.hid (HR0.out.on hb2)
  have HS2 := Lib.hid (HS0.out.on hb2)
  clear hb2 x0 x1
  by_cases hz : chkE n L = 0
  · have HZ := Lib.hid hz
    have hl := chk_len hz
    rw [hz]
    clear hz
    obtain ⟨_, x0, x1⟩ := HX2.out
    go_wp2_with fail
    refine (graph_turned n L A c w2 (HA.out.on HB2.out) (by omega)).mono ?_
    rintro e w3 ⟨A', rfl, ha3, ⟨g3, rfl, hg3⟩, hb3⟩
    have HA3 := Lib.hid ha3
    have HB3 := Lib.hid (bstep HB2.out hb3)
    have hs3 := HS2.out.on hb3
    have HG3 : Hid (w.heap.size + 1 < g3) := Nat.lt_of_lt_of_le HS2.out.1 hg3
    have HPUT := Lib.hid (hs3.put n (some ⟨g3, 0, none⟩) L.length L.length)
    have HLT := Lib.hid hs3.1
    obtain ⟨_, ⟨n', A1, m', c', r0, r1⟩, r2, r3⟩ := hs3
    clear ha3 hb3
    go_wp2_with fail
    (try simp only [Exit.inBlock, Exit.then])
    refine bodyPost_ret (res_graph2 Try.results26 rfl (g := w.heap.size + 1) (n := n) (A := some ⟨g3, 0, none⟩) (m := L.length) (c := L.length) HPUT.out.2.1 HPUT.out.2.2) rfl (Or.inl ⟨HZ.out, ⟨some ⟨g3, 0, none⟩, L.length, rfl, Nat.le_refl _, by unfold maxLen; omega, ?_⟩, ?_⟩)
    · exact (HA3.out.keep (by simp [World.setCell]) fun b off e => by cases e; have := HG3.out; rw [Below.heap_setCell _ _ _ _ (by show g3 ≠ w.heap.size + 1; omega), Below.heap_setCell _ _ _ _ (by show g3 ≠ w.heap.size + 1; omega)])
    · exact (HB3.out.setCell (p := ⟨w.heap.size + 1, _, none⟩) (Nat.le_succ _) _).setCell (p := ⟨w.heap.size + 1, _, none⟩) (Nat.le_succ _) _
  · have HZ := Lib.hid hz
    have h1 : (chkE n L == 0) = false := beq_false_of_ne hz
    have h2 : (chkE n L != 0) = true := by simp [hz]
    obtain ⟨q, hq⟩ : ∃ q, chkE n L = q := ⟨_, rfl⟩
    have HQ := Lib.hid hq
    rw [hq] at h1 h2 ⊢
    clear hz hq
    obtain ⟨_, ⟨n', A1, m', c', r0, r1⟩, r2, r3⟩ := HS2.out
    have HPUT := Lib.hid (HS2.out.put 0 none 0 0)
    go_wp2_with fail
    (try simp only [Exit.inBlock, Exit.then])
    refine bodyPost_ret (res_graph2 Try.results26 rfl (g := w.heap.size + 1) (n := 0) (A := none) (m := 0) (c := 0) HPUT.out.2.1 HPUT.out.2.2) rfl (Or.inr ⟨HZ.out, by rw [HQ.out]; rfl, ?_⟩)
    exact (HB2.out.setCell (p := ⟨w.heap.size + 1, _, none⟩) (Nat.le_succ _) _).setCell (p := ⟨w.heap.size + 1, _, none⟩) (Nat.le_succ _) _

/-! ### Arcs that are appended -/
def cellsA (L : List Pr) : List Value := L.flatMap fun s => [.int .i64 s.1, .int .i64 s.2]
theorem cellsA_snoc (L : List Pr) (s : Pr) : cellsA (L ++ [s]) = cellsA L ++ [.int .i64 s.1, .int .i64 s.2] := by simp [cellsA]
theorem cellsA_at {L : List Pr} {k : Nat} {s : Pr} (h : L[k]? = some s) : (cellsA L)[k * 2]? = some (.int .i64 s.1) ∧ (cellsA L)[k * 2 + 1]? = some (.int .i64 s.2) := by
  induction L generalizing k with
  | nil => simp at h
  | cons t L ih =>
    have e : cellsA (t :: L) = .int .i64 t.1 :: .int .i64 t.2 :: cellsA L := rfl
    rw [e]
    cases k with
    | zero => simp at h; subst h; exact ⟨rfl, rfl⟩
    | succ k =>
      have := ih (k := k) (by simpa using h)
      rw [show (k + 1) * 2 = k * 2 + 1 + 1 by omega]
      simpa using this
/-- A slice of the call's own that holds the arcs L. -/
def OwnA (B : Nat) (w : World) (v : Value) (L : List Pr) : Prop := w.ownsRow B 42 2 v L.length (cellsA L)
theorem OwnA.nil (B : Nat) (w : World) : OwnA B w (.slice none 0 0) [] := World.ownsRow_nil _ _ _ _
theorem OwnA.lt {B : Nat} {w : World} {v : Value} {L : List Pr} (h : OwnA B w v L) : ∀ k, v.ownBlock = some k → B ≤ k ∧ k < w.heap.size := World.ownsRow.lt h
theorem OwnA.ars {B : Nat} {w : World} {v : Value} {L : List Pr} (h : OwnA B w v L) : ∃ A c, v = .slice A L.length c ∧ L.length ≤ c ∧ c ≤ maxLen ∧ Ars w A L := by
  obtain ⟨h1, ⟨rfl, h2⟩ | ⟨g, cap, cur, rfl, h2, h3, h4, h5, h6, h7⟩⟩ := h
  · obtain rfl : L = [] := List.eq_nil_of_length_eq_zero h2
    exact ⟨none, 0, rfl, Nat.le_refl _, by unfold maxLen; omega, Ars.nil _ _⟩
  · have key : ∀ j u, (cellsA L)[j]? = some u → w.cell? ⟨g, j, none⟩ = some u := fun j u hu => by
      rw [cell_of_row w g j cur _ (0, 0) h3]
      rw [← h7, List.getElem?_take] at hu
      split at hu
      · simpa using hu
      · cases hu
    refine ⟨_, cap, rfl, h4, h5, fun k s hs => ⟨g, 0, rfl, (Array.getElem?_eq_some_iff.mp h3).1, ?_, ?_⟩⟩
    · rw [Nat.zero_add]; exact key _ _ (cellsA_at hs).1
    · rw [Nat.zero_add]; exact key _ _ (cellsA_at hs).2
theorem OwnA.keep {B : Nat} {w w' : World} {v : Value} {L : List Pr} (h : OwnA B w v L) (hk : ∀ k, v.ownBlock = some k → w'.heap[k]? = w.heap[k]?) : OwnA B w' v L := by
  obtain ⟨h1, h0 | ⟨g, cap, cur, rfl, h2, h3, h4⟩⟩ := h
  · exact ⟨h1, Or.inl h0⟩
  · exact ⟨h1, Or.inr ⟨g, cap, cur, rfl, h2, (hk g rfl).trans h3, h4⟩⟩
theorem OwnA.on {B : Nat} {w w' : World} {v : Value} {L : List Pr} (h : OwnA B w v L) (hb : Below w.heap.size w w') : OwnA B w' v L := h.keep fun k hk => hb.block k (h.lt k hk).2
theorem OwnA.below {B : Nat} {w w' : World} {v : Value} {L : List Pr} (h : OwnA B w v L) (hg : w.grownBy w' v.ownBlock) (hB : B ≤ w.heap.size) : Below B w w' :=
  ⟨hg.os, hg.tape, hg.output, hg.size, fun i hi => hg.block i (Nat.lt_of_lt_of_le hi hB) fun e => by have := (h.lt i e.symm).1; omega⟩
/-- 'append(s, x)' of arcs. -/
theorem append_arc {w : World} {ops : Array Oper} {rest : List Oper} {o : Oper} {a : Act} {Q : Exit → Act → World → Prop} (hgd : o.guard = none) (s x : Operand)
    (ho : o.op = .call { callee := .builtin .append, args := #[s, x], argTypes := #[22, 22] })
    (B : Nat) (v : Value) (L : List Pr) (hs : a.eval s = v) (hown : OwnA B w v L) (g c0 : Nat) (z : Pr) (hx : a.eval x = .slice (some ⟨g, 0, none⟩) 1 c0) (hz0 : w.cell? ⟨g, 0, none⟩ = some (.int .i64 z.1)) (hz1 : w.cell? ⟨g, 1, none⟩ = some (.int .i64 z.2))
    (hlen : L.length + 1 ≤ 1000000) (hB : B ≤ w.heap.size)
    (h : ∀ v' w', OwnA B w' v' (L ++ [z]) → w.grownBy w' v.ownBlock → (v'.ownBlock = v.ownBlock ∨ v'.ownBlock = some w.heap.size) → wpList Try.prog ops Q rest (a.put o.dst v') w') : wpList Try.prog ops Q (o :: rest) a w := by
  obtain ⟨i0, hi0, hz, hzs, hzb⟩ := info_parts info_arc
  refine wpList_append_own_at w hgd s x _ ho B 42 i0 (.agg #[.int .i64 0, .int .i64 0]) 2 16 Try.underlying22 hi0 hz hzs hzb rfl (by decide) v L.length (cellsA L) hs hown ⟨g, 0, none⟩ 1 c0 [.int .i64 z.1, .int .i64 z.2] hx rfl ?_ (by intro u hu; simp at hu; rcases hu with rfl | rfl <;> rfl) (by unfold maxLen; omega) (by omega) hB ?_
  · intro j u hj
    match j, hj with
    | 0, hj => simp at hj; subst hj; rw [Addr.add_lit]; exact hz0
    | 1, hj => simp at hj; subst hj; rw [Addr.add_lit]; exact hz1
  · intro v' w' hown' hg _ hat
    exact h v' w' (by unfold OwnA; rw [List.length_append, cellsA_snoc]; exact hown') hg hat
#print axioms graph_Reverse
#print axioms append_arc
end Go.Proofs.Ytlbknnafecdakaa.Graph
