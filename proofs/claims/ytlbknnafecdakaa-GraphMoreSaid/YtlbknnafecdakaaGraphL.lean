/- reached: nodes visited by a closure that calls itself. -/
import Derived.Test.YtlbknnafecdakaaGraphK
import Derived.Laws.EntriesVeiled
namespace Go.Proofs.Ytlbknnafecdakaa.Graph
open Go.ChangeShapes Go.WideShapes Go.RowKit Go.Lib
set_option linter.unusedVariables false
set_option maxRecDepth 100000

/-! ### What a visit does (pure) -/
def tr (o : List Bool) (b : Nat) : Prop := o[b]? = some true
theorem count_set : ∀ {o : List Bool} {n : Nat}, o[n]? = some false → (o.set n true).count false + 1 = o.count false := by
  intro o
  induction o with
  | nil => intro n h; simp at h
  | cons x o ih =>
    intro n h
    cases n with
    | zero => simp at h; subst h; simp
    | succ n =>
      have := ih (n := n) (by simpa using h)
      rw [List.set_cons_succ, List.count_cons, List.count_cons]; omega
structure DfP (N : Nat) (L : Arcs) (n : Nat) (o o' : List Bool) : Prop where
  len : o'.length = N
  mono : ∀ b, tr o b → tr o' b
  self : tr o' n
  snd : ∀ b, tr o' b → tr o b ∨ Rp L n b
  clo : ∀ b c, tr o' b → ¬ tr o b → (b, c) ∈ L → tr o' c
  cnt : o'.count false ≤ o.count false
structure DfI (N : Nat) (L : Arcs) (n : Nat) (l : List Int) (o : List Bool) (k : Nat) (p : List Bool) : Prop where
  len : p.length = N
  mono : ∀ b, tr o b → tr p b
  self : tr p n
  snd : ∀ b, tr p b → tr o b ∨ Rp L n b
  clo : ∀ b c, tr p b → ¬ tr o b → b ≠ n → (b, c) ∈ L → tr p c
  prt : ∀ j c : Nat, j < k → l[j]? = some (c : Int) → tr p c
  cnt : p.count false + 1 ≤ o.count false
theorem DfI.start {N : Nat} {L : Arcs} {n : Nat} {l : List Int} {o : List Bool} (hl : o.length = N) (h : o[n]? = some false) : DfI N L n l o 0 (o.set n true) := by
  have hn : n < o.length := lt_of_get h
  refine ⟨by rw [List.length_set]; exact hl, fun b hb => ?_, get_set hn, fun b hb => ?_, fun b c hb hnb hne hbc => ?_, fun j c hj => by omega, by rw [count_set h]; exact Nat.le_refl _⟩
  · unfold tr at *
    by_cases e : b = n
    · subst e; exact get_set hn
    · rw [get_other e]; exact hb
  · rcases set_get hb with ⟨rfl, _⟩ | ⟨_, hb⟩
    · exact Or.inr (Rp.refl L b)
    · exact Or.inl hb
  · rcases set_get hb with ⟨rfl, _⟩ | ⟨_, hb⟩
    · exact absurd rfl hne
    · exact absurd hb hnb
theorem DfI.skip {N : Nat} {L : Arcs} {n : Nat} {l : List Int} {o p : List Bool} {k c : Nat} (h : DfI N L n l o k p) (hc : l[k]? = some (c : Int)) (ht : tr p c) : DfI N L n l o (k + 1) p := by
  refine ⟨h.len, h.mono, h.self, h.snd, h.clo, fun j d hj hd => ?_, h.cnt⟩
  rcases Nat.lt_or_eq_of_le (Nat.le_of_lt_succ hj) with h1 | rfl
  · exact h.prt j d h1 hd
  · rw [hc] at hd
    have : c = d := by have := Option.some.inj hd; omega
    subst this; exact ht
theorem DfI.call {N : Nat} {L : Arcs} {n : Nat} {l : List Int} {o p q : List Bool} {k c : Nat} (h : DfI N L n l o k p) (hc : l[k]? = some (c : Int)) (hnc : (n, c) ∈ L) (hq : DfP N L c p q) : DfI N L n l o (k + 1) q := by
  refine ⟨hq.len, fun b hb => hq.mono b (h.mono b hb), hq.mono n h.self, fun b hb => ?_, fun b d hb hnb hne hbd => ?_, fun j d hj hd => ?_, Nat.le_trans (Nat.add_le_add_right hq.cnt 1) h.cnt⟩
  · rcases hq.snd b hb with h1 | h1
    · exact h.snd b h1
    · exact Or.inr ((Rp.arc hnc).trans h1)
  · by_cases hp : tr p b
    · exact hq.mono d (h.clo b d hp hnb hne hbd)
    · exact hq.clo b d hb hp hbd
  · rcases Nat.lt_or_eq_of_le (Nat.le_of_lt_succ hj) with h1 | rfl
    · exact hq.mono d (h.prt j d h1 hd)
    · rw [hc] at hd
      have : c = d := by have := Option.some.inj hd; omega
      subst this; exact hq.self
theorem DfI.done {N : Nat} {L : Arcs} {n : Nat} {l : List Int} {o p : List Bool} (h : DfI N L n l o l.length p) (hl : ∀ b : Int, b ∈ l ↔ ∃ m : Nat, b = (m : Int) ∧ (n, m) ∈ L) : DfP N L n o p := by
  refine ⟨h.len, h.mono, h.self, h.snd, fun b c hb hnb hbc => ?_, Nat.le_of_succ_le h.cnt⟩
  by_cases e : b = n
  · subst e
    obtain ⟨j, hj⟩ := List.mem_iff_getElem?.mp ((hl (c : Int)).mpr ⟨c, rfl, hbc⟩)
    exact h.prt j c (lt_of_get hj) hj
  · exact h.clo b c hb hnb e hbc
theorem DfP.whole {N : Nat} {L : Arcs} {s : Nat} {o : List Bool} (h : DfP N L s (List.replicate N false) o) : IsR N L s o := by
  have hf : ∀ b, ¬ tr (List.replicate N false) b := by
    intro b hb
    unfold tr at hb
    rw [List.getElem?_replicate] at hb
    split at hb <;> cases hb
  refine ⟨h.len, fun b hb => ⟨fun ht => ?_, fun hr => ?_⟩⟩
  · rcases h.snd b ht with h1 | h1
    · exact absurd h1 (hf b)
    · exact h1
  · exact hr.closed (S := fun x => tr o x) h.self fun x y hxy hx => h.clo x y hx (hf x) hxy

/-! ### The closure -/
/-- The memory that a visit sees. -/
structure Vis (w0 w : World) (gs gh gv g N : Nat) (A : Option Addr) (H : List (List Int)) (o : List Bool) : Prop where
  s : w.cell? ⟨gs, 0, none⟩ = some (.slice (some ⟨g, 0, none⟩) N N)
  h : w.cell? ⟨gh, 0, none⟩ = some (.slice A N N)
  v : w.cell? ⟨gv, 0, none⟩ = some (.func (.func 42) #[] #[.pointer (some ⟨gs, 0, none⟩), .pointer (some ⟨gh, 0, none⟩), .pointer (some ⟨gv, 0, none⟩)])
  far : gs ≠ g ∧ gh ≠ g ∧ gv ≠ g
  own : Own eB 4 g w (.slice (some ⟨g, 0, none⟩) N N) o
  len : o.length = N
  hd : Hd w0 A H
  old : w0.heap.size ≤ g
  bel : Below w0.heap.size w0 w
theorem Vis.set {w0 w : World} {gs gh gv g N : Nat} {A : Option Addr} {H : List (List Int)} {o : List Bool} (h : Vis w0 w gs gh gv g N A H o) (n : Nat) : Vis w0 (w.setCell ⟨g, n, none⟩ (.bool true)) gs gh gv g N A H (o.set n true) :=
  ⟨(World.cell?_setCell_other _ _ _ _ (by have := h.far.1; intro e; cases e; exact this rfl)).trans h.s, (World.cell?_setCell_other _ _ _ _ (by have := h.far.2.1; intro e; cases e; exact this rfl)).trans h.h, (World.cell?_setCell_other _ _ _ _ (by have := h.far.2.2; intro e; cases e; exact this rfl)).trans h.v, h.far,
   h.own.set (by rw [h.len]) n true, by rw [List.length_set]; exact h.len, h.hd, h.old, h.bel.setCell (p := ⟨g, n, none⟩) h.old _⟩
theorem Vis.drewN {w0 w : World} {gs gh gv g N : Nat} {A : Option Addr} {H : List (List Int)} {o : List Bool} (h : Vis w0 w gs gh gv g N A H o) (q : Nat) : Vis w0 (w.drewN q) gs gh gv g N A H o :=
  ⟨h.s, h.h, h.v, h.far, h.own.drewN q, h.len, h.hd, h.old, below_drewN h.bel q⟩

set_option maxHeartbeats 1600000 in
theorem visit (N : Nat) (L : Arcs) (H : List (List Int)) (hN : N ≤ 64) (hL : L.length ≤ 512) (hok : Ok N L) (hH : IsH N L H) (w0 : World) (gs gh gv g : Nat) (A : Option Addr) : ∀ (m : Nat) (o : List Bool) (n : Nat) (w : World), Vis w0 w gs gh gv g N A H o → o[n]? = some false → o.count false ≤ m →
    Calls Try.prog 42 #[.int .i64 (n : Int), .pointer (some ⟨gs, 0, none⟩), .pointer (some ⟨gh, 0, none⟩), .pointer (some ⟨gv, 0, none⟩)] w fun e w' => e = .returned (.tuple #[]) ∧ ∃ o', Vis w0 w' gs gh gv g N A H o' ∧ DfP N L n o o' ∧ Below g w w' := by
  intro m
  induction m with
  | zero =>
    intro o n w hv ho hm
    have := count_set ho
    omega
  | succ m ih =>
    intro o n w hv ho hm
    have HIH := Lib.hid ih
    have HV := Lib.hid hv
    have HO := Lib.hid ho
    have HM := Lib.hid hm
    have HOK := Lib.hid hok
    have HH := Lib.hid hH
    have hn : n < N := by rw [← hv.len]; exact lt_of_get ho
    obtain ⟨l, hl⟩ := get_lt (L := H) (k := n) (by rw [hH.1]; exact hn)
    have HL1 := Lib.hid (hH.2 n l hl)
    have c1 := hv.s
    have c2 := hv.own.cell ho
    have c3 := hv.own.warm (by rw [hv.len]) n
    have i1 : (n : Int) < (N : Int) := by omega
    have i2 : (0 : Int) ≤ (n : Int) := by omega
    have HVS := Lib.hid (hv.set n)
    have HBS : Hid (Below g w (w.setCell ⟨g, n, none⟩ (.bool true))) := (Below.refl g w).setCell (p := ⟨g, n, none⟩) (Nat.le_refl _) _
    have HLL := Lib.hid hl
    clear ih hv ho hm hok hH hl
    go_enter Try.func42, Try.ntmps42
    go_upto_region 1 with fail
    obtain ⟨ws, hws⟩ : ∃ W, w.setCell ⟨g, n, none⟩ (.bool true) = W := ⟨_, rfl⟩
    rw [hws] at HVS HBS ⊢
    clear hws c1 c2 c3
    have d1 := HVS.out.h
    obtain ⟨b, off, rfl, hb, A', c', e1, e2, e3, e4⟩ := HVS.out.hd n l HLL.out
    have e1 := (HVS.out.bel.cell (p := ⟨b, off + n, none⟩) hb).trans e1
    have HE4 := Lib.hid e4
    clear e4 hb
    obtain ⟨q, hq⟩ : ∃ q, q = l.length := ⟨_, rfl⟩
    have HQ := Lib.hid hq
    have hq5 : q ≤ 512 := by rw [hq]; have := HL1.out.2.1; omega
    rw [← hq] at e1 e2
    clear hq
    go_wp2_with fail
    go_loopw [15] (fun i wr => ∃ (k : Nat) (p : List Bool), k ≤ q ∧ i = .int .i64 k ∧ DfI N L n l o k p ∧ Vis w0 wr gs gh gv g N (some ⟨b, off, none⟩) H p ∧ Below g w wr) (fun i _ => q - (intOf i).toNat)
    case atStart => exact ⟨0, _, Nat.zero_le _, rfl, DfI.start HV.out.len HO.out, HVS.out, HBS.out⟩
    case round =>
      clear HVS HBS d1 e1
      obtain ⟨k, p, hk, rfl, hd, hv, hbel⟩ := hrel
      have HD := Lib.hid hd
      have HVR := Lib.hid hv
      have HBR := Lib.hid hbel
      clear hd hv hbel
      rcases Nat.lt_or_ge k q with hlt | hge
      · obtain ⟨z, hz⟩ := get_lt (L := l) (k := k) (by rw [← HQ.out]; exact hlt)
        obtain ⟨x, rfl, hnx⟩ := (HL1.out.2.2 z).mp (List.mem_of_getElem? hz)
        obtain ⟨b2, off2, rfl, hb2, f1⟩ := HE4.out k _ hz
        have f1 := (HVR.out.bel.cell (p := ⟨b2, off2 + k, none⟩) hb2).trans f1
        have hxN := (HOK.out n x hnx).2
        obtain ⟨y, hy⟩ := get_lt (L := p) (k := x) (by rw [HD.out.len]; exact hxN)
        have f2 := HVR.out.own.cell hy
        have f3 := HVR.out.s
        have j1 : (x : Int) < (N : Int) := by omega
        have j2 : (0 : Int) ≤ (x : Int) := by omega
        have j3 : (k : Int) < (q : Int) := by omega
        have HZ := Lib.hid hz
        have HNX := Lib.hid hnx
        have HY := Lib.hid hy
        clear hz hnx hy hb2 hxN
        cases y with
        | true =>
          go_wp2_with fail
          go_roundw
          case rel => exact ⟨k + 1, p, by omega, by go_num, HD.out.skip HZ.out HY.out, HVR.out, HBR.out⟩
          case measure => simp [intOf]; omega
        | false =>
          have f4 := HVR.out.v
          have HC := Lib.hid (HIH.out p x wr HVR.out HY.out (by have := HD.out.cnt; have := HM.out; omega))
          go_wp2_with fail
          refine HC.out.mono ?_
          rintro e w2 ⟨rfl, p2, hv2, hd2, hb2⟩
          have HV2 := Lib.hid hv2
          have HD2 := Lib.hid hd2
          have HB2 := Lib.hid (HBR.out.trans hb2)
          clear hv2 hd2 hb2 f1 f2 f3 f4
          go_wp2_with fail
          go_roundw
          case rel => exact ⟨k + 1, p2, by omega, by go_num, HD.out.call HZ.out HNX.out HD2.out, HV2.out, HB2.out⟩
          case measure => simp [intOf]; omega
      · have HKQ : Hid (k = l.length) := (by rw [← HQ.out]; omega : k = l.length)
        go_wp2_with fail
        (try simp only [Exit.inBlock, Exit.then])
        refine bodyPost_end (results_none rfl _ _ _) rfl ?_
        refine ⟨rfl, p, HVR.out, ?_, HBR.out⟩
        have := HD.out
        rw [HKQ.out] at this
        exact this.done HL1.out.2.2

theorem new_one (w : World) (v : Value) (T : TypeId) {g : Nat} (hg : w.heap.size = g) : (w.alloc (.cells #[v] T)).cell? ⟨g, 0, none⟩ = some v := by subst hg; simp
set_option maxHeartbeats 800000 in
theorem graph_reached (N : Nat) (L : Arcs) (H : List (List Int)) (A : Option Addr) (s : Nat) (w : World) (hN : N ≤ 64) (hL : L.length ≤ 512) (hok : Ok N L) (hH : IsH N L H) (hd : Hd w A H) (hs : s < N) :
    Calls Try.prog 34 #[.slice A N N, .int .i64 (s : Int)] w fun e w' => ∃ A' o, e = .returned (.slice A' N N) ∧ IsR N L s o ∧ Cl eB w' A' o ∧ Below w.heap.size w w' := by
  have HV := Lib.hid (visit N L H hN hL hok hH w)
  have HD := Lib.hid hd
  have HS := Lib.hid hs
  have hmk := fun W => make_bools N (by omega) W
  have HN := Lib.hid hN
  clear hd hok hH
  go_enter Try.func34, Try.ntmps34
  go_upto_region 4 with fail
  obtain ⟨wz, hwz⟩ : ∃ W, (((w.alloc (.cells #[.slice A N N] 46)).alloc (.cells (madeCells #[.bool false] N) 4)).alloc (.cells #[.slice (some ⟨w.heap.size + 1, 0, none⟩) N N] 33)).alloc (.cells #[.func (.func 42) #[] #[.pointer (some ⟨w.heap.size + 1 + 1, 0, none⟩), .pointer (some ⟨w.heap.size, 0, none⟩), .pointer (some ⟨w.heap.size + 1 + 1 + 1, 0, none⟩)]] 57) = W := ⟨_, rfl⟩
  have HVZ : Hid (Vis w wz (w.heap.size + 1 + 1) w.heap.size (w.heap.size + 1 + 1 + 1) (w.heap.size + 1) N A H (List.replicate N false)) := by
    subst hwz
    have h1 := below_alloc w (.cells #[.slice A N N] 46)
    have h2 := own_made eB 4 (w.alloc (.cells #[.slice A N N] 46)) N false (by have := HN.out; omega)
    rw [World.size_alloc] at h2
    refine ⟨?_, ?_, ?_, ⟨by omega, by omega, by omega⟩, (h2.alloc _).alloc _, by simp, HD.out, by omega, ?_⟩
    · exact ((below_alloc _ _).cell (p := ⟨w.heap.size + 1 + 1, 0, none⟩) (by simp)).trans (new_one _ _ _ (by simp))
    · exact (((bstep (bstep (below_alloc _ _) (below_alloc _ _)) (below_alloc _ _)).cell (p := ⟨w.heap.size, 0, none⟩) (by simp)).trans (new_one _ _ _ (by simp)))
    · exact new_one _ _ _ (by simp)
    · exact bstep (bstep (bstep h1 (below_alloc _ _)) (below_alloc _ _)) (below_alloc _ _)
  rw [hwz]
  clear hwz hmk
  have hv := HVZ.out.v
  have HC := Lib.hid (HV.out _ _ _ _ A _ _ s wz HVZ.out (by rw [List.getElem?_replicate, if_pos HS.out]) (Nat.le_refl _))
  go_wp2_with fail
  refine HC.out.mono ?_
  rintro e w2 ⟨rfl, o2, hv2, hd2, hb2⟩
  have HV2 := Lib.hid hv2
  have HD2 := Lib.hid hd2
  have hs2 := hv2.s
  clear hv2 hd2 hb2 hv
  go_wp2_with fail
  go_ret
  exact ⟨_, o2, rfl, HD2.out.whole, HV2.out.own.cl, HV2.out.bel⟩
#print axioms visit
#print axioms graph_reached
end Go.Proofs.Ytlbknnafecdakaa.Graph
