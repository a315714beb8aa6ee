/- stepsTo: breadth first. -/
import Derived.Test.YtlbknnafecdakaaGraphY
import Derived.Deep.LoopGhost
namespace Go.Proofs.Ytlbknnafecdakaa.Graph
open Go.ChangeShapes Go.WideShapes Go.RowKit Go.Lib
set_option linter.unusedVariables false
set_option maxRecDepth 100000

/-! ### Breadth first (pure) -/
/-- The steps to n. -/
def IsS (N : Nat) (L : Arcs) (n : Nat) (d : List Int) : Prop := d.length = N ∧ ∀ b, b < N → (d[b]? = some (N : Int) ∧ ¬ Rp L b n) ∨ ∃ u : Nat, d[b]? = some (u : Int) ∧ u < N ∧ Dst L b n u
/-- b is seen, at most one step further than x. -/
def nx1 (V : List Nat) (d : List Int) (b x : Nat) : Prop := b ∈ V ∧ ∃ u v : Nat, d[b]? = some (u : Int) ∧ d[x]? = some (v : Int) ∧ u ≤ v + 1
structure Bf (N : Nat) (L : Arcs) (n : Nat) (V : List Nat) (i : Nat) (l : List Int) (j : Nat) (d : List Int) : Prop where
  nd : V.Nodup
  lt : ∀ x ∈ V, x < N
  len : d.length = N
  no : ∀ b, b < N → b ∉ V → d[b]? = some (N : Int)
  vis : ∀ p b, V[p]? = some b → ∃ u : Nat, d[b]? = some (u : Int) ∧ u ≤ p ∧ W L u b n
  mon : ∀ (p q b c u v : Nat), p ≤ q → V[p]? = some b → V[q]? = some c → d[b]? = some (u : Int) → d[c]? = some (v : Int) → u ≤ v
  top : ∀ (p x c u v : Nat), V[i]? = some x → V[p]? = some c → d[x]? = some (u : Int) → d[c]? = some (v : Int) → v ≤ u + 1
  prt : ∀ p x b, p < i → V[p]? = some x → (b, x) ∈ L → nx1 V d b x
  cur : ∀ x, V[i]? = some x → ∀ q b : Nat, q < j → l[q]? = some (b : Int) → nx1 V d b x
  hd : V[0]? = some n ∧ d[n]? = some (0 : Int)
theorem Bf.start {N : Nat} {L : Arcs} {n : Nat} {l : List Int} (hn : n < N) : Bf N L n [n] 0 l 0 ((List.replicate N (N : Int)).set n 0) := by
  have h0 : ((List.replicate N (N : Int)).set n 0)[n]? = some 0 := get_set (by simpa using hn)
  have one : ∀ (p b : Nat), [n][p]? = some b → p = 0 ∧ b = n := by
    intro p b h
    cases p with
    | zero => simp at h; exact ⟨rfl, h.symm⟩
    | succ p => simp at h
  refine ⟨by simp, fun x hx => by simp at hx; omega, by simp, fun b hb hnb => ?_, fun p b hp => ?_, fun p q b c u v hpq hp hq hu hv => ?_, fun p x c u v hi hp hu hv => ?_, fun p x b hp => by omega, fun x hx q b hq => by omega, ⟨rfl, h0⟩⟩
  · simp at hnb
    rw [get_other hnb, List.getElem?_replicate, if_pos hb]
  · obtain ⟨rfl, rfl⟩ := one p b hp
    exact ⟨0, h0, Nat.le_refl _, rfl⟩
  · obtain ⟨_, rfl⟩ := one p b hp
    obtain ⟨_, rfl⟩ := one q c hq
    rw [hu] at hv; have := Option.some.inj hv; omega
  · obtain ⟨_, rfl⟩ := one p c hp
    obtain ⟨_, rfl⟩ := one 0 x hi
    rw [hu] at hv; have := Option.some.inj hv; omega
theorem Bf.list {N : Nat} {L : Arcs} {n : Nat} {V : List Nat} {i : Nat} {l l' : List Int} {d : List Int} (h : Bf N L n V i l 0 d) : Bf N L n V i l' 0 d :=
  ⟨h.nd, h.lt, h.len, h.no, h.vis, h.mon, h.top, h.prt, fun x hx q b hq => by omega, h.hd⟩
theorem Bf.size {N : Nat} {L : Arcs} {n : Nat} {V : List Nat} {i : Nat} {l : List Int} {j : Nat} {d : List Int} (h : Bf N L n V i l j d) : V.length ≤ N := nodup_le N V h.nd h.lt
theorem Bf.seen {N : Nat} {L : Arcs} {n : Nat} {V : List Nat} {i : Nat} {l : List Int} {j : Nat} {d : List Int} (h : Bf N L n V i l j d) {b : Nat} (hb : b ∈ V) : ∃ u : Nat, d[b]? = some (u : Int) ∧ u < N := by
  obtain ⟨p, hp⟩ := List.mem_iff_getElem?.mp hb
  obtain ⟨u, h1, h2, _⟩ := h.vis p b hp
  exact ⟨u, h1, by have := lt_of_get hp; have := h.size; omega⟩
theorem Bf.skip {N : Nat} {L : Arcs} {n : Nat} {V : List Nat} {i : Nat} {l : List Int} {j : Nat} {d : List Int} (h : Bf N L n V i l j d) {b : Nat} (hb : b ∈ V) (hl : l[j]? = some (b : Int)) : Bf N L n V i l (j + 1) d := by
  refine ⟨h.nd, h.lt, h.len, h.no, h.vis, h.mon, h.top, h.prt, fun x hx q c hq hc => ?_, h.hd⟩
  rcases Nat.lt_or_eq_of_le (Nat.le_of_lt_succ hq) with h1 | rfl
  · exact h.cur x hx q c h1 hc
  · rw [hl] at hc
    have : b = c := by have := Option.some.inj hc; omega
    subst this
    obtain ⟨p, hp⟩ := List.mem_iff_getElem?.mp hb
    obtain ⟨v, hv, _⟩ := h.vis p b hp
    obtain ⟨u, hu, _⟩ := h.vis i x hx
    exact ⟨hb, v, u, hv, hu, h.top p x b u v hx hp hu hv⟩
theorem Bf.visit {N : Nat} {L : Arcs} {n : Nat} {V : List Nat} {i : Nat} {l : List Int} {j : Nat} {d : List Int} (h : Bf N L n V i l j d) {b x u : Nat} (hb : b ∉ V) (hbN : b < N) (hl : l[j]? = some (b : Int)) (hx : V[i]? = some x) (hbx : (b, x) ∈ L) (hu : d[x]? = some (u : Int)) :
    Bf N L n (V ++ [b]) i l (j + 1) (d.set b ((u : Int) + 1)) := by
  have hxV := List.mem_of_getElem? hx
  have hbl : b < d.length := by rw [h.len]; exact hbN
  have eu : ((u : Int) + 1) = ((u + 1 : Nat) : Int) := by omega
  have hself : (d.set b ((u : Int) + 1))[b]? = some ((u + 1 : Nat) : Int) := by rw [get_set hbl, eu]
  have hoth : ∀ c, c ∈ V → (d.set b ((u : Int) + 1))[c]? = d[c]? := fun c hc => get_other fun e => hb (e ▸ hc)
  have hiV : i < V.length := lt_of_get hx
  have old : ∀ (p c : Nat), (V ++ [b])[p]? = some c → (p < V.length ∧ V[p]? = some c) ∨ (p = V.length ∧ c = b) := by
    intro p c hp
    rcases Nat.lt_or_ge p V.length with h1 | h1
    · rw [List.getElem?_append_left h1] at hp; exact Or.inl ⟨h1, hp⟩
    · have := lt_of_get hp
      rw [List.length_append, List.length_singleton] at this
      obtain rfl : p = V.length := by omega
      rw [List.getElem?_append_right (Nat.le_refl _), Nat.sub_self] at hp
      simp at hp; exact Or.inr ⟨rfl, hp.symm⟩
  have hxx : (V ++ [b])[i]? = some x := by rw [List.getElem?_append_left hiV]; exact hx
  obtain ⟨u', hu', hui, huw⟩ := h.vis i x hx
  obtain rfl : u = u' := by rw [hu] at hu'; have := Option.some.inj hu'; omega
  have keep : ∀ c y, nx1 V d c y → y ∈ V → nx1 (V ++ [b]) (d.set b ((u : Int) + 1)) c y := by
    rintro c y ⟨h1, p, q, h2, h3, h4⟩ hy
    exact ⟨List.mem_append_left _ h1, p, q, by rw [hoth c h1]; exact h2, by rw [hoth y hy]; exact h3, h4⟩
  refine ⟨?_, fun y hy => ?_, by rw [List.length_set]; exact h.len, fun c hc hcv => ?_, fun p c hp => ?_, fun p q y c r s hpq hp hq hr hs => ?_, fun p y c r s hy hp hr hs => ?_, fun p y c hp hy hcy => ?_, fun y hy q c hq hc => ?_, ⟨?_, ?_⟩⟩
  · rw [List.nodup_append]
    exact ⟨h.nd, by simp, fun y hy z hz => by simp at hz; subst hz; rintro rfl; exact hb hy⟩
  · rcases List.mem_append.mp hy with h1 | h1
    · exact h.lt y h1
    · simp at h1; omega
  · simp at hcv
    rw [get_other hcv.2]; exact h.no c hc hcv.1
  · rcases old p c hp with ⟨h1, h2⟩ | ⟨rfl, rfl⟩
    · obtain ⟨v, h3, h4, h5⟩ := h.vis p c h2
      exact ⟨v, by rw [hoth c (List.mem_of_getElem? h2)]; exact h3, h4, h5⟩
    · exact ⟨u + 1, hself, by omega, x, hbx, huw⟩
  · rcases old p y hp with ⟨h1, h2⟩ | ⟨rfl, rfl⟩
    · rw [hoth y (List.mem_of_getElem? h2)] at hr
      rcases old q c hq with ⟨h3, h4⟩ | ⟨rfl, rfl⟩
      · rw [hoth c (List.mem_of_getElem? h4)] at hs
        exact h.mon p q y c r s hpq h2 h4 hr hs
      · rw [hself] at hs
        have := h.top p x y u r hx h2 hu hr
        have := Option.some.inj hs; omega
    · rcases old q c hq with ⟨h3, h4⟩ | ⟨_, rfl⟩
      · omega
      · rw [hr] at hs; have := Option.some.inj hs; omega
  · rw [hxx] at hy
    cases hy
    rw [hoth x hxV] at hr
    obtain rfl : u = r := by rw [hu] at hr; have := Option.some.inj hr; omega
    rcases old p c hp with ⟨h1, h2⟩ | ⟨rfl, rfl⟩
    · rw [hoth c (List.mem_of_getElem? h2)] at hs
      exact h.top p x c u s hx h2 hu hs
    · rw [hself] at hs; have := Option.some.inj hs; omega
  · rcases old p y hy with ⟨h1, h2⟩ | ⟨rfl, rfl⟩
    · exact keep c y (h.prt p y c hp h2 hcy) (List.mem_of_getElem? h2)
    · omega
  · rw [hxx] at hy
    cases hy
    rcases Nat.lt_or_eq_of_le (Nat.le_of_lt_succ hq) with h1 | rfl
    · exact keep c x (h.cur x hx q c h1 hc) hxV
    · rw [hl] at hc
      have : b = c := by have := Option.some.inj hc; omega
      subst this
      exact ⟨by simp, u + 1, u, hself, by rw [hoth x hxV]; exact hu, Nat.le_refl _⟩
  · rw [List.getElem?_append_left (by omega)]; exact h.hd.1
  · rw [hoth n (List.mem_of_getElem? h.hd.1)]; exact h.hd.2
theorem Bf.next {N : Nat} {L : Arcs} {n : Nat} {V : List Nat} {i : Nat} {l l' : List Int} {d : List Int} (h : Bf N L n V i l l.length d) {x : Nat} (hx : V[i]? = some x) (hl : ∀ b : Int, b ∈ l ↔ ∃ m : Nat, b = (m : Int) ∧ (m, x) ∈ L) : Bf N L n V (i + 1) l' 0 d := by
  refine ⟨h.nd, h.lt, h.len, h.no, h.vis, h.mon, fun p y c u v hy hp hu hv => ?_, fun p y b hp hy hb => ?_, fun y hy q b hq => by omega, h.hd⟩
  · obtain ⟨t, ht, _⟩ := h.vis i x hx
    have h1 := h.mon i (i + 1) x y t u (by omega) hx hy ht hu
    have h2 := h.top p x c t v hx hp ht hv
    omega
  · rcases Nat.lt_or_eq_of_le (Nat.le_of_lt_succ hp) with h1 | rfl
    · exact h.prt p y b h1 hy hb
    · rw [hx] at hy
      cases hy
      obtain ⟨q, hq⟩ := List.mem_iff_getElem?.mp ((hl (b : Int)).mpr ⟨b, rfl, hb⟩)
      exact h.cur x hx q b (lt_of_get hq) hq
theorem Bf.done {N : Nat} {L : Arcs} {n : Nat} {V : List Nat} {l : List Int} {d : List Int} (h : Bf N L n V V.length l 0 d) : IsS N L n d := by
  have key : ∀ (k b : Nat), W L k b n → b ∈ V ∧ ∃ u : Nat, d[b]? = some (u : Int) ∧ u ≤ k := by
    intro k
    induction k with
    | zero => intro b hw; cases hw; exact ⟨List.mem_of_getElem? h.hd.1, 0, h.hd.2, Nat.le_refl _⟩
    | succ k ih =>
      rintro b ⟨x, hbx, hw⟩
      obtain ⟨hx, v, hv, hvk⟩ := ih x hw
      obtain ⟨p, hp⟩ := List.mem_iff_getElem?.mp hx
      obtain ⟨hb, u, v', h1, h2, h3⟩ := h.prt p x b (lt_of_get hp) hp hbx
      rw [hv] at h2
      have := Option.some.inj h2
      exact ⟨hb, u, h1, by omega⟩
  refine ⟨h.len, fun b hb => ?_⟩
  by_cases hbV : b ∈ V
  · obtain ⟨p, hp⟩ := List.mem_iff_getElem?.mp hbV
    obtain ⟨u, h1, h2, h3⟩ := h.vis p b hp
    have := lt_of_get hp
    have := h.size
    refine Or.inr ⟨u, h1, by omega, h3, fun j hj hw => ?_⟩
    obtain ⟨_, v, h4, h5⟩ := key j b hw
    rw [h1] at h4
    have := Option.some.inj h4; omega
  · exact Or.inl ⟨h.no b hb hbV, fun ⟨k, hw⟩ => hbV (key k b hw).1⟩
#print axioms Bf.visit
#print axioms Bf.done
end Go.Proofs.Ytlbknnafecdakaa.Graph
