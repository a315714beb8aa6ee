/- A further arc: what Reach tells. -/
import Derived.Test.YtlbknnafecdakaaGraphM
namespace Go.Proofs.Ytlbknnafecdakaa.Graph
open Go.ChangeShapes Go.WideShapes Go.RowKit Go.Lib
set_option linter.unusedVariables false
set_option maxRecDepth 100000

theorem chk_more {n : Int} {zs : List Pr} {z : Pr} (hl : zs.length ≤ 500) (h : chkE n zs ≠ 0) : chkE n (zs ++ [z]) = chkE n zs := by
  unfold chkE at h ⊢
  by_cases h1 : n < 0 ∨ 64 < n
  · rw [if_pos h1, if_pos h1]
  · rw [if_neg h1] at h ⊢
    rw [if_neg h1]
    have l1 : ¬ 512 < zs.length := by omega
    have l2 : ¬ 512 < (zs ++ [z]).length := by simp; omega
    rw [if_neg l1] at h ⊢
    rw [if_neg l2]
    cases h2 : zs.all (inA n) with
    | true => rw [h2] at h; exact absurd rfl h
    | false =>
      have : (zs ++ [z]).all (inA n) = false := by rw [List.all_append, h2]; rfl
      rw [this]
theorem chk_more7 {n : Int} {zs : List Pr} {z : Pr} (hl : zs.length ≤ 500) (h : chkE n zs = 0) : chkE n (zs ++ [z]) = 0 ∨ chkE n (zs ++ [z]) = 7 := by
  unfold chkE at h ⊢
  by_cases h1 : n < 0 ∨ 64 < n
  · rw [if_pos h1] at h; cases h
  · rw [if_neg h1]
    have l2 : ¬ 512 < (zs ++ [z]).length := by simp; omega
    rw [if_neg l2]
    cases (zs ++ [z]).all (inA n) with
    | true => exact Or.inl rfl
    | false => exact Or.inr rfl
theorem more_err {n s : Int} {zs : List Pr} {z : Pr} {E F : Int} {o o' : List Bool} (h : RchP n zs s E o) (k : RchP n (zs ++ [z]) s F o') (hl : zs.length ≤ 500) (hE : E ≠ 0) : F = E := by
  rcases h with ⟨h1, rfl, rfl⟩ | ⟨h1, h2, rfl, rfl⟩ | ⟨N, L, t, hg, rfl, ht, rfl, ho⟩
  · have e := chk_more (z := z) hl h1
    rcases k with ⟨k1, rfl, rfl⟩ | ⟨k1, k2, rfl, rfl⟩ | ⟨M, K, u, kg, rfl, ku, rfl, ko⟩
    · exact e
    · rw [e] at k1; exact absurd k1 h1
    · have := kg.chk; rw [e] at this; exact absurd this h1
  · rcases k with ⟨k1, rfl, rfl⟩ | ⟨k1, k2, rfl, rfl⟩ | ⟨M, K, u, kg, rfl, ku, rfl, ko⟩
    · rcases chk_more7 (z := z) hl h1 with h3 | h3
      · exact absurd h3 k1
      · exact h3
    · rfl
    · have := kg.n
      subst this
      rw [node_lt ku] at h2
      cases h2
  · exact absurd rfl hE
theorem more_ok {n s : Int} {zs : List Pr} {x y : Int} {o o' : List Bool} (h : RchP n zs s 0 o) (k : RchP n (zs ++ [(x, y)]) s 0 o') :
    ∃ N a b : Nat, n = (N : Int) ∧ N ≤ 64 ∧ x = (a : Int) ∧ y = (b : Int) ∧ a < N ∧ b < N ∧ o.length = N ∧ o'.length = N ∧ (∀ i : Nat, o[i]? = some true → o'[i]? = some true) ∧ (o'[a]? = some true → o'[b]? = some true) := by
  rcases h with ⟨h1, h2, _⟩ | ⟨_, _, h2, _⟩ | ⟨N, L, t, hg, hs, ht, _, ho⟩
  · exact absurd h2.symm h1
  · cases h2
  rcases k with ⟨k1, k2, _⟩ | ⟨_, _, k2, _⟩ | ⟨M, K, u, kg, ks, ku, _, ko⟩
  · exact absurd k2.symm k1
  · cases k2
  obtain rfl : M = N := by have := hg.n; have := kg.n; omega
  obtain rfl : u = t := by omega
  have hz := kg.zs
  have hlen : K.length = L.length + 1 := by
    have := congrArg List.length hz
    rw [List.length_append, asI_len, hg.zs, asI_len] at this
    simpa using this.symm
  obtain ⟨⟨a, b⟩, hab⟩ : ∃ e, K[L.length]? = some e := ⟨_, List.getElem?_eq_getElem (by omega)⟩
  have hget : (zs ++ [(x, y)])[L.length]? = some ((a : Int), (b : Int)) := by rw [hz]; exact get_asI hab
  have hzl : zs.length = L.length := by rw [hg.zs, asI_len]
  rw [List.getElem?_append_right (by omega), hzl, Nat.sub_self] at hget
  simp at hget
  have hsub : ∀ e ∈ L, e ∈ K := by
    rintro ⟨p, q⟩ he
    obtain ⟨i, hi⟩ := List.mem_iff_getElem?.mp he
    have h1 := get_asI hi
    rw [← hg.zs] at h1
    have h2 : (zs ++ [(x, y)])[i]? = some ((p : Int), (q : Int)) := by
      have hlt : i < zs.length := by rw [hzl]; exact lt_of_get hi
      rw [List.getElem?_append_left hlt]; exact h1
    rw [hz] at h2
    obtain ⟨p', q', h3, h4⟩ := asI_get h2
    simp at h4
    obtain ⟨e1, e2⟩ := h4
    obtain rfl : p = p' := by omega
    obtain rfl : q = q' := by omega
    exact List.mem_of_getElem? h3
  have hm := List.mem_of_getElem? hab
  have hN := kg.ok a b hm
  refine ⟨M, a, b, hg.n, hg.le, hget.1, hget.2, hN.1, hN.2, ho.1, ko.1, fun i hi => ?_, fun hi => ?_⟩
  · have hlt : i < M := by rw [← ho.1]; exact lt_of_get hi
    obtain ⟨j, hj⟩ := (ho.2 i hlt).mp hi
    exact (ko.2 i hlt).mpr ⟨j, hj.mono hsub⟩
  · exact (ko.2 b hN.2).mpr (((ko.2 a hN.1).mp hi).trans (Rp.arc hm))
end Go.Proofs.Ytlbknnafecdakaa.Graph
