/- Contract of span.ends: the ends of two lists in ascending order: the walk. -/
import Derived.Test.YtccbnobpighckaaSpanF
namespace Go.Proofs.Ytccbnobpighckaa.Span
open Go.ChangeShapes Go.WideShapes Go.RowKit Go.Lib Go.Proofs
set_option linter.unusedVariables false
set_option maxRecDepth 100000

def EndsRes (a b : List Sp) (w : World) (e : Ending) (w' : World) : Prop :=
  ∃ E g cap, e = .returned (.slice (some ⟨g, 0, none⟩) E.length cap) ∧ w.heap.size ≤ g ∧ Swp a b E ∧ Ens w' g E ∧ Below w.heap.size w w'
theorem own_ends {w : World} {base : Nat} {v : Value} {D : List En} {x y k : Int} (h : w.ownsRow base 119 3 v (D.length + 2) (cellsE D ++ [.int .i64 x, .int .i64 k, .int .i64 1, .int .i64 y, .int .i64 k, .int .i64 (-1)])) (hn : v ≠ .slice none 0 0) :
    OwnE w base v (D ++ [(x, k, 1), (y, k, -1)]) := by
  refine ⟨?_, hn⟩
  rw [List.length_append, cellsE_append]; exact h

set_option maxHeartbeats 1600000 in
theorem span_ends (a b : List Sp) (A B : Option Addr) (c d : Nat) (w : World) (ha : Sps w A a) (hb : Sps w B b) (hca : chkE a = 0) (hcb : chkE b = 0) :
    Calls Try.prog 104 #[.slice A a.length c, .slice B b.length d] w (EndsRes a b w) := by
  have la := chk_len hca
  have lb := chk_len hcb
  have HCA := Lib.hid hca
  have HCB := Lib.hid hcb
  have HA := Lib.hid ha
  have HB := Lib.hid hb
  obtain ⟨i0, hi, hz0, hz1, hz2⟩ := info_parts info_end
  have hmk := fun W => make_ends a.length b.length (by omega) (by omega) W
  have HO0 := Lib.hid (made_own w (2 * (a.length + b.length)) (by omega))
  have HB0 := Lib.hid (below_alloc w (.cells (madeCells #[.int .i64 0, .int .i64 0, .int .i64 0] (2 * (a.length + b.length) * 3)) 119))
  clear ha hb hca hcb
  go_enter Try.func104, Try.ntmps104
  go_wp2_with fail
  go_loopw [5, 20] (fun v i wr => ∃ (k : Nat) (D : List En), k ≤ 2 ∧ i = .int .i64 k ∧ (k = 0 ∧ D = [] ∨ k = 1 ∧ D = endsOf 0 a ∨ k = 2 ∧ D = endsL a b) ∧ OwnE wr w.heap.size v D ∧ Below w.heap.size w wr) (fun _ i _ => 2 - (intOf i).toNat)
  case atStart => exact ⟨0, [], by omega, rfl, Or.inl ⟨rfl, rfl⟩, HO0.out, HB0.out⟩
  case round =>
    obtain ⟨k, D, hk, rfl, hD, hown, hbel⟩ := hrel
    have HOW := Lib.hid hown
    have HBW := Lib.hid hbel
    have hzw := hbel.size
    have HD := Lib.hid hD
    clear hown hbel hD hmk
    rcases Nat.lt_or_ge k 2 with hlt | hge
    · obtain ⟨L, X, x, D0, hcase, hL, hix⟩ := pick_list (c := c) (d := d) HA.out HB.out k hlt
      have hll : L.length ≤ 256 := by rcases hcase with ⟨_, _, rfl⟩ | ⟨_, _, rfl⟩ <;> omega
      have hl0 : D0.length ≤ 512 := by
        rcases hcase with ⟨_, rfl, _⟩ | ⟨_, rfl, _⟩
        · simp
        · rw [endsOf_length]; omega
      have eD : D = D0 := by
        rcases hcase with ⟨h1, h2, _⟩ | ⟨h1, h2, _⟩ <;> rcases HD.out with ⟨h3, h4⟩ | ⟨h3, h4⟩ | ⟨h3, h4⟩ <;> first | omega | (rw [h2, h4])
      subst eD
      have HL := Lib.hid hL
      have HX := Lib.hid hcase
      have hk2 : (k : Int) < 2 := by omega
      clear hL hcase
      go_wp2_with fail
      obtain ⟨wo, rfl⟩ : ∃ wo : World, wo = wr := ⟨_, rfl⟩
      go_loopw [5, 26] (fun v j wr => ∃ n : Nat, n ≤ L.length ∧ j = .int .i64 n ∧ OwnE wr w.heap.size v (D ++ endsOf k (L.take n)) ∧ Below w.heap.size w wr) (fun _ j _ => L.length - (intOf j).toNat)
      case atStart => exact ⟨0, Nat.zero_le _, rfl, by rw [List.take_zero, endsOf, List.append_nil]; exact HOW.out, HBW.out⟩
      case round =>
        obtain ⟨n, hn, rfl, hown, hbel⟩ := hrel
        have hzr := hbel.size
        have HBR := Lib.hid hbel
        have HNN := Lib.hid hown.2
        have HGE := Lib.hid hown.ge
        have hown1 := hown.1
        have hdl : (D ++ endsOf k (L.take n)).length ≤ 1024 := by
          rw [List.length_append, endsOf_length, List.length_take]; omega
        clear hbel hown
        rcases Nat.lt_or_ge n L.length with hlt2 | hge2
        · obtain ⟨s, hs⟩ := get_lt hlt2
          obtain ⟨bb, off, rfl, hbb, h0, h1⟩ := HL.out.on HBR.out n s hs
          have HS := Lib.hid (show D ++ endsOf k (L.take (n + 1)) = (D ++ endsOf k (L.take n)) ++ [(s.1, (k : Int), 1), (s.2, (k : Int), -1)] by rw [take_snoc_of hs, endsOf_snoc, List.append_assoc])
          clear hs
          go_wp2_with (at_builtin; refine wpList_append_own _ rfl _ _ 116 rfl w.heap.size 119 i0 _ 3 24 Try.underlying116 hi hz0 hz1 hz2 rfl (by decide) _ (D ++ endsOf k (L.take n)).length _ rfl ((hown1.alloc _).alloc _) ⟨wr.heap.size + 1, 0, none⟩ 2 2 [.int .i64 s.1, .int .i64 k, .int .i64 1, .int .i64 s.2, .int .i64 k, .int .i64 (-1)] rfl rfl ?c1 ?c2 ?c3 ?c4 ?c5 ?_)
          case c1 =>
            have e1 := heap_alloc_new (wr.alloc (.cells #[.int .i64 s.1, .int .i64 s.2] 52)) (.cells #[.int .i64 s.1, .int .i64 k, .int .i64 1, .int .i64 s.2, .int .i64 k, .int .i64 (-1)] 119)
            rw [show (wr.alloc (.cells #[.int .i64 s.1, .int .i64 s.2] 52)).heap.size = wr.heap.size + 1 by simp] at e1
            exact World.news_of_block e1
          case c2 =>
            intro u hu
            simp only [List.mem_cons, List.not_mem_nil, or_false] at hu
            rcases hu with rfl | rfl | rfl | rfl | rfl | rfl <;> rfl
          case c3 => unfold maxLen; omega
          case c4 => omega
          case c5 => simp; omega
          intro v' w1 hown' hgrow hnil
          have HO1 := Lib.hid (own_ends (D := D ++ endsOf k (L.take n)) (x := s.1) (y := s.2) (k := k) (by rw [List.length_append]; exact hown') fun e => hnil e)
          have HB1 : Hid (Below w.heap.size w w1) := ((HBR.out.alloc hzr _).alloc (by simp; omega) _).grown hgrow (by simp; omega) HGE.out
          clear hown' hgrow hnil hown1
          go_wp2_with fail
          go_roundw
          case rel => exact ⟨n + 1, by omega, by go_num, by rw [HS.out]; exact HO1.out, HB1.out⟩
          case measure => simp [intOf]; omega
        · obtain rfl : n = L.length := by omega
          have hown2 : OwnE wr w.heap.size _ (D ++ endsOf k (L.take L.length)) := ⟨hown1, HNN.out⟩
          rw [List.take_length] at hown2
          have HO2 := Lib.hid hown2
          clear hown1 hown2
          go_wp2_with fail
          go_roundw
          case rel =>
            refine ⟨k + 1, D ++ endsOf k L, by omega, by go_num, ?_, HO2.out, HBR.out⟩
            rcases HX.out with ⟨rfl, rfl, rfl⟩ | ⟨rfl, rfl, rfl⟩
            · exact Or.inr (Or.inl ⟨rfl, rfl⟩)
            · exact Or.inr (Or.inr ⟨rfl, rfl⟩)
          case measure => simp [intOf]; omega
    · obtain rfl : k = 2 := by omega
      have eD : D = endsL a b := by rcases HD.out with ⟨h, _⟩ | ⟨h, _⟩ | ⟨_, h⟩ <;> first | omega | exact h
      subst eD
      have hl : (endsL a b).length ≤ 1000000 := by rw [endsL_length]; omega
      have hs := ends_sort _ _ _ _ HOW.out hl
      have HSO := Lib.hid hs
      clear hs
      go_wp2_with fail
      refine HSO.out.mono ?_
      rintro e w1 ⟨rfl, E, g, cap, rfl, hg, hperm, hasc, hens, hgrow⟩
      have HSW := Lib.hid (show Swp a b E from ⟨hperm, hasc, chk_all HCA.out, chk_all HCB.out⟩)
      have HEN := Lib.hid hens
      have HB1 : Hid (Below w.heap.size w w1) := HBW.out.grown hgrow hzw fun k hk => by cases hk; exact hg
      clear hperm hasc hens hgrow
      go_wp2_with fail
      go_ret
      exact ⟨E, g, cap, rfl, hg, HSW.out, HEN.out, HB1.out⟩
#print axioms span_ends
end Go.Proofs.Ytccbnobpighckaa.Span
