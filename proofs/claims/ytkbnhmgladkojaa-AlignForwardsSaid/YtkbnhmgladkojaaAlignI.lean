/- slices.IndexFunc at marks, whatever the function; the two marks around a position. -/
import Derived.Test.YtkbnhmgladkojaaAlignF
namespace Go.Proofs.Ytkbnhmgladkojaa.Align
open Go.ChangeShapes Go.WideShapes Go.RowKit Go.Lib Go.Proofs.Ytkbnhmgladkojaa.Rw
set_option linter.unusedVariables false
set_option maxRecDepth 100000

theorem rd_tail {w : World} {b off : Nat} {L : List Mk} (h : Mks w (some ⟨b, off, none⟩) L) : Mks w (some ⟨b, off + 2, none⟩) (L.drop 1) := by
  intro k z hk
  rw [List.getElem?_drop] at hk
  obtain ⟨b', off', e, hlt, hc⟩ := h _ _ hk
  cases e
  refine ⟨b, off + 2, rfl, hlt, fun j u hu => ?_⟩
  have := hc j u hu
  rw [show off + ((1 + k) * 2 + j) = off + 2 + (k * 2 + j) by omega] at this
  exact this
/-- The first one that meets a test. -/
def Fst (L : List Mk) (f : Mk → Bool) (K : Nat) : Prop := K < L.length ∧ (∀ s, L[K]? = some s → f s = true) ∧ ∀ (j : Nat) (s : Mk), j < K → L[j]? = some s → f s = false
/-- A function that is called with marks: what holds of the memory. -/
structure Tst (fn : Nat) (ba ca : Array Value) (I : World → Prop) (f : Mk → Bool) : Prop where
  eg : ∀ args w, (callFunc fn args).run Try.prog w = .ok (.enter fn args) w
  keep : ∀ W W', I W → Below W.heap.size W W' → I W'
  step : ∀ m W, I W → Calls Try.prog fn (ba ++ #[.agg #[.int .i64 m.1, .int .i64 m.2]] ++ ca) W fun e W' => e = .returned (.bool (f m)) ∧ Below W.heap.size W W'

set_option maxHeartbeats 1600000 in
theorem index_func {fn : Nat} {ba ca : Array Value} {I : World → Prop} {f : Mk → Bool} (ht : Tst fn ba ca I f) (L : List Mk) (A : Option Addr) (n c : Nat) (hn : n = L.length) (w : World) (ha : Mks w A L) (hm : n ≤ 9223372036854775807) (hI : I w) {K : Nat} (hK : Fst L f K) :
    Calls Try.prog 35 #[.slice A n c, .func (.func fn) ba ca] w fun e w' => e = .returned (.int .i64 K) ∧ Below w.heap.size w w' := by
  have HA := Lib.hid ha
  have HT := Lib.hid ht
  have HI := Lib.hid hI
  have HK := Lib.hid hK
  have HN := Lib.hid hn
  have eg := ht.eg
  clear ha ht hI hK hn
  go_enter Try.func35, Try.ntmps35
  go_wp2_with fail
  go_loopw [8] (fun i wr => ∃ k : Nat, k ≤ K ∧ i = .int .i64 k ∧ Below w.heap.size w wr) (fun i _ => K + 1 - (intOf i).toNat)
  case atStart => exact ⟨0, Nat.zero_le _, rfl, Below.refl _ _⟩
  case round =>
    obtain ⟨k, hk, rfl, hbel⟩ := hrel
    have HB := Lib.hid hbel
    clear hbel
    have hkl : k < L.length := Nat.lt_of_le_of_lt hk HK.out.1
    obtain ⟨s, hs⟩ := get_lt hkl
    have hkn : k < n := by have := HN.out; omega
    have i1 : (k : Int) < (n : Int) := by omega
    have i2 : (0 : Int) ≤ (k : Int) := by omega
    obtain ⟨b, off, rfl, hb, h0, h1⟩ := rd_at (HA.out.on HB.out) hs
    have HX := Lib.hid (HT.out.step s wr (HT.out.keep _ _ HI.out HB.out))
    rcases Nat.lt_or_eq_of_le hk with hlt | rfl
    · have hf := HK.out.2.2 k s hlt hs
      rw [hf] at HX
      have HL := Lib.hid hlt
      clear hs hlt hf hkl
      go_wp2_with (go_at_fn fn; refine HX.out.mono ?_; rintro e w' ⟨rfl, hb'⟩; have HB' := Lib.hid (bstep HB.out hb'); clear hb'; refine Hid.out ?_)
      refine Lib.hid ?_
      go_wp2_with fail
      go_roundw
      case rel => exact ⟨k + 1, HL.out, by go_num, HB'.out⟩
      case measure => have := HL.out; simp [intOf]; omega
    · have hf := HK.out.2.1 s hs
      rw [hf] at HX
      clear hs hf hkl
      go_wp2_with (go_at_fn fn; refine HX.out.mono ?_; rintro e w' ⟨rfl, hb'⟩; have HB' := Lib.hid (bstep HB.out hb'); clear hb'; refine Hid.out ?_)
      refine Lib.hid ?_
      go_wp2_with fail
      go_ret
      exact ⟨rfl, HB'.out⟩

theorem res_two {fn : Func} {p u : Tmp} (h : fn.results = #[.cell p 41, .cell u 41]) {tmps : Array Value} {w : World} {g k : Nat} {x y : Mk} (hp : tmps.getD p undef = .pointer (some ⟨g, 0, none⟩)) (hu : tmps.getD u undef = .pointer (some ⟨k, 0, none⟩))
    (hc : Cel w g [.int .i64 x.1, .int .i64 x.2]) (hd : Cel w k [.int .i64 y.1, .int .i64 y.2]) : (results fn tmps).run Try.prog w = .ok (.tuple #[.agg #[.int .i64 x.1, .int .i64 x.2], .agg #[.int .i64 y.1, .int .i64 y.2]]) w := by
  have hp' : tmps[p]?.getD undef = .pointer (some ⟨g, 0, none⟩) := by simpa using hp
  have hu' : tmps[u]?.getD undef = .pointer (some ⟨k, 0, none⟩) := by simpa using hu
  obtain ⟨h0, h1⟩ := hc.two
  obtain ⟨h2, h3⟩ := hd.two
  simp [results, h, hp', hu', go_sem, h0, h1, h2, h3]

set_option maxHeartbeats 1600000 in
theorem align_around {fn : Nat} {ba ca : Array Value} {I : World → Prop} {f : Mk → Bool} (ht : Tst fn ba ca I f) (L : List Mk) (b off N c : Nat) (hn : L.length = N + 1) (hN : 1 ≤ N) (hcap : N + 1 ≤ c) (w : World) (ha : Mks w (some ⟨b, off, none⟩) L) (hm : N ≤ 64) (hI : I w) {K : Nat} (hK : Fst (L.drop 1) f K) (p n : Mk) (hp : L[K]? = some p) (hq : L[K + 1]? = some n) :
    Calls Try.prog 28 #[.slice (some ⟨b, off, none⟩) (N + 1) c, .func (.func fn) ba ca] w fun e w' => e = .returned (.tuple #[.agg #[.int .i64 p.1, .int .i64 p.2], .agg #[.int .i64 n.1, .int .i64 n.2]]) ∧ Below w.heap.size w w' := by
  have HA := Lib.hid ha
  have HI := Lib.hid hI
  have HT := Lib.hid ht
  have hdl : N = (L.drop 1).length := by rw [List.length_drop]; omega
  have HX := Lib.hid fun (A : Option Addr) (W : World) (h : Mks W A (L.drop 1)) (hI : I W) => index_func ht (L.drop 1) A N (c - 1) hdl W h (by omega) hI hK
  have hKl : K < N := by have := hK.1; omega
  have HP := Lib.hid hp
  have HQ := Lib.hid hq
  have HKl := Lib.hid hKl
  have l6 : 1 ≤ c := by omega
  have l7 : (1 : Int) ≤ (c : Int) := by omega
  have l8 : ¬ c = 1 := by omega
  have l9 : N + 1 ≤ c := by omega
  have l10 : (N : Int) + 1 ≤ (c : Int) := by omega
  have i1 : (K : Int) < (N : Int) + 1 := by omega
  have i2 : (K : Int) + 1 < (N : Int) + 1 := by omega
  have i3 : (0 : Int) ≤ (K : Int) + 1 := by omega
  have w1' : IntKind.i64.wrap ((K : Int) + 1) = (K : Int) + 1 := wrap_id (by omega)
  have wN : IntKind.i64.wrap (N : Int) = (N : Int) := wrap_id (by omega)
  clear ha hI hn hp hq hK hdl ht hcap hKl
  go_enter Try.func28, Try.ntmps28
  go_upto_region 1 with fail
  obtain ⟨w1, hw1⟩ : ∃ W, (w.alloc (.cells #[.int .i64 0, .int .i64 0] 41)).alloc (.cells #[.int .i64 0, .int .i64 0] 41) = W := ⟨_, rfl⟩
  have H1 : Hid (Cel w1 w.heap.size [.int .i64 0, .int .i64 0]) := hw1 ▸ (Cel.new w [.int .i64 0, .int .i64 0] _).alloc _
  have H2 : Hid (Cel w1 (w.heap.size + 1) [.int .i64 0, .int .i64 0]) := hw1 ▸ Cel.new_at _ [.int .i64 0, .int .i64 0] _ (by simp)
  have HB1 : Hid (Below w.heap.size w w1) := hw1 ▸ bstep (below_alloc _ _) (below_alloc _ _)
  rw [hw1]
  clear hw1
  go_wp2_with fail
  refine (HX.out _ w1 (rd_tail (HA.out.on HB1.out)) (HT.out.keep _ _ HI.out HB1.out)).mono ?_
  rintro e w2 ⟨rfl, hb2⟩
  have HB2 := Lib.hid (bstep HB1.out hb2)
  have H3 := Lib.hid (H1.out.on hb2)
  have H4 := Lib.hid (H2.out.on hb2)
  clear hb2
  obtain ⟨c0, c1⟩ := at_k (HA.out.on HB2.out) HP.out
  obtain ⟨c2, c3⟩ := at_k (HA.out.on HB2.out) HQ.out
  have hbb := rd_lt HA.out HP.out
  obtain ⟨x0, x1⟩ := H3.out.two
  obtain ⟨x2, x3⟩ := H4.out.two
  obtain ⟨y0, y1⟩ := H3.out.warm2
  obtain ⟨y2, y3⟩ := H4.out.warm2
  go_wp2_with fail
  go_region
  obtain ⟨w3, hw3⟩ : ∃ W, ((((w2.setCell ⟨w.heap.size, 0, none⟩ (.int .i64 p.1)).setCell ⟨w.heap.size, 1, none⟩ (.int .i64 p.2)).setCell ⟨w.heap.size + 1, 0, none⟩ (.int .i64 n.1)).setCell ⟨w.heap.size + 1, 1, none⟩ (.int .i64 n.2)).drew = W := ⟨_, rfl⟩
  have H5 : Hid (Cel w3 w.heap.size [.int .i64 p.1, .int .i64 p.2]) := hw3 ▸ (((H3.out.put2 _ _).far (p := ⟨w.heap.size + 1, 0, none⟩) (by simp) _).far (p := ⟨w.heap.size + 1, 1, none⟩) (by simp) _).drew
  have H6 : Hid (Cel w3 (w.heap.size + 1) [.int .i64 n.1, .int .i64 n.2]) := hw3 ▸ (((H4.out.far (p := ⟨w.heap.size, 0, none⟩) (by simp) _).far (p := ⟨w.heap.size, 1, none⟩) (by simp) _).put2 _ _).drew
  have HB3 : Hid (Below w.heap.size w w3) := hw3 ▸ below_drew (below_put2 (below_put2 HB2.out (Nat.le_refl _) _ _) (by omega) _ _)
  rw [hw3]
  clear hw3
  go_wp2_with fail
  exact bodyPost_ret (res_two Try.results28 rfl rfl H5.out H6.out) rfl ⟨rfl, HB3.out⟩
#print axioms index_func
#print axioms align_around
end Go.Proofs.Ytkbnhmgladkojaa.Align
