/- Contracts of the program: clipped, Clip. -/
import Derived.Test.YtccbnobpighckaaRectPA
import Derived.Test.YtccbnobpighckaaRectH
namespace Go.Proofs.Ytccbnobpighckaa.Rect
open Go.ChangeShapes Go.WideShapes Go.RowKit Go.Lib Go.Proofs.Ytccbnobpighckaa.Rw
set_option linter.unusedVariables false
set_option maxRecDepth 100000

/-- A list of rectangles. -/
def RowR (T : List Rc) (w : World) (e : Ending) (w' : World) : Prop :=
  ∃ A c, e = .returned (.slice A T.length c) ∧ T.length ≤ c ∧ Rcs w' A T ∧ Below w.heap.size w w'
set_option maxHeartbeats 3200000 in
theorem rect_clipped (L : List Rc) (A : Option Addr) (c : Nat) (r : Rc) (w : World) (ha : Rcs w A L) (hm : L.length ≤ 100000) :
    Calls Try.prog 42 #[.slice A L.length c, agQ r] w (RowR (clp r L) w) := by
  have HA := Lib.hid ha
  clear ha
  go_enter Try.func42, Try.ntmps42
  go_upto_region 1 with fail
  obtain ⟨w2, hw2⟩ : ∃ W, w.alloc (.cells #[.int .i64 r.1, .int .i64 r.2.1, .int .i64 r.2.2.1, .int .i64 r.2.2.2] 23) = W := ⟨_, rfl⟩
  have C2 : Hid (Cel w2 w.heap.size (cQ r)) := hw2 ▸ Cel.new w (cQ r) _
  have B2 : Hid (Below w.heap.size w w2) := hw2 ▸ below_alloc _ _
  have S2 : Hid (w.heap.size + 1 ≤ w2.heap.size) := by rw [← hw2]; exact Lib.hid (by simp)
  rw [hw2]
  clear hw2
  go_wp2_with fail
  go_loopw [5, 12] (fun v i wr => ∃ (k : Nat) (A' : Option Addr) (n' c' : Nat), k ≤ L.length ∧ i = .int .i64 k ∧ v = .slice A' n' c' ∧ n' = (clp r (L.take k)).length ∧ Row cQ 4 TQ (w.heap.size + 1) wr (.slice A' n' c') (clp r (L.take k)) ∧ Cel wr w.heap.size (cQ r) ∧ Below w.heap.size w wr ∧ w.heap.size + 1 ≤ wr.heap.size) (fun _ i _ => L.length - (RowKit.intOf i).toNat)
  case atStart => exact ⟨0, none, 0, 0, Nat.zero_le _, rfl, rfl, rfl, Row.nil _ _ _ _ _, C2.out, B2.out, S2.out⟩
  case round =>
    obtain ⟨k, A', n', c', hk, rfl, rfl, hn', hrow, hcel, hbel, hsz⟩ := hrel
    have HR := Lib.hid hrow
    have HC := Lib.hid hcel
    have HB := Lib.hid hbel
    have HS := Lib.hid hsz
    have HN' := Lib.hid hn'
    rcases Nat.lt_or_ge k L.length with hlt | hge
    · obtain ⟨s, hs⟩ := get_lt hlt
      obtain ⟨b, off, rfl, hb, e0, e1, e2, e3⟩ := rd_at (HA.out.on HB.out) hs
      have HTk := Lib.hid (clp_take (r := r) hs)
      have i1 : (k : Int) < (L.length : Int) := by omega
      have i2 : (0 : Int) ≤ (k : Int) := by omega
      have HCm := Lib.hid fun W => rect_Common s r W
      unfold ComP at HCm
      obtain ⟨D, hD⟩ : ∃ D, comB s r = D := ⟨_, rfl⟩
      obtain ⟨V, hV⟩ : ∃ V, comV s r = V := ⟨_, rfl⟩
      rw [hV, hD] at HCm
      rw [hD] at HTk
      have HVD : Hid (D = true → comR s r = V) := fun h => by rw [← hV]; unfold comV; rw [hD, h]; rfl
      have hsl : (clp r (L.take k)).length + 1 ≤ 1000000 := by have := clp_take_len r L k; omega
      have HSl := Lib.hid hsl
      clear hs hrow hcel hbel hsz hn' hD hV hsl
      obtain ⟨wq, rfl⟩ : ∃ W, W = wr := ⟨wr, rfl⟩
      go_upto_region 5 with fail
      obtain ⟨w3, hw3⟩ : ∃ W, wq.alloc (.cells #[.int .i64 s.1, .int .i64 s.2.1, .int .i64 s.2.2.1, .int .i64 s.2.2.2] 23) = W := ⟨_, rfl⟩
      have E3 : Hid (Cel w3 wq.heap.size (cQ s)) := hw3 ▸ Cel.new wq (cQ s) _
      have hb3 : Below wq.heap.size wq w3 := hw3 ▸ below_alloc _ _
      rw [hw3]
      clear hw3 e0 e1 e2 e3
      have C3 := Lib.hid (HC.out.on hb3)
      obtain ⟨x0, x1, x2, x3⟩ := cel4 E3.out
      obtain ⟨y0, y1, y2, y3⟩ := cel4 C3.out
      go_wp2_with fail
      refine (HCm.out w3).mono ?_
      rintro e w4 ⟨rfl, hb4⟩
      have hb5 := bstep hb3 hb4
      clear hb3 hb4 x0 x1 x2 x3 y0 y1 y2 y3 E3 C3
      go_upto_region 6 with fail
      obtain ⟨w5, hw5⟩ : ∃ W, w4.alloc (.cells #[.int .i64 V.1, .int .i64 V.2.1, .int .i64 V.2.2.1, .int .i64 V.2.2.2] 23) = W := ⟨_, rfl⟩
      have HV : Hid (Cel w5 w4.heap.size (cQ V)) := hw5 ▸ Cel.new w4 (cQ V) _
      have hb6 : Below wq.heap.size wq w5 := hw5 ▸ bstep hb5 (below_alloc _ _)
      rw [hw5]
      clear hw5
      obtain ⟨g, hgg⟩ : ∃ g, w4.heap.size = g := ⟨_, rfl⟩
      rw [hgg] at HV ⊢
      clear hgg hb5
      have HBc := Lib.hid (HB.out.trans (hb6.mono HB.out.size))
      have HCc := Lib.hid (HC.out.on hb6)
      have HRc := Lib.hid (HR.out.on hb6)
      have HSc := Lib.hid (Nat.le_trans HS.out hb6.size)
      clear hb6
      cases D with
      | false =>
        have HTn : Hid (clp r (L.take (k + 1)) = clp r (L.take k)) := Lib.hid (by have := HTk.out; simpa using this)
        go_wp2_with fail
        go_roundw
        case rel => exact ⟨k + 1, A', n', c', by omega, by go_num, rfl, by rw [HTn.out]; exact HN'.out, by rw [HTn.out]; exact HRc.out, HCc.out, HBc.out, HSc.out⟩
        case measure => simp [RowKit.intOf]; omega
      | true =>
        have HTn : Hid (clp r (L.take (k + 1)) = clp r (L.take k) ++ [V]) := Lib.hid (by have := HTk.out; rw [HVD.out rfl] at this; simpa using this)
        obtain ⟨x0, x1, x2, x3⟩ := cel4 HV.out
        have HGA : Hid (w.heap.size + 1 ≤ (w5.alloc (.cells #[.int .i64 V.1, .int .i64 V.2.1, .int .i64 V.2.2.1, .int .i64 V.2.2.2] 23)).heap.size) := Nat.le_trans HSc.out (below_alloc _ _).size
        go_wp2_with (at_builtin; refine append_rows kdQ rfl (.tmp 23) (.tmp 25) rfl (.slice A' n' c') (clp r (L.take k)) rfl (HRc.out.on (below_alloc _ _)) (some ⟨w5.heap.size, 0, none⟩) 1 1 [V] rfl rfl (rd_one cQ_len (heap_alloc_new _ _)) HSl.out HGA.out ?_; intro A5 n5 c5 w6 hn5 hr5 hg5 hat5; have HN5 := Lib.hid hn5; have HR5 := Lib.hid hr5; have HG5 := Lib.hid hg5; clear hn5 hr5 hg5 hat5; refine Hid.out ?_)
        have HRa := Lib.hid (HRc.out.on (below_alloc w5 (.cells #[.int .i64 V.1, .int .i64 V.2.1, .int .i64 V.2.2.1, .int .i64 V.2.2.2] 23)))
        have HB5 : Hid (Below w.heap.size w w6) := (HBc.out.trans ((below_alloc w5 _).mono HBc.out.size)).trans ((HRa.out.below HG5.out HGA.out).mono (Nat.le_succ _))
        have HC5 : Hid (Cel w6 w.heap.size (cQ r)) := (HCc.out.alloc _).grown HG5.out fun h => by have := (HR.out.lt _ h).1; omega
        have HS5 : Hid (w.heap.size + 1 ≤ w6.heap.size) := Nat.le_trans HGA.out HG5.out.size
        have HR6 : Hid (Row cQ 4 TQ (w.heap.size + 1) w6 (.slice A5 n5 c5) (clp r (L.take (k + 1)))) := Lib.hid (by rw [HTn.out]; exact HR5.out)
        have HN6 : Hid (n5 = (clp r (L.take (k + 1))).length) := Lib.hid (by rw [HTn.out, HN5.out, List.length_append]; rfl)
        refine Lib.hid ?_
        go_wp2_with fail
        go_roundw
        case rel => exact ⟨k + 1, A5, n5, c5, by omega, by go_num, rfl, HN6.out, HR6.out, HC5.out, HB5.out, HS5.out⟩
        case measure => simp [RowKit.intOf]; omega
    · obtain rfl : k = L.length := by omega
      have hrow2 := hrow
      rw [List.take_length] at hrow2
      obtain ⟨A6, c6, e6, hle6, -, hrd6, -, -⟩ := hrow2.one cQ_len
      obtain ⟨rfl, hn6, rfl⟩ := Value.slice.inj e6
      have HE6 := Lib.hid hle6
      have HRd6 := Lib.hid hrd6
      have HN6 := Lib.hid hn6
      clear hle6 hrd6 hn6 e6 hrow hrow2 hn'
      go_wp2_with fail
      go_ret
      exact ⟨A', c', (by rw [← HN6.out]; rfl), HE6.out, HRd6.out, HB.out⟩

set_option maxHeartbeats 1600000 in
theorem rect_Clip (L : List Rc) (A : Option Addr) (c : Nat) (r : Rc) (w : World) (ha : Rcs w A L) (hm : L.length ≤ 9223372036854775807) :
    Calls Try.prog 24 #[.slice A L.length c, agQ r] w (LstR (clV r L) (rsE r L) w) := by
  have HA := Lib.hid ha
  have HCk := Lib.hid fun W => rect_Check r W
  have HL := Lib.hid fun (W : World) (h : Rcs W A L) => rect_checkList L A c W h hm
  have HCl := Lib.hid fun (W : World) (h : Rcs W A L) (hl : L.length ≤ 100000) => rect_clipped L A c r W h hl
  obtain ⟨T, hT⟩ : ∃ T, clV r L = T := ⟨_, rfl⟩
  obtain ⟨E, hE⟩ : ∃ E, rsE r L = E := ⟨_, rfl⟩
  rw [hT, hE]
  unfold clV at hT
  rw [hE] at hT
  unfold rsE at hE
  obtain ⟨F, hF⟩ : ∃ F, ckE r = F := ⟨_, rfl⟩
  obtain ⟨G, hG⟩ : ∃ G, lsE L = G := ⟨_, rfl⟩
  rw [hF, hG] at hE
  rw [hF] at HCk
  rw [hG] at HL
  have HT := Lib.hid hT
  have HE := Lib.hid hE
  have HGL := Lib.hid hG
  clear ha hT hE hF hG
  go_enter Try.func24, Try.ntmps24
  go_upto_region 1 with fail
  obtain ⟨w0, hw0⟩ : ∃ W, w.alloc (.cells #[.int .i64 r.1, .int .i64 r.2.1, .int .i64 r.2.2.1, .int .i64 r.2.2.2] 23) = W := ⟨_, rfl⟩
  have C0 : Hid (Cel w0 w.heap.size (cQ r)) := hw0 ▸ Cel.new w (cQ r) _
  have B0 : Hid (Below w.heap.size w w0) := hw0 ▸ below_alloc _ _
  rw [hw0]
  clear hw0
  obtain ⟨x0, x1, x2, x3⟩ := cel4 C0.out
  go_wp2_with fail
  refine (HCk.out w0).mono ?_
  rintro e w1 ⟨rfl, hb⟩
  have B1 := Lib.hid (bstep B0.out hb)
  have C1 := Lib.hid (C0.out.on hb)
  clear hb x0 x1 x2 x3
  by_cases hz : F = 0
  rotate_left
  · obtain ⟨z1, z2⟩ := ne_tests hz
    have he := HE.out
    rw [if_neg hz] at he
    subst he
    have ht := HT.out
    rw [if_neg hz] at ht
    subst ht
    clear hz
    go_wp2_with fail
    go_ret2
    exact LstR.none_ B1.out
  subst hz
  go_wp2_with fail
  refine (HL.out w1 (HA.out.on B1.out)).mono ?_
  rintro e w2 ⟨rfl, hb⟩
  have B2 := Lib.hid (bstep B1.out hb)
  have C2 := Lib.hid (C1.out.on hb)
  clear hb
  have he : G = E := by simpa using HE.out
  subst he
  by_cases hz : G = 0
  rotate_left
  · obtain ⟨z1, z2⟩ := ne_tests hz
    have ht := HT.out
    rw [if_neg hz] at ht
    subst ht
    clear hz
    go_wp2_with fail
    go_ret2
    exact LstR.none_ B2.out
  subst hz
  have ht : clp r L = T := by simpa using HT.out
  subst ht
  have hl64 := (lsE_of HGL.out).1
  obtain ⟨x0, x1, x2, x3⟩ := cel4 C2.out
  go_wp2_with fail
  refine (HCl.out w2 (HA.out.on B2.out) (by omega)).mono ?_
  rintro e w3 ⟨A3, c3, rfl, hle, hrd, hb⟩
  have HLe := Lib.hid hle
  have HRd := Lib.hid hrd
  have B3 := Lib.hid (bstep B2.out hb)
  obtain ⟨n, hn⟩ : ∃ n, n = (clp r L).length := ⟨_, rfl⟩
  have HN := Lib.hid hn
  rw [← hn]
  clear hle hrd hb hn
  go_wp2_with fail
  go_ret2
  exact ⟨A3, c3, by rw [← HN.out]; rfl, HLe.out, HRd.out, B3.out⟩
#print axioms rect_clipped
#print axioms rect_Clip
end Go.Proofs.Ytccbnobpighckaa.Rect
