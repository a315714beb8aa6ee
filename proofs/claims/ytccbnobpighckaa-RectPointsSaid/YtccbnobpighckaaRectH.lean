/- Cover, Clip of the reference. -/
import Derived.Test.YtccbnobpighckaaRectG
import Derived.Test.YtccbnobpighckaaRowD
namespace Go.Proofs.Ytccbnobpighckaa.Rect
open Go.ChangeShapes Go.WideShapes Go.RowKit Go.Lib Go.Proofs.Ytccbnobpighckaa.Rw
set_option linter.unusedVariables false
set_option maxRecDepth 100000

set_option maxHeartbeats 800000 in
theorem rr_Cover (L : List Rc) (A : Option Addr) (c : Nat) (w : World) (ha : Rcs w A L) (hm : L.length ≤ 9223372036854775807) :
    Calls Try.prog 21 #[.slice A L.length c] w fun e w' => e = .returned (.tuple #[.int .i64 (cvV L), .int .i64 (lsE L)]) ∧ Below w.heap.size w w' := by
  have HA := Lib.hid ha
  have HL := Lib.hid (rr_list L A c w ha hm)
  have HCv := Lib.hid fun (W : World) (h : Rcs W A L) => rr_cover L A c L.length rfl W h hm
  obtain ⟨E, hE⟩ : ∃ E, lsE L = E := ⟨_, rfl⟩
  obtain ⟨V, hV⟩ : ∃ V, cvV L = V := ⟨_, rfl⟩
  rw [hE] at HL
  rw [hE, hV]
  unfold cvV at hV
  rw [hE] at hV
  have HV := Lib.hid hV
  clear ha hV hE
  go_enter Try.func21, Try.ntmps21
  go_wp2_with fail
  refine HL.out.mono ?_
  rintro e w1 ⟨rfl, hb⟩
  have B1 := Lib.hid hb
  clear hb
  by_cases hz : E = 0
  · subst hz
    have hv := HV.out
    rw [if_pos rfl] at hv
    rw [hv] at HCv
    clear hv
    go_wp2_with fail
    refine (HCv.out w1 (HA.out.on B1.out)).mono ?_
    rintro e w2 ⟨rfl, hb⟩
    have B2 := Lib.hid (bstep B1.out hb)
    clear hb
    go_wp2_with fail
    go_ret2
    exact ⟨rfl, B2.out⟩
  · obtain ⟨z1, z2⟩ := ne_tests hz
    have hv := HV.out
    rw [if_neg hz] at hv
    subst hv
    clear hz
    go_wp2_with fail
    go_ret2
    exact ⟨rfl, B1.out⟩

abbrev TQ : TypeId := 23
theorem info_parts {T : TypeId} {zz : Option Value} {s b : Nat} (h : (Try.prog.info? T).map (fun i => (i.zero, i.size, i.bytes)) = some (zz, s, b)) : ∃ i, Try.prog.info? T = some i ∧ i.zero = zz ∧ i.size = s ∧ i.bytes = b := by
  cases hi : Try.prog.info? T with
  | none => rw [hi] at h; cases h
  | some i => rw [hi] at h; simp at h; exact ⟨i, rfl, h.1, h.2.1, h.2.2⟩
theorem info_q : (Try.prog.info? TQ).map (fun i => (i.zero, i.size, i.bytes)) = some (some (.agg #[.int .i64 0, .int .i64 0, .int .i64 0, .int .i64 0]), 4, 32) := by kernel_rfl
theorem kdQ : Kd cQ 4 32 TQ := by
  obtain ⟨i, h1, h2, h3, h4⟩ := info_parts info_q
  exact ⟨Try.underlying32, ⟨i, _, _, h1, h2, h3, rfl, rfl, by rw [h4]; decide⟩, cQ_len, by decide, fun z u hu => by
    simp at hu
    rcases hu with h | h | h | h <;> subst h <;> rfl⟩
/-- A list of rectangles and an error. -/
def LstR (T : List Rc) (E : Int) (w : World) (e : Ending) (w' : World) : Prop :=
  ∃ A c, e = .returned (.tuple #[.slice A T.length c, .int .i64 E]) ∧ T.length ≤ c ∧ Rcs w' A T ∧ Below w.heap.size w w'
theorem LstR.none_ {E : Int} {w w' : World} (h : Below w.heap.size w w') : LstR [] E w (.returned (.tuple #[.slice none 0 0, .int .i64 E])) w' := ⟨none, 0, rfl, Nat.le_refl _, Rd.nil _ _ _ _, h⟩
theorem clp_take {r s : Rc} {L : List Rc} {k : Nat} (h : L[k]? = some s) : clp r (L.take (k + 1)) = clp r (L.take k) ++ (if comB s r then [comR s r] else []) := by
  rw [take_snoc_of h, clp_snoc]
theorem clp_take_len (r : Rc) (L : List Rc) (k : Nat) : (clp r (L.take k)).length ≤ k := by
  have := clp_len r (L.take k)
  rw [List.length_take] at this
  omega

/-- Four cells that were made ahead of a call. -/
theorem after_zero {w w4 : World} (h : Below ((w.alloc (.cells #[.int .i64 0, .int .i64 0, .int .i64 0, .int .i64 0] 23)).drew).heap.size ((w.alloc (.cells #[.int .i64 0, .int .i64 0, .int .i64 0, .int .i64 0] 23)).drew) w4) : Cel w4 w.heap.size (cQ (0, 0, 0, 0)) := (Cel.new w (cQ (0, 0, 0, 0)) _).drew.on h
theorem cl_below {w w4 : World} (h : Below w.drew.heap.size w.drew w4 ∨ Below ((w.alloc (.cells #[.int .i64 0, .int .i64 0, .int .i64 0, .int .i64 0] 23)).drew).heap.size ((w.alloc (.cells #[.int .i64 0, .int .i64 0, .int .i64 0, .int .i64 0] 23)).drew) w4) : Below w.heap.size w w4 := by
  rcases h with h | h
  · exact bstep (drew_below _) h
  · exact bstep (below_drew (below_alloc _ _)) h
set_option maxHeartbeats 3200000 in
theorem rr_Clip (L : List Rc) (A : Option Addr) (c : Nat) (r : Rc) (w : World) (ha : Rcs w A L) (hm : L.length ≤ 9223372036854775807) :
    Calls Try.prog 25 #[.slice A L.length c, agQ r] w (LstR (clV r L) (rsE r L) w) := by
  have HA := Lib.hid ha
  have HCk := Lib.hid fun W => rr_Check r W
  have HL := Lib.hid fun (W : World) (h : Rcs W A L) => rr_list L A c W h hm
  obtain ⟨T, hT⟩ : ∃ T, clV r L = T := ⟨_, rfl⟩
  obtain ⟨E, hE⟩ : ∃ E, rsE r L = E := ⟨_, rfl⟩
  rw [hT, hE]
  unfold clV at hT
  rw [hE] at hT
  unfold rsE at hE
  obtain ⟨F, hF⟩ : ∃ F, ckE r = F := ⟨_, rfl⟩
  obtain ⟨G, hG⟩ : ∃ G, lsE L = G := ⟨_, rfl⟩
  rw [hF, hG] at hE
  rw [hF] at HCk
  rw [hG] at HL
  have HT := Lib.hid hT
  have HE := Lib.hid hE
  have HGL := Lib.hid hG
  clear ha hT hE hF hG
  go_enter Try.func25, Try.ntmps25
  go_upto_region 1 with fail
  obtain ⟨w0, hw0⟩ : ∃ W, w.alloc (.cells #[.int .i64 r.1, .int .i64 r.2.1, .int .i64 r.2.2.1, .int .i64 r.2.2.2] 23) = W := ⟨_, rfl⟩
  have C0 : Hid (Cel w0 w.heap.size (cQ r)) := hw0 ▸ Cel.new w (cQ r) _
  have B0 : Hid (Below w.heap.size w w0) := hw0 ▸ below_alloc _ _
  have hs0 : w.heap.size + 1 ≤ w0.heap.size := by rw [← hw0]; simp
  have S0 := Lib.hid hs0
  rw [hw0]
  clear hw0 hs0
  obtain ⟨x0, x1, x2, x3⟩ := cel4 C0.out
  go_wp2_with fail
  refine (HCk.out w0).mono ?_
  rintro e w1 ⟨rfl, hb⟩
  have B1 := Lib.hid (bstep B0.out hb)
  have C1 := Lib.hid (C0.out.on hb)
  have S1 := Lib.hid (Nat.le_trans S0.out hb.size)
  clear hb x0 x1 x2 x3
  by_cases hz : F = 0
  rotate_left
  · obtain ⟨z1, z2⟩ := ne_tests hz
    have he := HE.out
    rw [if_neg hz] at he
    subst he
    have ht := HT.out
    rw [if_neg hz] at ht
    subst ht
    clear hz
    go_wp2_with fail
    go_ret2
    exact LstR.none_ B1.out
  subst hz
  go_wp2_with fail
  refine (HL.out w1 (HA.out.on B1.out)).mono ?_
  rintro e w2 ⟨rfl, hb⟩
  have B2 := Lib.hid (bstep B1.out hb)
  have C2 := Lib.hid (C1.out.on hb)
  have S2 := Lib.hid (Nat.le_trans S1.out hb.size)
  clear hb
  have he : G = E := by simpa using HE.out
  subst he
  by_cases hz : G = 0
  rotate_left
  · obtain ⟨z1, z2⟩ := ne_tests hz
    have ht := HT.out
    rw [if_neg hz] at ht
    subst ht
    clear hz
    go_wp2_with fail
    go_ret2
    exact LstR.none_ B2.out
  subst hz
  have ht : clp r L = T := by simpa using HT.out
  subst ht
  have hl64 := (lsE_of HGL.out).1
  go_wp2_with fail
  go_loopw [8, 9] (fun v i wr => ∃ (k : Nat) (A' : Option Addr) (n' c' : Nat), k ≤ L.length ∧ i = .int .i64 k ∧ v = .slice A' n' c' ∧ n' = (clp r (L.take k)).length ∧ Row cQ 4 TQ (w.heap.size + 1) wr (.slice A' n' c') (clp r (L.take k)) ∧ Cel wr w.heap.size (cQ r) ∧ Below w.heap.size w wr ∧ w.heap.size + 1 ≤ wr.heap.size) (fun _ i _ => L.length - (RowKit.intOf i).toNat)
  case atStart => exact ⟨0, none, 0, 0, Nat.zero_le _, rfl, rfl, rfl, Row.nil _ _ _ _ _, C2.out, B2.out, S2.out⟩
  case round =>
    obtain ⟨k, A', n', c', hk, rfl, rfl, hn', hrow, hcel, hbel, hsz⟩ := hrel
    have HR := Lib.hid hrow
    have HC := Lib.hid hcel
    have HB := Lib.hid hbel
    have HS := Lib.hid hsz
    have HN' := Lib.hid hn'
    rcases Nat.lt_or_ge k L.length with hlt | hge
    · obtain ⟨s, hs⟩ := get_lt hlt
      obtain ⟨b, off, rfl, hb, e0, e1, e2, e3⟩ := rd_at (HA.out.on HB.out) hs
      have HTk := Lib.hid (clp_take (r := r) hs)
      have i1 : (k : Int) < (L.length : Int) := by omega
      have i2 : (0 : Int) ≤ (k : Int) := by omega
      have HCm := Lib.hid fun W => rr_Common s r W
      unfold ComP at HCm
      obtain ⟨D, hD⟩ : ∃ D, comB s r = D := ⟨_, rfl⟩
      obtain ⟨V, hV⟩ : ∃ V, comV s r = V := ⟨_, rfl⟩
      rw [hV, hD] at HCm
      rw [hD] at HTk
      have HVD : Hid (D = true → comR s r = V) := fun h => by rw [← hV]; unfold comV; rw [hD, h]; rfl
      have hsl : (clp r (L.take k)).length + 1 ≤ 1000000 := by have := clp_take_len r L k; omega
      have HSl := Lib.hid hsl
      have HCS : Hid (∀ W, Below wr.heap.size wr W → (W.cell? ⟨w.heap.size, 0, none⟩ = some (.int .i64 r.1) ∧ W.cell? ⟨w.heap.size, 1, none⟩ = some (.int .i64 r.2.1) ∧ W.cell? ⟨w.heap.size, 2, none⟩ = some (.int .i64 r.2.2.1) ∧ W.cell? ⟨w.heap.size, 3, none⟩ = some (.int .i64 r.2.2.2)) ∧ (W.cell? ⟨b, off + k * 4, none⟩ = some (.int .i64 s.1) ∧ W.cell? ⟨b, off + k * 4 + 1, none⟩ = some (.int .i64 s.2.1) ∧ W.cell? ⟨b, off + k * 4 + 2, none⟩ = some (.int .i64 s.2.2.1) ∧ W.cell? ⟨b, off + k * 4 + 3, none⟩ = some (.int .i64 s.2.2.2))) := fun W h =>
        ⟨cel4 (HC.out.on h), (h.cell (p := ⟨b, off + k * 4, none⟩) hb).trans e0, (h.cell (p := ⟨b, off + k * 4 + 1, none⟩) hb).trans e1, (h.cell (p := ⟨b, off + k * 4 + 2, none⟩) hb).trans e2, (h.cell (p := ⟨b, off + k * 4 + 3, none⟩) hb).trans e3⟩
      clear hs hrow hcel hbel hsz hn' hD hV hsl e0 e1 e2 e3
      obtain ⟨⟨x0, x1, x2, x3⟩, y0, y1, y2, y3⟩ := HCS.out _ (Below.refl _ _)
      have hgl : w.heap.size < wr.heap.size := HS.out
      obtain ⟨wq, rfl⟩ : ∃ W, W = wr := ⟨wr, rfl⟩
      go_upto_region 11 with fail
      go_cut [10, 11] from 28 to 36 (fun x y wz => ∃ g, x = .pointer (some ⟨g, 0, none⟩) ∧ y = .bool D ∧ Cel wz g (cQ V) ∧ wq.heap.size ≤ g ∧ Below wq.heap.size wq wz)
      case first =>
        go_region_with ((go_at_call 14; (refine (HCm.out _).mono ?_); rintro e w4 ⟨rfl, hb4⟩; (first | (have hz4 := Lib.hid (after_zero hb4); obtain ⟨z0, z1, z2, z3⟩ := cel4 hz4.out; obtain ⟨v0, v1, v2, v3⟩ := warm4 hz4.out) | skip)))
        all_goals
          have hbw := cl_below (w := wq) (by first | exact Or.inl hb4 | exact Or.inr hb4)
          go_wp2_with fail
          go_meet
          case rel => first
            | exact ⟨_, rfl, rfl, Cel.new w4 (cQ V) _, hbw.size, bstep hbw (below_alloc _ _)⟩
            | exact ⟨_, rfl, rfl, cel_put4 hz4.out _ _ _ _, Nat.le_refl _, below_put4 hbw (Nat.le_refl _) _ _ _ _⟩
      case rest =>
        obtain ⟨g, rfl, rfl, hcv, hgw, hbc⟩ := hcut
        have HBc := Lib.hid (HB.out.trans (hbc.mono HB.out.size))
        have HCc := Lib.hid (HC.out.on hbc)
        have HRc := Lib.hid (HR.out.on hbc)
        have HV := Lib.hid hcv
        have HSc := Lib.hid (Nat.le_trans HS.out hbc.size)
        have hg0 : g < wc.heap.size := hcv.lt
        clear hcv hbc x0 x1 x2 x3 y0 y1 y2 y3
        obtain ⟨wy, rfl⟩ : ∃ W, W = wc := ⟨wc, rfl⟩
        cases D with
        | false =>
          have HTn : Hid (clp r (L.take (k + 1)) = clp r (L.take k)) := Lib.hid (by have := HTk.out; simpa using this)
          go_wp2_with fail
          go_roundw
          case rel => exact ⟨k + 1, A', n', c', by omega, by go_num, rfl, by rw [HTn.out]; exact HN'.out, by rw [HTn.out]; exact HRc.out, HCc.out, HBc.out, HSc.out⟩
          case measure => simp [RowKit.intOf]; omega
        | true =>
          have HTn : Hid (clp r (L.take (k + 1)) = clp r (L.take k) ++ [V]) := Lib.hid (by have := HTk.out; rw [HVD.out rfl] at this; simpa using this)
          obtain ⟨x0, x1, x2, x3⟩ := cel4 HV.out
          have HGA : Hid (w.heap.size + 1 ≤ (wy.alloc (.cells #[.int .i64 V.1, .int .i64 V.2.1, .int .i64 V.2.2.1, .int .i64 V.2.2.2] 23)).heap.size) := Nat.le_trans HSc.out (below_alloc _ _).size
          go_wp2_with (at_builtin; refine append_rows kdQ rfl (.tmp 38) (.tmp 40) rfl (.slice A' n' c') (clp r (L.take k)) rfl (HRc.out.on (below_alloc _ _)) (some ⟨wy.heap.size, 0, none⟩) 1 1 [V] rfl rfl (rd_one cQ_len (heap_alloc_new _ _)) HSl.out HGA.out ?_; intro A5 n5 c5 w5 hn5 hr5 hg5 hat5; have HN5 := Lib.hid hn5; have HR5 := Lib.hid hr5; have HG5 := Lib.hid hg5; clear hn5 hr5 hg5 hat5; refine Hid.out ?_)
          have HRa := Lib.hid (HRc.out.on (below_alloc wy (.cells #[.int .i64 V.1, .int .i64 V.2.1, .int .i64 V.2.2.1, .int .i64 V.2.2.2] 23)))
          have HB5 : Hid (Below w.heap.size w w5) := (HBc.out.trans ((below_alloc wy _).mono HBc.out.size)).trans ((HRa.out.below HG5.out HGA.out).mono (Nat.le_succ _))
          have HC5 : Hid (Cel w5 w.heap.size (cQ r)) := (HCc.out.alloc _).grown HG5.out fun h => by have := (HR.out.lt _ h).1; omega
          have HS5 : Hid (w.heap.size + 1 ≤ w5.heap.size) := Nat.le_trans HGA.out HG5.out.size
          have HR6 : Hid (Row cQ 4 TQ (w.heap.size + 1) w5 (.slice A5 n5 c5) (clp r (L.take (k + 1)))) := Lib.hid (by rw [HTn.out]; exact HR5.out)
          have HN6 : Hid (n5 = (clp r (L.take (k + 1))).length) := Lib.hid (by rw [HTn.out, HN5.out, List.length_append]; rfl)
          refine Lib.hid ?_
          go_wp2_with fail
          go_roundw
          case rel => exact ⟨k + 1, A5, n5, c5, by omega, by go_num, rfl, HN6.out, HR6.out, HC5.out, HB5.out, HS5.out⟩
          case measure => simp [RowKit.intOf]; omega
    · obtain rfl : k = L.length := by omega
      have hrow2 := hrow
      rw [List.take_length] at hrow2
      obtain ⟨A6, c6, e6, hle6, -, hrd6, -, -⟩ := hrow2.one cQ_len
      obtain ⟨rfl, hn6, rfl⟩ := Value.slice.inj e6
      have HE6 := Lib.hid hle6
      have HRd6 := Lib.hid hrd6
      have HN6 := Lib.hid hn6
      clear hle6 hrd6 hn6 e6 hrow hrow2 hn'
      go_wp2_with fail
      go_ret2
      exact ⟨A', c', (by rw [← HN6.out]; rfl), HE6.out, HRd6.out, HB.out⟩
#print axioms rr_Cover
#print axioms rr_Clip
end Go.Proofs.Ytccbnobpighckaa.Rect
