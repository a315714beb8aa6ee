/- Sort. -/
import Derived.Test.YtkgmfdmgaloaoaaPqueuePS
import Derived.Deep.LoopGhost
namespace Go.Proofs.Ytkgmfdmgaloaoaa.PqueueS
open Go.ChangeShapes Go.WideShapes Go.RowKit Go.Lib Go.Proofs.Ytkgmfdmgaloaoaa.Pqueue
set_option linter.unusedVariables false
set_option maxRecDepth 100000

abbrev zCs : Array Value := #[.string ByteArray.empty]
theorem make_v (n : Nat) (hn : n ≤ 900000) (W : World) :
    (Instr.makeSlice 49 (.int .i64 0) (.int .i64 (n : Int))).run Try.prog W = .ok (.slice (some ⟨W.heap.size, 0, none⟩) 0 n) (W.alloc (.cells (madeCells zCs (n)) TV)) := by
  obtain ⟨i, hi, hz, hs, hb⟩ := info_parts info_v
  have h := run_make (P := Try.prog) (w := W) 49 TV i _ Try.underlying49 hi hz .i64 .i64 (0 : Int) (n : Int) (by omega) (by omega) (by rw [hb]; omega) (by omega)
  rw [hs, Int.toNat_natCast, Nat.mul_one] at h
  exact h
theorem made_row (W : World) (n : Nat) (hn : n ≤ 900000) : Row cV 1 TV W.heap.size (W.alloc (.cells (madeCells zCs (n)) TV)) (.slice (some ⟨W.heap.size, 0, none⟩) 0 n) [] :=
  World.ownsRow_made W (madeCells zCs (n)) n (Nat.le_refl _) (by unfold maxLen; omega) (by simp [size_madeCells])
theorem rd_cells {w : World} {A : Option Addr} {L : List ByteArray} (h : Rd cV 1 w A L) {k : Nat} {x : ByteArray} (hx : L[k]? = some x) : ∃ b off, A = some ⟨b, off, none⟩ ∧ b < w.heap.size ∧
    w.cell? ⟨b, off + k, none⟩ = some (.string x) := by
  obtain ⟨b, off, e, hb, hc⟩ := h k x hx
  have := hc 0 _ rfl
  rw [Nat.mul_one] at this
  exact ⟨b, off, e, hb, this⟩
theorem ret_slice {A : Option Addr} {n m c : Nat} (h : n = m) : Ending.returned (.slice A n c) = .returned (.slice A m c) := by rw [h]
/-- What Sort returns: a row of the call's own. -/
def SortP (w : World) (lt : ByteArray → ByteArray → Bool) (L : List ByteArray) (e : Ending) (w' : World) : Prop :=
  ∃ T A' c', T.length = L.length ∧ e = .returned (.slice A' L.length c') ∧ Row cV 1 TV w.heap.size w' (.slice A' L.length c') T ∧ L.Perm T ∧ (Sw lt → Pops lt L T []) ∧ Below w.heap.size w w'
theorem q_Sort_nil {w : World} {A : Option Addr} {c : Nat} {L : List ByteArray} (hL : Rd cV 1 w A L) (hm : L.length ≤ 900000) :
    Calls Try.prog 29 #[.slice A L.length c, .nilFunc] w fun e w' => ∃ A' c', e = .returned (.slice A' L.length c') ∧ Row cV 1 TV w.heap.size w' (.slice A' L.length c') L ∧ Below w.heap.size w w' := by
  have HL := Lib.hid hL
  have hn := nil_nil
  have hmk := fun W => make_v L.length hm W
  have HMR := Lib.hid (made_row w L.length hm)
  have HM := Lib.hid hm
  have hm1 : (L.length : Int) ≤ 900000 := by omega
  clear hL hm
  go_enter Try.func29, Try.ntmps29
  go_wp2_with (at_builtin; refine append_rows kdV rfl _ _ rfl (.slice (some ⟨w.heap.size, 0, none⟩) 0 L.length) [] rfl HMR.out A L.length c L rfl rfl (HL.out.on (below_alloc _ _)) (by have := HM.out; simp; omega) (by simp) ?_; intro A' n' c' w2 hn2 hr2 hg2 hat2; refine Hid.out ?_)
  have HR2 := Lib.hid hr2
  have HG2 := Lib.hid hg2
  obtain rfl : n' = L.length := by simpa using hn2
  clear hn2 hr2 hg2 hat2
  refine Lib.hid ?_
  go_wp2_with fail
  go_ret
  refine ⟨A', c', rfl, by have := HR2.out; rw [List.nil_append] at this; exact this, ?_⟩
  exact (below_alloc w _).trans (Row.below HMR.out HG2.out (by simp))

set_option maxHeartbeats 1600000 in
theorem q_Sort {w : World} {A : Option Addr} {c n : Nat} {L : List ByteArray} {lt : ByteArray → ByteArray → Bool} (hL : Rd cV 1 w A L) (hm : L.length ≤ 900000) (ho : Ord n lt) :
    Calls Try.prog 29 #[.slice A L.length c, .func (.func n) #[] #[]] w (SortP w lt L) := by
  have HL := Lib.hid hL
  have HO := Lib.hid ho
  have hn := fn_nil (.func n) #[] #[]
  obtain ⟨N, hN⟩ : ∃ N, L.length = N := ⟨_, rfl⟩
  have HN := Lib.hid hN
  rw [hN] at hm ⊢
  have hmk := fun W => make_v N hm W
  have HMR := Lib.hid (made_row w N hm)
  have HM := Lib.hid hm
  have hm1 : (N : Int) ≤ 900000 := by omega
  clear hL hN ho
  go_enter Try.func29, Try.ntmps29
  go_wp2_with fail
  generalize hw1 : w.alloc (.cells (madeCells zCs (N)) TV) = w1
  have HR1 : Hid (Row cV 1 TV w.heap.size w1 (.slice (some ⟨w.heap.size, 0, none⟩) 0 N) []) := hw1 ▸ HMR.out
  have HB1 : Hid (Below w.heap.size w w1) := hw1 ▸ below_alloc _ _
  have HSZ1 := Lib.hid (show w1.heap.size = w.heap.size + 1 by rw [← hw1]; simp)
  clear hw1 hmk HMR
  refine (q_New n w1).mono ?_
  intro e w2 hnew
  obtain ⟨rfl, hq2, hb2⟩ := hnew.open_ lt
  have HQ2 := Lib.hid hq2
  have HB2 := Lib.hid hb2
  clear hnew hq2 hb2
  go_wp2_with fail
  go_loopw [23] (fun i wr => ∃ (k : Nat) (S : Nat → Prop), i = .int .i64 (k : Int) ∧ k ≤ N ∧ Qr wr w1.heap.size S n lt (L.take k) k ∧ (∀ j, S j → w1.heap.size ≤ j) ∧ Below w1.heap.size w1 wr) (fun i _ => N - (intOf i).toNat)
  case atStart => exact ⟨0, _, rfl, Nat.zero_le _, HQ2.out, fun j h => Nat.le_of_eq h.symm, HB2.out⟩
  case round =>
    obtain ⟨k, S, rfl, hk, hq, hS, hbel⟩ := hrel
    have HQ := Lib.hid hq
    have HS := Lib.hid hS
    have HB := Lib.hid hbel
    have HK := Lib.hid hk
    clear hq hS hbel hk
    rcases Nat.lt_or_ge k N with hlt | hge
    · obtain ⟨x, hx⟩ := get_lt (L := L) (k := k) (by rw [HN.out]; exact hlt)
      obtain ⟨b, off, rfl, hb, h0⟩ := rd_cells (HL.out.on (bstep HB1.out HB.out)) hx
      have HX := Lib.hid (take_snoc_of hx)
      have HKL := Lib.hid hlt
      have i1 : (k : Int) < (N : Int) := by omega
      have i2 : (0 : Int) ≤ (k : Int) := by omega
      clear hx
      go_wp2_with fail
      refine (push_at (lt := lt) (HQ.out.on (Below.refl _ _)) HO.out (by rw [List.length_take]; have := HM.out; omega) (by have := HM.out; have := HKL.out; omega) x).mono ?_
      rintro e w4 ⟨rfl, S', hq4, hs4, ho4⟩
      have HQ4 := Lib.hid hq4
      have HO4 := Lib.hid (Off.below ho4 (B := w1.heap.size) (by have := HB.out.size; first | exact this | (simp; omega)) HS.out)
      have HS4 : Hid (∀ j, S' j → w1.heap.size ≤ j) := fun j hj => by
        rcases hs4 j hj with h | h
        · exact HS.out j h
        · have := HB.out.size; first | (simp at h; omega) | omega
      clear hq4 hs4 ho4
      go_wp2_with fail
      go_roundw
      case rel => exact ⟨k + 1, S', by go_num, HKL.out, by rw [HX.out]; exact HQ4.out, HS4.out, (HB.out.trans ((Below.refl _ _).mono HB.out.size)).trans HO4.out⟩
      case measure => simp [intOf]; omega
    · obtain rfl : k = N := by have := HK.out; omega
      have HQN : Hid (Qr wr w1.heap.size S n lt L k) := by have := HQ.out; rw [← HN.out, List.take_length, HN.out] at this; exact this
      have HRN := Lib.hid (HR1.out.on HB.out)
      have HBN := Lib.hid (bstep HB1.out HB.out)
      have HG1 := Lib.hid HB1.out.size
      have HS0 := HS
      clear HQ HS
      obtain ⟨wo, rfl⟩ : ∃ wo : World, wo = wr := ⟨_, rfl⟩
      go_wp2_with fail
      go_loopg [5] k (fun gk v wr => ∃ (o R : List ByteArray) (S2 : Nat → Prop) (A' : Option Addr) (m c' : Nat), v = .slice A' m c' ∧ m = o.length ∧ Row cV 1 TV w.heap.size wr (.slice A' m c') o ∧ Qr wr w1.heap.size S2 n lt R k ∧ (∀ j, S2 j → w1.heap.size ≤ j) ∧ (∀ b, (Value.slice A' m c').ownBlock = some b → ¬ S2 b) ∧ Outs L o R ∧ (Sw lt → Pops lt L o R) ∧ R.length ≤ gk ∧ Below w.heap.size w wr)
      case atStart => exact ⟨[], L, S, _, 0, k, rfl, rfl, HRN.out, HQN.out, HS0.out, fun b e h => by cases e; have h1 : w1.heap.size ≤ w.heap.size := HS0.out _ h; have := HSZ1.out; omega, .nil _, fun _ => .nil _, Nat.le_of_eq HN.out, HBN.out⟩
      case round =>
        obtain ⟨o, R, S2, A', m, c', rfl, hm', hrow, hq, hS, hdis, hout, hpops, hgk, hbel⟩ := hrel
        have HM' := Lib.hid hm'
        have HROW := Lib.hid hrow
        have HQ := Lib.hid hq
        have HS := Lib.hid hS
        have HD := Lib.hid hdis
        have HOUT := Lib.hid hout
        have HPOPS := Lib.hid hpops
        have HGK := Lib.hid hgk
        have HB := Lib.hid hbel
        clear hm' hrow hq hS hdis hout hpops hgk hbel
        rcases Nat.eq_zero_or_pos R.length with h0 | h0
        · obtain rfl : R = [] := List.eq_nil_of_length_eq_zero h0
          clear h0
          go_wp2_with fail
          refine (len_at HQ.out).mono ?_
          rintro e w3 ⟨rfl, rfl⟩
          go_wp2_with fail
          go_ret
          have hol : o.length = L.length := by have := HOUT.out.len; simpa using this.symm
          have hmk : m = L.length := by rw [HM'.out, hol]
          refine ⟨o, A', c', hol, ret_slice (by rw [hmk, HN.out]), by rw [← hmk]; exact HROW.out, by have := HOUT.out.perm; rw [List.append_nil] at this; exact this, HPOPS.out, HB.out⟩
        · have HLEN := Lib.hid (len_at HQ.out)
          have HPOP := Lib.hid (pop_at HQ.out HO.out (by have := HOUT.out.len; have := HN.out; have := HM.out; omega) h0)
          have HOL : Hid (o.length + 1 ≤ 900000) := (by have := HOUT.out.len; have := HN.out; have := HM.out; omega : o.length + 1 ≤ 900000)
          obtain ⟨r, hr⟩ : ∃ r, R.length = r := ⟨_, rfl⟩
          have HRL := Lib.hid hr
          rw [hr] at h0 HLEN
          clear hr
          go_wp2_with fail
          refine HLEN.out.mono ?_
          rintro e w3 ⟨rfl, rfl⟩
          go_wp2_with fail
          refine HPOP.out.mono ?_
          rintro e w3 ⟨i, x, hx, hf, rfl, hq3, ho3⟩
          have HROW3 := Lib.hid (HROW.out.keep fun b hb => ho3.block b (HROW.out.lt b hb).2 (HD.out b hb))
          have HQ3 := Lib.hid hq3
          have HO3 := Lib.hid (Off.below ho3 (B := w.heap.size) HB.out.size fun j hj => Nat.le_trans HG1.out (HS.out j hj))
          have HX := Lib.hid hx
          have HF := Lib.hid hf
          clear hx hf hq3 ho3 HLEN HPOP
          go_wp2_with (at_builtin; refine append_rows kdV rfl _ _ rfl (.slice A' m c') o rfl (HROW3.out.on (below_alloc _ _)) (some ⟨w3.heap.size, 0, none⟩) 1 1 [x] rfl rfl (rd_one cV_len (heap_alloc_new _ _)) (by have := HOL.out; omega) (by have := HB.out.size; have := HO3.out.size; simp; omega) ?_; intro A5 n5 c5 w5 hn5 hr5 hg5 hat5; refine Hid.out ?_)
          subst hn5
          have HR5 := Lib.hid hr5
          have HQ3W := HQ3.out.on (below_alloc w3 (.cells #[.string x] TV))
          have HQ5 := Lib.hid (HQ3W.keep hg5.size fun j hj => hg5.block j (HQ3W.bnd j hj) fun e => HD.out j e.symm hj)
          have HD5 : Hid (∀ b, (Value.slice A5 (o.length + 1) c5).ownBlock = some b → ¬ S2 b) := Lib.hid fun b hb h => by
            rcases hat5 with h1 | h1
            · rw [h1] at hb; exact HD.out b hb h
            · rw [h1] at hb; cases hb; exact Nat.lt_irrefl _ (HQ3W.bnd _ h)
          have HB5 := Lib.hid ((HB.out.trans HO3.out).trans (Below.trans ((below_alloc w3 (.cells #[.string x] TV)).mono (by have := HB.out.size; have := HO3.out.size; omega)) (Row.below (HROW3.out.on (below_alloc _ _)) hg5 (by have := HB.out.size; have := HO3.out.size; simp; omega))))
          clear hr5 hg5 hat5 HQ3W
          refine Lib.hid ?_
          go_wp2_with fail
          go_roundg (r - 1)
          case measure => have := HGK.out; have := HRL.out; omega
          case rel => exact ⟨o ++ [x], R.eraseIdx i, S2, A5, o.length + 1, c5, rfl, by rw [List.length_append, List.length_singleton], HR5.out, HQ5.out, HS.out, HD5.out, HOUT.out.snoc HX.out, fun hs => (HPOPS.out hs).snoc (HF.out hs) HX.out, by have := erase_len HX.out; have := HRL.out; omega, HB5.out⟩
#print axioms q_Sort
end Go.Proofs.Ytkgmfdmgaloaoaa.PqueueS
