/- Walk of IdentAll. -/
import Derived.Test.YtbmedekfhifcpaaIdentN
namespace Go.Proofs.Ytbmedekfhifcpaa.Ident
open Go.ChangeShapes Go.WideShapes Go.RowKit Go.Lib
set_option linter.unusedVariables false
set_option maxRecDepth 100000

/-- What holds of the memory between two calls of the law's function: the variables n (at g1) and good (at g2), the table at b; of the memory w3 only what is in R has changed. -/
structure Run (w3 : World) (R : Nat → Prop) (g1 g2 b : Nat) (n : Int) (wc : World) : Prop where
  off : Off R w3 wc
  n_ : wc.heap[g1]? = some (.cells #[.int .i64 n] 3 (0, 0))
  good_ : wc.heap[g2]? = some (.cells #[.bool true] 4 (0, 0))
  tb : ∃ S M, Tb wc b S M ∧ (∀ y, S y → R y ∨ w3.heap.size ≤ y) ∧ ¬ S g1 ∧ ¬ S g2
  s1 : w3.heap.size ≤ g1
  s2 : w3.heap.size ≤ g2
  ne : g1 ≠ g2
theorem Run.box {w3 wc : World} {R : Nat → Prop} {g1 g2 b : Nat} {n : Int} (h : Run w3 R g1 g2 b n wc) {g : Nat} {u : Value} (hg : w3.cell? ⟨g, 0, none⟩ = some u) (hR : ¬ R g) :
    wc.cell? ⟨g, 0, none⟩ = some u ∧ ¬ g = g1 ∧ ¬ g = g2 := by
  have hlt := World.block_lt_of_cell? _ _ hg
  have a1 := h.s1
  have a2 := h.s2
  simp at hlt
  exact ⟨(World.cell?_of_block (a := ⟨g, 0, none⟩) (h.off.block g hlt hR)).trans hg, by omega, by omega⟩
theorem Run.step {w3 wc : World} {R : Nat → Prop} {g1 g2 b : Nat} {n : Int} (h : Run w3 R g1 g2 b n wc) (m : Int) : Run w3 R g1 g2 b m ((wc.setCell ⟨g2, 0, none⟩ (.bool true)).setCell ⟨g1, 0, none⟩ (.int .i64 m)) := by
  obtain ⟨S, M, ht, hS, n1, n2⟩ := h.tb
  refine ⟨(h.off.set (Or.inr h.s2) _).set (Or.inr h.s1) _, ?_, ?_, ⟨S, M, ht.keep (by simp [World.setCell]) fun k hk => ?_, hS, n1, n2⟩, h.s1, h.s2, h.ne⟩
  · rw [heap_setCell_same _ g1 0 _ _ _ (by rw [Below.heap_setCell _ _ _ _ (by simpa using h.ne)]; exact h.n_)]; rfl
  · rw [Below.heap_setCell _ _ _ _ (by simpa using fun e => h.ne e.symm), heap_setCell_same _ g2 0 _ _ _ h.good_]; rfl
  · rw [Below.heap_setCell _ _ _ _ (fun e => n1 (by simp at e; exact e ▸ hk)), Below.heap_setCell _ _ _ _ (fun e => n2 (by simp at e; exact e ▸ hk))]
theorem Run.added {w3 wc w' : World} {R : Nat → Prop} {g1 g2 b : Nat} {n : Int} {S : Nat → Prop} {M : List ByteArray} (h : Run w3 R g1 g2 b n wc) (hS : ∀ y, S y → R y ∨ w3.heap.size ≤ y) (n1 : ¬ S g1) (n2 : ¬ S g2)
    (ha : Adds wc b S M w') : Run w3 R g1 g2 b n w' := by
  obtain ⟨S', ht, hs', ho⟩ := ha
  have l1 := (Array.getElem?_eq_some_iff.mp h.n_).1
  have l2 := (Array.getElem?_eq_some_iff.mp h.good_).1
  refine ⟨h.off.trans ho fun x hx => hS x hx, (ho.block g1 l1 n1).trans h.n_, (ho.block g2 l2 n2).trans h.good_, ⟨S', M, ht, fun y hy => ?_, fun e => ?_, fun e => ?_⟩, h.s1, h.s2, h.ne⟩
  · rcases hs' y hy with h1 | h1
    · exact hS y h1
    · have := h.off.size; exact Or.inr (by omega)
  · rcases hs' _ e with h1 | h1
    · exact n1 h1
    · omega
  · rcases hs' _ e with h1 | h1
    · exact n2 h1
    · omega

set_option maxHeartbeats 3200000 in
theorem all_call {w3 wc : World} {R : Nat → Prop} {g1 g2 b hn ht ha hk : Nat} {A : Option Addr} {c : Nat} {L : List ByteArray} {take : Int} {added s : ByteArray} {k : Nat}
    (h : Run w3 R g1 g2 b (k : Int) wc) (pn : w3.cell? ⟨hn, 0, none⟩ = some (.slice A L.length c)) (pt : w3.cell? ⟨ht, 0, none⟩ = some (.pointer (some ⟨b, 0, none⟩))) (pa : w3.cell? ⟨ha, 0, none⟩ = some (.string added))
    (pk : w3.cell? ⟨hk, 0, none⟩ = some (.int .u8 take)) (rn : ¬ R hn) (rt : ¬ R ht) (ra : ¬ R ha) (rk : ¬ R hk) (hA : Strs w3 A L) (hAR : ∀ b off, A = some ⟨b, off, none⟩ → ¬ R b) (hs : L[k]? = some s) (hl : L.length ≤ 60)
    (hz : added.size ≤ maxLen) (t0 : 0 ≤ take) (t1 : take < 256) :
    Calls Try.prog 26 #[.int .i64 (k : Int), .string s, .pointer (some ⟨g2, 0, none⟩), .pointer (some ⟨g1, 0, none⟩), .pointer (some ⟨hn, 0, none⟩), .pointer (some ⟨ht, 0, none⟩), .pointer (some ⟨ha, 0, none⟩), .pointer (some ⟨hk, 0, none⟩)] wc
      fun e w' => e = .returned (.bool (decide ((k : Int) + 1 < take))) ∧ Run w3 R g1 g2 b ((k : Int) + 1) w' := by
  have hlt := lt_get hs
  obtain ⟨qn, an1, an2⟩ := h.box pn rn
  obtain ⟨qt, at1, at2⟩ := h.box pt rt
  obtain ⟨qa, aa1, aa2⟩ := h.box pa ra
  obtain ⟨qk, ak1, ak2⟩ := h.box pk rk
  obtain ⟨b', off, rfl, hb', hc⟩ := hA.keep h.off.size (fun b off e hb => h.off.block b hb (hAR b off e)) k s hs
  have c1 : wc.cell? ⟨g1, 0, none⟩ = some (.int .i64 (k : Int)) := by rw [cell_of_row _ _ _ _ _ _ h.n_]; rfl
  have c2 : wc.cell? ⟨g2, 0, none⟩ = some (.bool true) := by rw [cell_of_row _ _ _ _ _ _ h.good_]; rfl
  have f1 : wc.frozen? ⟨g1, 0, none⟩ = false := frozen_of h.n_ _
  have f2 : wc.frozen? ⟨g2, 0, none⟩ = false := frozen_of h.good_ _
  have e1 := h.ne
  have e2 : ¬ g2 = g1 := fun e => e1 e.symm
  have i1 : (k : Int) < (L.length : Int) := by omega
  have i2 : (0 : Int) ≤ (k : Int) := by omega
  have HR := Lib.hid (h.step ((k : Int) + 1))
  obtain ⟨S, M, htb, hS, n1, n2⟩ := HR.out.tb
  have HADD := Lib.hid (ident_Add htb hz)
  have HS := Lib.hid hS
  have N1 := Lib.hid n1
  have N2 := Lib.hid n2
  have PK := Lib.hid pk
  have RK := Lib.hid rk
  clear h pn pt pa pk rn rt ra rk hA hAR hs htb hS n1 n2 hz
  go_enter Try.func26, Try.ntmps26
  go_wp2_with fail
  refine HADD.out.mono ?_
  rintro e w5 ⟨rfl, hadd⟩
  have HX := Lib.hid (HR.out.added HS.out N1.out N2.out hadd)
  obtain ⟨y1, -, -⟩ := HX.out.box PK.out RK.out
  have y2 : w5.cell? ⟨g1, 0, none⟩ = some (.int .i64 ((k : Int) + 1)) := by rw [cell_of_row _ _ _ _ _ _ HX.out.n_]; rfl
  have y3 : w5.cell? ⟨g2, 0, none⟩ = some (.bool true) := by rw [cell_of_row _ _ _ _ _ _ HX.out.good_]; rfl
  clear hadd
  go_wp2_with fail
  go_ret
  exact ⟨rfl, HX.out⟩
/-- How many names are taken. -/
def wantI (take n : Int) : Int := min (max 1 take) n
set_option maxHeartbeats 6400000 in
theorem walk_IdentAll (w : World) (A : Option Addr) (c : Nat) (L : List ByteArray) (ha : Strs w A L) (hz : Siz L) (hl : L.length ≤ 9223372036854775807) (take : Int) (t0 : 0 ≤ take) (t1 : take < 256) (added : ByteArray) (hs : added.size ≤ maxLen) :
    Calls Try.prog 6 #[.slice A L.length c, .int .u8 take, .string added] w fun e w' => e = .returned (.bool true) ∧ Below w.heap.size w w' := by
  have hmf : ∀ (fn : Fn) (first cap : Array Value) (w : World), (Instr.makeFunc fn first cap).run Try.prog w = .ok (.func fn first cap) w := fun _ _ _ _ => rfl
  obtain ⟨w0, hw0⟩ : ∃ w0, w0 = ((w.alloc (.cells #[.slice A L.length c] 24)).alloc (.cells #[.int .u8 take] 5)).alloc (.cells #[.string added] 9) := ⟨_, rfl⟩
  have hb0 : Below w.heap.size w w0 := by rw [hw0]; exact (((Below.refl _ _).alloc (Nat.le_refl _) _).alloc (by simp) _).alloc (by simp; omega) _
  have hs0 : w0.heap.size = w.heap.size + 3 := by rw [hw0]; simp
  have hc0 : w0.heap[w.heap.size]? = some (.cells #[.slice A L.length c] 24 (0, 0)) := by
    rw [hw0, Below.heap_alloc _ _ _ (by simp; omega), Below.heap_alloc _ _ _ (by simp)]; exact new_cells _ _ _ rfl
  have hc1 : w0.heap[w.heap.size + 1]? = some (.cells #[.int .u8 take] 5 (0, 0)) := by
    rw [hw0, Below.heap_alloc _ _ _ (by simp)]; exact new_cells _ _ _ (by simp)
  have hc2 : w0.heap[w.heap.size + 1 + 1]? = some (.cells #[.string added] 9 (0, 0)) := by
    rw [hw0]; exact new_cells _ _ _ (by simp)
  have k0 : w0.cell? ⟨w.heap.size, 0, none⟩ = some (.slice A L.length c) := by rw [cell_of_row _ _ _ _ _ _ hc0]; rfl
  have HN := Lib.hid (ident_New L A c w0 (ha.on hb0) hz hl)
  have HA := Lib.hid ha
  have HZ := Lib.hid hz
  have HZA := Lib.hid hs
  have HB0 := Lib.hid hb0
  have HS0 := Lib.hid hs0
  have HC0 := Lib.hid hc0
  have HC1 := Lib.hid hc1
  have HC2 := Lib.hid hc2
  have HW := Lib.hid hw0
  have K0 := Lib.hid k0
  clear ha hz hs hb0 hs0 hc0 hc1 hc2 hw0 k0
  by_cases h60 : 60 < L.length
  · have h60' : (60 : Int) < (L.length : Int) := by omega
    have HAW := Lib.hid (is_awake w0)
    go_enter Try.func6, Try.ntmps6
    go_wp2_with fail
    rw [← HW.out]
    refine HAW.out.mono ?_
    rintro e w' ⟨rfl, hb⟩
    have HB := Lib.hid hb
    clear hb
    go_wp2_with fail
    go_ret
    exact ⟨rfl, bstep HB0.out HB.out⟩
  · have h60' : decide ((60 : Int) < (L.length : Int)) = false := decide_eq_false (by omega)
    have hl60 : L.length ≤ 60 := by omega
    clear h60
    go_enter Try.func6, Try.ntmps6
    go_wp2_with fail
    rw [← HW.out]
    refine HN.out.mono ?_
    rintro e w1 ⟨hb1, ⟨h0, b, S, rfl, ht, hS⟩ | ⟨h0, rfl⟩⟩
    · obtain ⟨w2, hw2⟩ : ∃ w2, w2 = w1.alloc (.cells #[.pointer (some ⟨b, 0, none⟩)] 26) := ⟨_, rfl⟩
      have hb2 : Below w1.heap.size w1 w2 := by rw [hw2]; exact below_alloc _ _
      have hs2 : w2.heap.size = w1.heap.size + 1 := by rw [hw2]; simp
      have hct : w2.heap[w1.heap.size]? = some (.cells #[.pointer (some ⟨b, 0, none⟩)] 26 (0, 0)) := by rw [hw2]; exact heap_alloc_new w1 _
      have HALL := Lib.hid (ident_All (ht.on hb2))
      have HT2 := Lib.hid (ht.on hb2)
      have HLT := Lib.hid ht.lt
      have HSS := Lib.hid hS
      have HG := Lib.hid ht.good
      have HB1 := Lib.hid hb1
      have HB2 := Lib.hid hb2
      have HS2 := Lib.hid hs2
      have HW2 := Lib.hid hw2
      have HCT := Lib.hid hct
      clear h0 ht hS hb1 hb2 hs2 hw2 hct
      go_wp2_with fail
      rw [← HW2.out]
      refine HALL.out.mono ?_
      rintro e w3 ⟨gB, rfl, ⟨hge, hgl, A', c', hcell, hstr, hAb⟩, hb3⟩
      have HB13 := Lib.hid ((HB2.out.mono (Nat.le_refl _)).trans (hb3.mono (by have := HS2.out; omega)))
      have HB03 := Lib.hid (HB1.out.trans (HB13.out.mono HB1.out.size))
      have s1 := HB1.out.size
      have s0 := HS0.out
      have s2 := HS2.out
      have s3 := hb3.size
      have pn : w3.cell? ⟨w.heap.size, 0, none⟩ = some (.slice A L.length c) := by rw [cell_of_row _ _ _ _ _ _ ((HB03.out.block _ (by omega)).trans HC0.out)]; rfl
      have pk : w3.cell? ⟨w.heap.size + 1, 0, none⟩ = some (.int .u8 take) := by rw [cell_of_row _ _ _ _ _ _ ((HB03.out.block _ (by omega)).trans HC1.out)]; rfl
      have pa : w3.cell? ⟨w.heap.size + 1 + 1, 0, none⟩ = some (.string added) := by rw [cell_of_row _ _ _ _ _ _ ((HB03.out.block _ (by omega)).trans HC2.out)]; rfl
      have pt : w3.cell? ⟨w1.heap.size, 0, none⟩ = some (.pointer (some ⟨b, 0, none⟩)) := by rw [cell_of_row _ _ _ _ _ _ ((hb3.block _ (by omega)).trans HCT.out)]; rfl
      obtain ⟨R, hR⟩ : ∃ R : Nat → Prop, R = fun y => w0.heap.size ≤ y ∧ y < w1.heap.size := ⟨_, rfl⟩
      have rn : ¬ R w.heap.size := by rw [hR]; exact fun h => by omega
      have rk : ¬ R (w.heap.size + 1) := by rw [hR]; exact fun h => by omega
      have ra : ¬ R (w.heap.size + 1 + 1) := by rw [hR]; exact fun h => by omega
      have rt : ¬ R w1.heap.size := by rw [hR]; exact fun h => by omega
      have rg : ¬ R gB := by rw [hR]; exact fun h => by omega
      have HRA : Hid (∀ b off, A = some ⟨b, off, none⟩ → b < w.heap.size → ¬ R b) := fun b off e hb => by rw [hR]; exact fun h => by omega
      have HRA' : Hid (∀ b off, A' = some ⟨b, off, none⟩ → ¬ R b) := fun b off e => by have := hAb b off e; rw [hR]; exact fun h => by omega
      have HRW : Hid (∀ y, R y → w.heap.size ≤ y) := fun y hy => by rw [hR] at hy; omega
      have HT3 : Hid (∃ S M, Tb w3 b S M ∧ ∀ y, S y → R y ∨ w3.heap.size ≤ y) := ⟨S, L, HT2.out.on hb3, fun y hy => by have := HLT.out y hy; have := HSS.out y hy; rw [hR]; exact Or.inl (by omega)⟩
      have HA3 : Hid (Strs w3 A L) := (HA.out.on HB0.out).keep HB03.out.size fun b off e hb => HB03.out.block b hb
      have HAW : Hid (∀ b off, A = some ⟨b, off, none⟩ → L ≠ [] → b < w.heap.size) := fun b off e hne => by
        cases L with
        | nil => exact absurd rfl hne
        | cons x r => obtain ⟨b', off', e', hlt, _⟩ := HA.out 0 x rfl; rw [e] at e'; cases e'; exact hlt
      have HB3 : Hid (Below w.heap.size w w3) := HB0.out.trans (HB03.out.mono HB0.out.size)
      have HSTR := Lib.hid hstr
      have HCELL := Lib.hid hcell
      have hsn := seq_nil (.func 33) #[] #[.pointer (some ⟨gB, 0, none⟩)] w3
      have PN := Lib.hid pn
      have PK := Lib.hid pk
      have PA := Lib.hid pa
      have PT := Lib.hid pt
      clear hge hgl hcell hstr hAb hb3 s1 s0 s2 s3 pn pk pa pt hR
      go_wp2_with fail
      go_loopw [10] (fun i wr => ∃ r : Nat, r ≤ 2 ∧ i = .int .i64 r ∧ Off R w3 wr ∧ ∃ S M, Tb wr b S M ∧ ∀ y, S y → R y ∨ w3.heap.size ≤ y) (fun i _ => 2 - (intOf i).toNat)
      case atStart => exact ⟨0, Nat.zero_le _, rfl, Off.refl _ _, HT3.out⟩
      case round =>
        obtain ⟨r, hr, rfl, hoff, S', M, htb, hS'⟩ := hrel
        have HOFF := Lib.hid hoff
        have HTB := Lib.hid htb
        have HSY := Lib.hid hS'
        clear hoff htb hS'
        rcases Nat.lt_or_ge r 2 with hlt | hge
        · have HRUN0 : Hid (Run w3 R wr.heap.size (wr.heap.size + 1) b ((0 : Nat) : Int) ((wr.alloc (.cells #[.int .i64 0] 3)).alloc (.cells #[.bool true] 4))) :=
            { off := (HOFF.out.alloc _).alloc _
              n_ := by rw [Below.heap_alloc _ _ _ (by simp)]; exact new_cells _ _ _ rfl
              good_ := new_cells _ _ _ (by simp)
              tb := ⟨S', M, (HTB.out.on (below_alloc _ _)).on (below_alloc _ _), HSY.out, fun e => by have := HTB.out.lt _ e; omega, fun e => by have := HTB.out.lt _ e; omega⟩
              s1 := HOFF.out.size
              s2 := Nat.le_succ_of_le HOFF.out.size
              ne := by omega }
          have HRUN := Lib.hid (all_run 26 #[.pointer (some ⟨wr.heap.size + 1, 0, none⟩), .pointer (some ⟨wr.heap.size, 0, none⟩), .pointer (some ⟨w.heap.size, 0, none⟩), .pointer (some ⟨w1.heap.size, 0, none⟩), .pointer (some ⟨w.heap.size + 1 + 1, 0, none⟩), .pointer (some ⟨w.heap.size + 1, 0, none⟩)]
            (enters_of Try.func26 (by kernel_rfl) rfl) L gB A' c' ((wr.alloc (.cells #[.int .i64 0] 3)).alloc (.cells #[.bool true] 4)) (by omega)
            (HRUN0.out.box HCELL.out rg).1
            (fun k wc => Run w3 R wr.heap.size (wr.heap.size + 1) b (k : Int) wc ∧ (k = 0 ∨ (k : Int) < take))
            (fun wc => Run w3 R wr.heap.size (wr.heap.size + 1) b (wantI take (L.length : Int)) wc)
            (fun k wc h => HSTR.out.keep h.1.off.size fun b off e hb => h.1.off.block b hb (HRA'.out b off e))
            (fun k s wc hs h => (all_call h.1 PN.out PT.out PA.out PK.out rn rt ra rk HA3.out (fun b off e => HRA.out b off e (HAW.out b off e (fun e0 => by rw [e0] at hs; simp at hs))) hs hl60 HZA.out t0 t1).mono fun e w' h' => by
              obtain ⟨rfl, h'⟩ := h'
              have hlt := lt_get hs
              refine ⟨_, rfl, fun hd => ⟨by push_cast; exact h', Or.inr (by push_cast; exact of_decide_eq_true hd)⟩, fun hd => ?_⟩
              have hd := of_decide_eq_false hd
              have e : wantI take (L.length : Int) = (k : Int) + 1 := by unfold wantI; have := h.2; omega
              rw [e]; exact h')
            (fun wc h => by
              have e : wantI take (L.length : Int) = (L.length : Int) := by unfold wantI; have := h.2; omega
              rw [e]; exact h.1)
            ⟨HRUN0.out, Or.inl rfl⟩)
          go_wp2_with fail
          refine HRUN.out.mono ?_
          rintro e w5 ⟨rfl, hrun⟩
          have HX := Lib.hid hrun
          obtain ⟨y1, -, -⟩ := hrun.box PK.out rk
          obtain ⟨y2, -, -⟩ := hrun.box PN.out rn
          have y3 : w5.cell? ⟨wr.heap.size, 0, none⟩ = some (.int .i64 (wantI take (L.length : Int))) := by rw [cell_of_row _ _ _ _ _ _ hrun.n_]; rfl
          have y4 : w5.cell? ⟨wr.heap.size + 1, 0, none⟩ = some (.bool true) := by rw [cell_of_row _ _ _ _ _ _ hrun.good_]; rfl
          clear hrun
          rcases (show (take ≤ 1 ∧ (L.length : Int) < 1) ∨ (take ≤ 1 ∧ 1 ≤ (L.length : Int)) ∨ (1 < take ∧ (L.length : Int) < take) ∨ (1 < take ∧ take ≤ (L.length : Int)) by omega) with ⟨z1, z2⟩ | ⟨z1, z2⟩ | ⟨z1, z2⟩ | ⟨z1, z2⟩
          · have e : wantI take (L.length : Int) = (L.length : Int) := by unfold wantI; omega
            rw [e] at y3
            have d1 : decide (1 < take) = false := decide_eq_false (by omega)
            go_wp2_with fail
            go_roundw
            case rel =>
              obtain ⟨S2, M2, h1, h2, -, -⟩ := HX.out.tb
              exact ⟨r + 1, by omega, by go_num, HX.out.off, S2, M2, h1, h2⟩
            case measure => simp [intOf]; omega
          · have e : wantI take (L.length : Int) = 1 := by unfold wantI; omega
            rw [e] at y3
            have d1 : decide (1 < take) = false := decide_eq_false (by omega)
            have d2 : decide ((L.length : Int) < 1) = false := decide_eq_false (by omega)
            go_wp2_with fail
            go_roundw
            case rel =>
              obtain ⟨S2, M2, h1, h2, -, -⟩ := HX.out.tb
              exact ⟨r + 1, by omega, by go_num, HX.out.off, S2, M2, h1, h2⟩
            case measure => simp [intOf]; omega
          · have e : wantI take (L.length : Int) = (L.length : Int) := by unfold wantI; omega
            rw [e] at y3
            skip
            go_wp2_with fail
            go_roundw
            case rel =>
              obtain ⟨S2, M2, h1, h2, -, -⟩ := HX.out.tb
              exact ⟨r + 1, by omega, by go_num, HX.out.off, S2, M2, h1, h2⟩
            case measure => simp [intOf]; omega
          · have e : wantI take (L.length : Int) = take := by unfold wantI; omega
            rw [e] at y3
            have d2 : decide ((L.length : Int) < take) = false := decide_eq_false (by omega)
            go_wp2_with fail
            go_roundw
            case rel =>
              obtain ⟨S2, M2, h1, h2, -, -⟩ := HX.out.tb
              exact ⟨r + 1, by omega, by go_num, HX.out.off, S2, M2, h1, h2⟩
            case measure => simp [intOf]; omega
        · obtain rfl : r = 2 := by omega
          go_wp2_with fail
          refine (is_awake wr).mono ?_
          rintro e w' ⟨rfl, hb⟩
          have HB := Lib.hid hb
          clear hb
          go_wp2_with fail
          go_ret
          exact ⟨rfl, bstep (HB3.out.trans (HOFF.out.below HB3.out.size HRW.out)) HB.out⟩
    · have HB1 := Lib.hid hb1
      have h0' : (newE L != 0) = true := by simpa using h0
      clear hb1 h0
      go_wp2_with fail
      refine (is_awake _).mono ?_
      rintro e w' ⟨rfl, hb⟩
      have HB := Lib.hid hb
      clear hb
      go_wp2_with fail
      go_ret
      exact ⟨rfl, bstep HB0.out (bstep HB1.out (bstep (below_alloc _ _) HB.out))⟩
#print axioms walk_IdentAll
end Go.Proofs.Ytbmedekfhifcpaa.Ident
