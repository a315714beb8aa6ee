/- Walk of IdentPlays. -/
import Derived.Test.YtbmedekfhifcpaaIdentM
namespace Go.Proofs.Ytbmedekfhifcpaa.Ident
open Go.ChangeShapes Go.WideShapes Go.RowKit Go.Lib
set_option linter.unusedVariables false
set_option maxRecDepth 100000

/-- A call of a table: its kind, the index, the name. -/
abbrev Stp := Int × Int × ByteArray
/-- At the address lie the steps l. -/
def Stps (w : World) (A : Option Addr) (l : List Stp) : Prop :=
  ∀ (k : Nat) (s : Stp), l[k]? = some s → ∃ b off, A = some ⟨b, off, none⟩ ∧ b < w.heap.size ∧
    w.cell? ⟨b, off + k * 3, none⟩ = some (.int .i64 s.1) ∧ w.cell? ⟨b, off + k * 3 + 1, none⟩ = some (.int .i64 s.2.1) ∧ w.cell? ⟨b, off + k * 3 + 2, none⟩ = some (.string s.2.2)
theorem Stps.nil (w : World) (A : Option Addr) : Stps w A [] := fun k s h => by simp at h
theorem Stps.on {w w' : World} {A : Option Addr} {l : List Stp} (h : Stps w A l) (hb : Below w.heap.size w w') : Stps w' A l := by
  intro k s hk
  obtain ⟨b, off, e, hlt, h0, h1, h2⟩ := h k s hk
  exact ⟨b, off, e, Nat.lt_of_lt_of_le hlt hb.size, (hb.cell (p := ⟨b, off + k * 3, none⟩) hlt).trans h0, (hb.cell (p := ⟨b, off + k * 3 + 1, none⟩) hlt).trans h1, (hb.cell (p := ⟨b, off + k * 3 + 2, none⟩) hlt).trans h2⟩
def SizP (l : List Stp) : Prop := ∀ s ∈ l, s.2.2.size ≤ maxLen

set_option maxHeartbeats 6400000 in
theorem walk_IdentPlays (w : World) (A : Option Addr) (c : Nat) (L : List ByteArray) (ha : Strs w A L) (hz : Siz L) (hl : L.length ≤ 9223372036854775807)
    (B : Option Addr) (d : Nat) (l : List Stp) (hb : Stps w B l) (hzp : SizP l) (hlp : l.length ≤ 9223372036854775807) :
    Calls Try.prog 5 #[.slice A L.length c, .slice B l.length d] w fun e w' => e = .returned (.bool true) ∧ Below w.heap.size w w' := by
  have HA := Lib.hid ha
  have HZ := Lib.hid hz
  have HL := Lib.hid hb
  have HZP := Lib.hid hzp
  clear ha hz hb hzp
  by_cases h60 : 40 < L.length ∨ 60 < l.length
  · have HAW := Lib.hid (is_awake w)
    have fin : Hid (∀ w', Below w.heap.size w w' → Below w.heap.size w w') := fun _ h => h
    rcases (show (40 < L.length) ∨ (L.length ≤ 40 ∧ 60 < l.length) by omega) with h | ⟨h, h'⟩
    · have h1 : (40 : Int) < (L.length : Int) := by omega
      clear h60 h
      go_enter Try.func5, Try.ntmps5
      go_wp2_with fail
      refine HAW.out.mono ?_
      rintro e w' ⟨rfl, hb⟩
      have HB := Lib.hid hb
      clear hb
      go_wp2_with fail
      go_ret
      exact ⟨rfl, HB.out⟩
    · have h1 : decide ((40 : Int) < (L.length : Int)) = false := decide_eq_false (by omega)
      have h2 : (60 : Int) < (l.length : Int) := by omega
      clear h60 h h'
      go_enter Try.func5, Try.ntmps5
      go_wp2_with fail
      refine HAW.out.mono ?_
      rintro e w' ⟨rfl, hb⟩
      have HB := Lib.hid hb
      clear hb
      go_wp2_with fail
      go_ret
      exact ⟨rfl, HB.out⟩
  · have h1 : decide ((40 : Int) < (L.length : Int)) = false := decide_eq_false (by omega)
    have h2 : decide ((60 : Int) < (l.length : Int)) = false := decide_eq_false (by omega)
    have hll : l.length ≤ 60 := by omega
    have HN := Lib.hid (ident_New L A c w HA.out HZ.out hl)
    clear h60
    go_enter Try.func5, Try.ntmps5
    go_wp2_with fail
    refine HN.out.mono ?_
    rintro e w1 ⟨hb1, h3⟩
    have HR := Lib.hid (ref_New L A c w1 (HA.out.on hb1) HZ.out hl)
    have HB1 := Lib.hid hb1
    clear hb1
    rcases h3 with ⟨h0, b, S0, rfl, ht, hS⟩ | ⟨h0, rfl⟩
    · have HT := Lib.hid ht
      have HS0 := Lib.hid hS
      have H0 := Lib.hid h0
      clear h0 ht hS
      go_wp2_with fail
      refine HR.out.mono ?_
      rintro e w2 ⟨hb2, ⟨h0, b2, S1, rfl, hr, hS1⟩ | ⟨h0, rfl⟩⟩
      · have HB2 := Lib.hid hb2
        have HSTART : Hid (∃ S S2 M, Tb w2 b S M ∧ Rt w2 b2 S2 M ∧ (∀ y, S y → w.heap.size ≤ y) ∧ (∀ y, S2 y → w.heap.size ≤ y) ∧ ∀ y, S y → ¬ S2 y) :=
          ⟨S0, S1, L, HT.out.on hb2, hr, HS0.out, fun y hy => Nat.le_trans HB1.out.size (hS1 y hy), fun y hy hy' => by have := HT.out.lt y hy; have := hS1 y hy'; omega⟩
        clear hb2 h0 hr hS1
        go_wp2_with fail
        go_loopw [9] (fun i wr => ∃ k : Nat, k ≤ l.length ∧ i = .int .i64 k ∧ (∃ S S2 M, Tb wr b S M ∧ Rt wr b2 S2 M ∧ (∀ y, S y → w.heap.size ≤ y) ∧ (∀ y, S2 y → w.heap.size ≤ y) ∧ ∀ y, S y → ¬ S2 y) ∧ Below w.heap.size w wr) (fun i _ => l.length - (intOf i).toNat)
        case atStart => exact ⟨0, Nat.zero_le _, rfl, HSTART.out, bstep HB1.out HB2.out⟩
        case round =>
          obtain ⟨k, hk, rfl, ⟨S, S2, M, ht, hr, hS, hS2, hds⟩, hbr⟩ := hrel
          have HTR := Lib.hid ht
          have HRR := Lib.hid hr
          have HS := Lib.hid hS
          have HS2 := Lib.hid hS2
          have HDS := Lib.hid hds
          have HBR := Lib.hid hbr
          clear ht hr hS hS2 hds hbr
          rcases Nat.lt_or_ge k l.length with hlt | hge
          · obtain ⟨x, hx⟩ := get_lt hlt
            have hsz := HZP.out x (List.mem_of_getElem? hx)
            obtain ⟨b', off, rfl, hb', m0, m1, m2⟩ := HL.out.on HBR.out k x hx
            have hx := Lib.hid hx
            rcases (show x.1 = 0 ∨ x.1 = 1 ∨ x.1 = 2 ∨ (¬ x.1 = 0 ∧ ¬ x.1 = 1 ∧ ¬ x.1 = 2) by omega) with hk0 | hk0 | hk0 | ⟨hk0, hk1, hk2⟩
            · rw [hk0] at m0
              clear hk0
              have HADD := Lib.hid (ident_Add HTR.out hsz)
              have HSZ := Lib.hid hsz
              clear hsz
              go_wp2_with fail
              refine HADD.out.mono ?_
              rintro e w4 ⟨rfl, S3, h1, h2, h3⟩
              have HRX := Lib.hid (HRR.out.off h3 fun y hy hy' => HDS.out y hy' hy)
              obtain ⟨b', off, e', hb', m0, m1, m2⟩ := HL.out.on (HBR.out.trans (h3.below HBR.out.size HS.out)) k _ hx.out
              cases e'
              have HADR := Lib.hid (ref_Add HRX.out HSZ.out)
              have H1 := Lib.hid h1
              have H2 := Lib.hid h2
              have H3 := Lib.hid h3
              clear h1 h2 h3
              go_wp2_with fail
              refine HADR.out.mono ?_
              rintro e w5 ⟨rfl, S4, h1, h2, h3⟩
              have HT2 := Lib.hid (H1.out.off h3 fun y hy hy' => by
                rcases H2.out y hy with h | h
                · exact HDS.out y h hy'
                · have := HRR.out.lt y hy'; omega)
              have HR2 := Lib.hid h1
              have HB5 : Hid (Below w.heap.size w w5) := (HBR.out.trans (H3.out.below HBR.out.size HS.out)).trans (h3.below (Nat.le_trans HBR.out.size H3.out.size) HS2.out)
              have HDD : Hid (∀ y, S3 y → ¬ S4 y) := fun y hy hy' => by
                rcases h2 y hy' with h | h
                · rcases H2.out y hy with h' | h'
                  · exact HDS.out y h' h
                  · have := HRR.out.lt y h; omega
                · have := H1.out.lt y hy; omega
              have HSA : Hid (∀ y, S3 y → w.heap.size ≤ y) := fun y hy => by
                rcases H2.out y hy with h | h
                · exact HS.out y h
                · have := HBR.out.size; omega
              have HSB : Hid (∀ y, S4 y → w.heap.size ≤ y) := fun y hy => by
                rcases h2 y hy with h | h
                · exact HS2.out y h
                · have := HBR.out.size; have := H3.out.size; omega
              clear h1 h2 h3
              go_wp2_with fail
              refine (ident_Len HT2.out).mono ?_
              rintro e w' ⟨rfl, rfl⟩
              go_wp2_with fail
              refine (ref_Len HR2.out).mono ?_
              rintro e w' ⟨rfl, rfl⟩
              go_wp2_with fail
              go_roundw
              case rel => exact ⟨k + 1, by omega, by go_num, ⟨S3, S4, _, HT2.out, HR2.out, HSA.out, HSB.out, HDD.out⟩, HB5.out⟩
              case measure => simp [intOf]; omega
            · rw [hk0] at m0
              clear hk0
              have HF := Lib.hid (ident_Find HTR.out hsz)
              have HFR := Lib.hid (ref_Find x.2.2 HRR.out)
              have HT2 := HTR
              have HR2 := HRR
              clear hsz
              go_wp2_with fail
              refine HF.out.mono ?_
              rintro e w' ⟨rfl, rfl⟩
              go_wp2_with fail
              refine HFR.out.mono ?_
              rintro e w' ⟨rfl, rfl⟩
              go_wp2_with fail
              refine (ident_Len HT2.out).mono ?_
              rintro e w' ⟨rfl, rfl⟩
              go_wp2_with fail
              refine (ref_Len HR2.out).mono ?_
              rintro e w' ⟨rfl, rfl⟩
              go_wp2_with fail
              go_roundw
              case rel => exact ⟨k + 1, by omega, by go_num, ⟨S, S2, M, HT2.out, HR2.out, HS.out, HS2.out, HDS.out⟩, HBR.out⟩
              case measure => simp [intOf]; omega
            · rw [hk0] at m0
              clear hk0
              have HF := Lib.hid (ident_Name x.2.1 HTR.out)
              have HFR := Lib.hid (ref_Name x.2.1 HRR.out)
              have HT2 := HTR
              have HR2 := HRR
              clear hsz
              go_wp2_with fail
              refine HF.out.mono ?_
              rintro e w' ⟨rfl, rfl⟩
              go_wp2_with fail
              refine HFR.out.mono ?_
              rintro e w' ⟨rfl, rfl⟩
              go_wp2_with fail
              refine (ident_Len HT2.out).mono ?_
              rintro e w' ⟨rfl, rfl⟩
              go_wp2_with fail
              refine (ref_Len HR2.out).mono ?_
              rintro e w' ⟨rfl, rfl⟩
              go_wp2_with fail
              go_roundw
              case rel => exact ⟨k + 1, by omega, by go_num, ⟨S, S2, M, HT2.out, HR2.out, HS.out, HS2.out, HDS.out⟩, HBR.out⟩
              case measure => simp [intOf]; omega
            · have q0 : (x.1 == 0) = false := by simpa using hk0
              have q1 : (x.1 == 1) = false := by simpa using hk1
              have q2 : (x.1 == 2) = false := by simpa using hk2
              clear hk0 hk1 hk2
              have HT2 := HTR
              have HR2 := HRR
              clear hsz
              go_wp2_with fail
              refine (ident_Len HT2.out).mono ?_
              rintro e w' ⟨rfl, rfl⟩
              go_wp2_with fail
              refine (ref_Len HR2.out).mono ?_
              rintro e w' ⟨rfl, rfl⟩
              go_wp2_with fail
              go_roundw
              case rel => exact ⟨k + 1, by omega, by go_num, ⟨S, S2, M, HT2.out, HR2.out, HS.out, HS2.out, HDS.out⟩, HBR.out⟩
              case measure => simp [intOf]; omega
          · obtain rfl : k = l.length := by omega
            obtain ⟨A5, c5, d0, f0, hown, hstr, hbk, hrow⟩ := HRR.out.reads
            have HSAME := Lib.hid (is_same A5 c5 HTR.out hstr)
            clear hown hstr hbk hrow f0
            go_wp2_with fail
            refine HSAME.out.mono ?_
            rintro e w5 ⟨rfl, hb5⟩
            have HB5 := Lib.hid hb5
            clear hb5
            go_wp2_with fail
            refine (is_awake w5).mono ?_
            rintro e w6 ⟨rfl, hb6⟩
            have HB6 := Lib.hid hb6
            clear hb6
            go_wp2_with fail
            go_ret
            exact ⟨rfl, bstep HBR.out (bstep HB5.out HB6.out)⟩
      · exact absurd H0.out h0
    · have H0 := Lib.hid h0
      clear h0
      go_wp2_with fail
      refine HR.out.mono ?_
      rintro e w2 ⟨hb2, ⟨h0, b2, S1, rfl, hr, hS1⟩ | ⟨h0, rfl⟩⟩
      · exact absurd h0 H0.out
      · have HB2 := Lib.hid hb2
        clear hb2 h0
        go_wp2_with fail
        go_loopw [9] (fun i wr => ∃ k : Nat, k ≤ l.length ∧ i = .int .i64 k ∧ Below w.heap.size w wr) (fun i _ => l.length - (intOf i).toNat)
        case atStart => exact ⟨0, Nat.zero_le _, rfl, bstep HB1.out HB2.out⟩
        case round =>
          obtain ⟨k, hk, rfl, hbr⟩ := hrel
          have HBR := Lib.hid hbr
          clear hbr
          rcases Nat.lt_or_ge k l.length with hlt | hge
          · obtain ⟨x, hx⟩ := get_lt hlt
            obtain ⟨b', off, rfl, hb', m0, m1, m2⟩ := HL.out.on HBR.out k x hx
            clear hx
            rcases (show x.1 = 0 ∨ x.1 = 1 ∨ x.1 = 2 ∨ (¬ x.1 = 0 ∧ ¬ x.1 = 1 ∧ ¬ x.1 = 2) by omega) with hk0 | hk0 | hk0 | ⟨hk0, hk1, hk2⟩
            · rw [hk0] at m0
              clear hk0
              go_wp2_with fail
              refine (ident_Add_nil _ _).mono ?_
              rintro e w' ⟨rfl, rfl⟩
              go_wp2_with fail
              refine (ref_Add_nil _ _).mono ?_
              rintro e w' ⟨rfl, rfl⟩
              go_wp2_with fail
              refine (ident_Len_nil _).mono ?_
              rintro e w' ⟨rfl, rfl⟩
              go_wp2_with fail
              refine (ref_Len_nil _).mono ?_
              rintro e w' ⟨rfl, rfl⟩
              go_wp2_with fail
              go_roundw
              case rel => exact ⟨k + 1, by omega, by go_num, HBR.out⟩
              case measure => simp [intOf]; omega
            · rw [hk0] at m0
              clear hk0
              go_wp2_with fail
              refine (ident_Find_nil _ _).mono ?_
              rintro e w' ⟨rfl, rfl⟩
              go_wp2_with fail
              refine (ref_Find_nil _ _).mono ?_
              rintro e w' ⟨rfl, rfl⟩
              go_wp2_with fail
              refine (ident_Len_nil _).mono ?_
              rintro e w' ⟨rfl, rfl⟩
              go_wp2_with fail
              refine (ref_Len_nil _).mono ?_
              rintro e w' ⟨rfl, rfl⟩
              go_wp2_with fail
              go_roundw
              case rel => exact ⟨k + 1, by omega, by go_num, HBR.out⟩
              case measure => simp [intOf]; omega
            · rw [hk0] at m0
              clear hk0
              go_wp2_with fail
              refine (ident_Name_nil _ _).mono ?_
              rintro e w' ⟨rfl, rfl⟩
              go_wp2_with fail
              refine (ref_Name_nil _ _).mono ?_
              rintro e w' ⟨rfl, rfl⟩
              go_wp2_with fail
              refine (ident_Len_nil _).mono ?_
              rintro e w' ⟨rfl, rfl⟩
              go_wp2_with fail
              refine (ref_Len_nil _).mono ?_
              rintro e w' ⟨rfl, rfl⟩
              go_wp2_with fail
              go_roundw
              case rel => exact ⟨k + 1, by omega, by go_num, HBR.out⟩
              case measure => simp [intOf]; omega
            · have q0 : (x.1 == 0) = false := by simpa using hk0
              have q1 : (x.1 == 1) = false := by simpa using hk1
              have q2 : (x.1 == 2) = false := by simpa using hk2
              clear hk0 hk1 hk2
              go_wp2_with fail
              refine (ident_Len_nil _).mono ?_
              rintro e w' ⟨rfl, rfl⟩
              go_wp2_with fail
              refine (ref_Len_nil _).mono ?_
              rintro e w' ⟨rfl, rfl⟩
              go_wp2_with fail
              go_roundw
              case rel => exact ⟨k + 1, by omega, by go_num, HBR.out⟩
              case measure => simp [intOf]; omega
          · obtain rfl : k = l.length := by omega
            go_wp2_with fail
            refine (is_none _).mono ?_
            rintro e w5 ⟨rfl, hb5⟩
            have HB5 := Lib.hid hb5
            clear hb5
            go_wp2_with fail
            refine (is_awake w5).mono ?_
            rintro e w6 ⟨rfl, hb6⟩
            have HB6 := Lib.hid hb6
            clear hb6
            go_wp2_with fail
            go_ret
            exact ⟨rfl, bstep HBR.out (bstep HB5.out HB6.out)⟩
#print axioms walk_IdentPlays
end Go.Proofs.Ytbmedekfhifcpaa.Ident
