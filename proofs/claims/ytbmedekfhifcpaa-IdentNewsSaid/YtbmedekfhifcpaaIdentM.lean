/- Walk of IdentNews. -/
import Derived.Test.YtbmedekfhifcpaaIdentL
import Derived.Laws.IdiomStrings
import Derived.Lib.AppendStr
namespace Go.Proofs.Ytbmedekfhifcpaa.Ident
open Go.ChangeShapes Go.WideShapes Go.RowKit Go.Lib
set_option linter.unusedVariables false
set_option maxRecDepth 100000

/-- The names that are appended. -/
def midS (x y : UInt8) : ByteArray := ⟨#[x, y]⟩
def preS (x y : UInt8) : ByteArray := ⟨#[120, x, y]⟩
def allS (x y : UInt8) : ByteArray := ⟨#[120, x, y, 90]⟩
theorem allS_size (x y : UInt8) : (allS x y).size ≤ maxLen := by show 4 ≤ maxLen; unfold maxLen; omega
theorem mid_conv (w : World) (x y : UInt8) {i j : Int} (hx : i = (x.toNat : Int)) (hy : j = (y.toNat : Int)) {g : Nat} (hg : w.heap.size = g) :
    (convert 25 9 (.slice (some ⟨g, 0, none⟩) 2 2)).run Try.prog (w.alloc (.cells #[.int .u8 i, .int .u8 j] 5)) = .ok (.string (midS x y)) (w.alloc (.cells #[.int .u8 i, .int .u8 j] 5)) := by
  subst hx hy hg
  exact run_convert_bytes_back (P := Try.prog) (w.alloc (.cells #[.int .u8 (x.toNat : Int), .int .u8 (y.toNat : Int)] 5)) 25 9 5 ⟨w.heap.size, 0, none⟩ 2 [x, y]
    Try.underlying25 Try.underlying5 Try.underlying9 (fun j hj => by
      match j, hj with
      | 0, hj => rw [Addr.add_lit]; simp
      | 1, hj => rw [Addr.add_lit]; simp)
theorem cat1 (x y : UInt8) (W : World) : (Op.stringOp .add ⟨#[120]⟩ (midS x y)).run Try.prog W = .ok (.string (preS x y)) W := by
  exact run_string_add_sum (P := Try.prog) W ⟨#[120]⟩ (midS x y) (show 1 + 2 ≤ 9223372036854775807 by omega)
theorem cat2 (x y : UInt8) (W : World) : (Op.stringOp .add (preS x y) ⟨#[90]⟩).run Try.prog W = .ok (.string (allS x y)) W := by
  exact run_string_add_sum (P := Try.prog) W (preS x y) ⟨#[90]⟩ (show 3 + 1 ≤ 9223372036854775807 by omega)
theorem byte_of {n : Nat} (h : n < 256) : ∃ x : UInt8, (n : Int) = (x.toNat : Int) := ⟨UInt8.ofNat n, by rw [UInt8.toNat_ofNat']; omega⟩

set_option maxHeartbeats 3200000 in
theorem walk_IdentNews (w : World) (A : Option Addr) (c : Nat) (L : List ByteArray) (ha : Strs w A L) (hz : Siz L) (hl : L.length ≤ 9223372036854775807) (more : Int) :
    Calls Try.prog 4 #[.slice A L.length c, .int .i64 more] w fun e w' => e = .returned (.bool true) ∧ Below w.heap.size w w' := by
  have HA := Lib.hid ha
  have HZ := Lib.hid hz
  clear ha hz
  by_cases h60 : 60 < L.length
  · have h60' : (60 : Int) < (L.length : Int) := by omega
    go_enter Try.func4, Try.ntmps4
    go_wp2_with fail
    refine (is_awake w).mono ?_
    rintro e w' ⟨rfl, hb⟩
    have HB := Lib.hid hb
    clear hb
    go_wp2_with fail
    go_ret
    exact ⟨rfl, HB.out⟩
  · have h60' : decide ((60 : Int) < (L.length : Int)) = false := decide_eq_false (by omega)
    have hl60 : L.length ≤ 60 := by omega
    clear h60
    by_cases hm : 500 ≤ more ∧ more ≤ 530
    · obtain ⟨m, rfl⟩ : ∃ m : Nat, more = (m : Int) := ⟨more.toNat, by omega⟩
      obtain ⟨m1, m2⟩ := hm
      go_enter Try.func4, Try.ntmps4
      go_wp2_with (at_builtin; refine append_strs rfl _ _ rfl (.slice (some ⟨w.heap.size, 0, none⟩) 0 0) [] rfl (own_empty w) A c L L.length rfl rfl (HA.out.on (below_alloc _ _)) (by simp; omega) ?_; intro v' w2 hown2 hgrow2 hat2; refine Hid.out ?_)
      rw [List.nil_append] at hown2
      have HO2 := Lib.hid hown2
      have HB2 : Hid (Below w.heap.size w w2) := (below_alloc w _).grown hgrow2 (by simp) fun k hk => by cases hk; exact Nat.le_refl _
      have HV2 : Hid (∀ k, v'.ownBlock = some k → w.heap.size ≤ k) := fun k hk => by
        rcases hat2 with e | e
        · rw [e] at hk; cases hk; exact Nat.le_refl _
        · rw [e] at hk; cases hk; simp
      clear hown2 hgrow2 hat2
      refine Lib.hid ?_
      go_wp2_with fail
      go_loopw [5, 6] (fun v i wr => ∃ (k : Nat) (M : List ByteArray), k ≤ m ∧ i = .int .i64 k ∧ M.length = L.length + k ∧ Siz M ∧ OwnS wr v M ∧ (∀ k, v.ownBlock = some k → w.heap.size ≤ k) ∧ Below w.heap.size w wr) (fun _ i _ => m - (intOf i).toNat)
      case atStart => exact ⟨0, L, Nat.zero_le _, rfl, rfl, HZ.out, HO2.out, HV2.out, HB2.out⟩
      case round =>
        obtain ⟨k, M, hk, rfl, hM, hsM, hO, hV, hB⟩ := hrel
        obtain ⟨AM, cM, rfl, -, -, hstr, -, -⟩ := hO.one
        have HOR := Lib.hid hO
        have HVR := Lib.hid hV
        have HBR := Lib.hid hB
        have HSM := Lib.hid hsM
        have HST := Lib.hid hstr
        have HMM := Lib.hid hM
        have HLM : Hid (M.length ≤ 600) := by rw [hM]; exact (by omega : L.length + k ≤ 600)
        clear hO hV hB hsM hstr hM
        rcases Nat.lt_or_ge k m with hlt | hge
        · obtain ⟨p, hp⟩ : ∃ p, p = k % 26 := ⟨_, rfl⟩
          obtain ⟨q, hq⟩ : ∃ q, q = k / 26 := ⟨_, rfl⟩
          have ep : ((k : Int) % 26) = (p : Int) := by omega
          have eq : ((k : Int) / 26) = (q : Int) := by omega
          have p1 : (p : Int) < 26 := by omega
          have q1 : (q : Int) < 26 := by omega
          have p0 : (0 : Int) ≤ (p : Int) := by omega
          have q0 : (0 : Int) ≤ (q : Int) := by omega
          obtain ⟨x, hx⟩ := byte_of (n := 97 + p) (by omega)
          obtain ⟨y, hy⟩ := byte_of (n := 97 + q) (by omega)
          have hcv := mid_conv wr x y (i := 97 + (p : Int)) (j := 97 + (q : Int)) (by rw [← hx]; push_cast; rfl) (by rw [← hy]; push_cast; rfl) rfl
          have hc1 := cat1 x y
          have hc2 := cat2 x y
          clear hx hy hp hq
          go_wp2_with (at_builtin; refine append_strs rfl _ _ rfl (.slice AM M.length cM) M rfl ((HOR.out.alloc _).alloc _) (some ⟨wr.heap.size + 1, 0, none⟩) 1 [allS x y] 1 rfl rfl (strs_one_at _ _ _ (by simp)) (by have := HLM.out; simp; omega) ?_; intro v2 w3 hown3 hgrow3 hat3; refine Hid.out ?_)
          have HO3 := Lib.hid hown3
          have HV3 : Hid (∀ k, v2.ownBlock = some k → w.heap.size ≤ k) := fun k hk => by
            rcases hat3 with e | e
            · rw [e] at hk; exact HVR.out k hk
            · rw [e] at hk; cases hk; have := HBR.out.size; simp; omega
          have HB3 : Hid (Below w.heap.size w w3) := ((HBR.out.alloc HBR.out.size _).alloc (by have := HBR.out.size; simp; omega) _).grown hgrow3 (by have := HBR.out.size; simp; omega) HVR.out
          clear hown3 hgrow3 hat3
          refine Lib.hid ?_
          go_wp2_with fail
          go_roundw
          case rel =>
            refine ⟨k + 1, M ++ [allS x y], by omega, by go_num, by have := HMM.out; simp; omega, fun s hs => ?_, HO3.out, HV3.out, HB3.out⟩
            rcases List.mem_append.mp hs with h | h
            · exact HSM.out s h
            · simp at h; subst h; exact allS_size x y
          case measure => simp [intOf]; omega
        · obtain rfl : k = m := by omega
          have HN := Lib.hid (ident_New M AM cM wr HST.out HSM.out (by have := HLM.out; omega))
          go_wp2_with fail
          refine HN.out.mono ?_
          rintro e w3 ⟨hb3, h3⟩
          have HR := Lib.hid (ref_New M AM cM w3 (HST.out.on hb3) HSM.out (by have := HLM.out; omega))
          have HB3 := Lib.hid hb3
          clear hb3
          rcases h3 with ⟨h0, b, S, rfl, ht, hS⟩ | ⟨h0, rfl⟩
          · have HT := Lib.hid ht
            have H0 := Lib.hid h0
            clear h0 ht hS
            go_wp2_with fail
            refine HR.out.mono ?_
            rintro e w4 ⟨hb4, ⟨h0, b2, S2, rfl, hr, hS2⟩ | ⟨h0, rfl⟩⟩
            · have HB4 := Lib.hid hb4
              have HT4 := Lib.hid (HT.out.on hb4)
              obtain ⟨A5, c5, d0, f0, hown, hstr, hbk, hrow⟩ := hr.reads
              have HSAME := Lib.hid (is_same A5 c5 HT4.out hstr)
              clear hb4 h0 hr hS2 hown hstr hbk hrow f0
              go_wp2_with fail
              refine HSAME.out.mono ?_
              rintro e w5 ⟨rfl, hb5⟩
              have HB5 := Lib.hid hb5
              clear hb5
              go_wp2_with fail
              refine (is_awake w5).mono ?_
              rintro e w6 ⟨rfl, hb6⟩
              have HB6 := Lib.hid hb6
              clear hb6
              go_wp2_with fail
              go_ret
              exact ⟨rfl, bstep HBR.out (bstep HB3.out (bstep HB4.out (bstep HB5.out HB6.out)))⟩
            · exact absurd H0.out h0
          · have H0 := Lib.hid h0
            have h0' : (newE M == newE M) = true := by simp
            clear h0
            go_wp2_with fail
            refine HR.out.mono ?_
            rintro e w4 ⟨hb4, ⟨h0, b2, S2, rfl, hr, hS2⟩ | ⟨h0, rfl⟩⟩
            · exact absurd h0 H0.out
            · have HB4 := Lib.hid hb4
              clear hb4 h0
              go_wp2_with fail
              refine (is_awake w4).mono ?_
              rintro e w6 ⟨rfl, hb6⟩
              have HB6 := Lib.hid hb6
              clear hb6
              go_wp2_with fail
              go_ret
              exact ⟨rfl, bstep HBR.out (bstep HB3.out (bstep HB4.out HB6.out))⟩
    · have HMO := Lib.hid hm
      have both : Hid (more < 500 ∨ (500 ≤ more ∧ 530 < more)) := by show more < 500 ∨ (500 ≤ more ∧ 530 < more); omega
      rcases both.out with h5 | ⟨h5, h6⟩
      · have h5' : decide (500 ≤ more) = false := decide_eq_false (by omega)
        clear hm h5
        go_enter Try.func4, Try.ntmps4
        go_wp2_with (at_builtin; refine append_strs rfl _ _ rfl (.slice (some ⟨w.heap.size, 0, none⟩) 0 0) [] rfl (own_empty w) A c L L.length rfl rfl (HA.out.on (below_alloc _ _)) (by simp; omega) ?_; intro v' w2 hown2 hgrow2 hat2; refine Hid.out ?_)
        rw [List.nil_append] at hown2
        have HO2 := Lib.hid hown2
        have HB2 : Hid (Below w.heap.size w w2) := (below_alloc w _).grown hgrow2 (by simp) fun k hk => by cases hk; exact Nat.le_refl _
        have HV2 : Hid (∀ k, v'.ownBlock = some k → w.heap.size ≤ k) := fun k hk => by
          rcases hat2 with e | e
          · rw [e] at hk; cases hk; exact Nat.le_refl _
          · rw [e] at hk; cases hk; simp
        clear hown2 hgrow2 hat2
        obtain ⟨AM, cM, rfl, -, -, hstr, -, -⟩ := HO2.out.one
        have HST := Lib.hid hstr
        have HLM : Hid (L.length ≤ 600) := Nat.le_trans hl60 (by omega)
        clear hstr
        refine Lib.hid ?_
        have HN := Lib.hid (ident_New L AM cM w2 HST.out HZ.out (by have := HLM.out; omega))
        go_wp2_with fail
        refine HN.out.mono ?_
        rintro e w3 ⟨hb3, h3⟩
        have HR := Lib.hid (ref_New L AM cM w3 (HST.out.on hb3) HZ.out (by have := HLM.out; omega))
        have HB3 := Lib.hid hb3
        clear hb3
        rcases h3 with ⟨h0, b, S, rfl, ht, hS⟩ | ⟨h0, rfl⟩
        · have HT := Lib.hid ht
          have H0 := Lib.hid h0
          clear h0 ht hS
          go_wp2_with fail
          refine HR.out.mono ?_
          rintro e w4 ⟨hb4, ⟨h0, b2, S2, rfl, hr, hS2⟩ | ⟨h0, rfl⟩⟩
          · have HB4 := Lib.hid hb4
            have HT4 := Lib.hid (HT.out.on hb4)
            obtain ⟨A5, c5, d0, f0, hown, hstr, hbk, hrow⟩ := hr.reads
            have HSAME := Lib.hid (is_same A5 c5 HT4.out hstr)
            clear hb4 h0 hr hS2 hown hstr hbk hrow f0
            go_wp2_with fail
            refine HSAME.out.mono ?_
            rintro e w5 ⟨rfl, hb5⟩
            have HB5 := Lib.hid hb5
            clear hb5
            go_wp2_with fail
            refine (is_awake w5).mono ?_
            rintro e w6 ⟨rfl, hb6⟩
            have HB6 := Lib.hid hb6
            clear hb6
            go_wp2_with fail
            go_ret
            exact ⟨rfl, bstep HB2.out (bstep HB3.out (bstep HB4.out (bstep HB5.out HB6.out)))⟩
          · exact absurd H0.out h0
        · have H0 := Lib.hid h0
          have h0' : (newE L == newE L) = true := by simp
          clear h0
          go_wp2_with fail
          refine HR.out.mono ?_
          rintro e w4 ⟨hb4, ⟨h0, b2, S2, rfl, hr, hS2⟩ | ⟨h0, rfl⟩⟩
          · exact absurd h0 H0.out
          · have HB4 := Lib.hid hb4
            clear hb4 h0
            go_wp2_with fail
            refine (is_awake w4).mono ?_
            rintro e w6 ⟨rfl, hb6⟩
            have HB6 := Lib.hid hb6
            clear hb6
            go_wp2_with fail
            go_ret
            exact ⟨rfl, bstep HB2.out (bstep HB3.out (bstep HB4.out HB6.out))⟩
      · have h6' : decide (more ≤ 530) = false := decide_eq_false (by omega)
        clear hm h6
        go_enter Try.func4, Try.ntmps4
        go_wp2_with (at_builtin; refine append_strs rfl _ _ rfl (.slice (some ⟨w.heap.size, 0, none⟩) 0 0) [] rfl (own_empty w) A c L L.length rfl rfl (HA.out.on (below_alloc _ _)) (by simp; omega) ?_; intro v' w2 hown2 hgrow2 hat2; refine Hid.out ?_)
        rw [List.nil_append] at hown2
        have HO2 := Lib.hid hown2
        have HB2 : Hid (Below w.heap.size w w2) := (below_alloc w _).grown hgrow2 (by simp) fun k hk => by cases hk; exact Nat.le_refl _
        have HV2 : Hid (∀ k, v'.ownBlock = some k → w.heap.size ≤ k) := fun k hk => by
          rcases hat2 with e | e
          · rw [e] at hk; cases hk; exact Nat.le_refl _
          · rw [e] at hk; cases hk; simp
        clear hown2 hgrow2 hat2
        obtain ⟨AM, cM, rfl, -, -, hstr, -, -⟩ := HO2.out.one
        have HST := Lib.hid hstr
        have HLM : Hid (L.length ≤ 600) := Nat.le_trans hl60 (by omega)
        clear hstr
        refine Lib.hid ?_
        have HN := Lib.hid (ident_New L AM cM w2 HST.out HZ.out (by have := HLM.out; omega))
        go_wp2_with fail
        refine HN.out.mono ?_
        rintro e w3 ⟨hb3, h3⟩
        have HR := Lib.hid (ref_New L AM cM w3 (HST.out.on hb3) HZ.out (by have := HLM.out; omega))
        have HB3 := Lib.hid hb3
        clear hb3
        rcases h3 with ⟨h0, b, S, rfl, ht, hS⟩ | ⟨h0, rfl⟩
        · have HT := Lib.hid ht
          have H0 := Lib.hid h0
          clear h0 ht hS
          go_wp2_with fail
          refine HR.out.mono ?_
          rintro e w4 ⟨hb4, ⟨h0, b2, S2, rfl, hr, hS2⟩ | ⟨h0, rfl⟩⟩
          · have HB4 := Lib.hid hb4
            have HT4 := Lib.hid (HT.out.on hb4)
            obtain ⟨A5, c5, d0, f0, hown, hstr, hbk, hrow⟩ := hr.reads
            have HSAME := Lib.hid (is_same A5 c5 HT4.out hstr)
            clear hb4 h0 hr hS2 hown hstr hbk hrow f0
            go_wp2_with fail
            refine HSAME.out.mono ?_
            rintro e w5 ⟨rfl, hb5⟩
            have HB5 := Lib.hid hb5
            clear hb5
            go_wp2_with fail
            refine (is_awake w5).mono ?_
            rintro e w6 ⟨rfl, hb6⟩
            have HB6 := Lib.hid hb6
            clear hb6
            go_wp2_with fail
            go_ret
            exact ⟨rfl, bstep HB2.out (bstep HB3.out (bstep HB4.out (bstep HB5.out HB6.out)))⟩
          · exact absurd H0.out h0
        · have H0 := Lib.hid h0
          have h0' : (newE L == newE L) = true := by simp
          clear h0
          go_wp2_with fail
          refine HR.out.mono ?_
          rintro e w4 ⟨hb4, ⟨h0, b2, S2, rfl, hr, hS2⟩ | ⟨h0, rfl⟩⟩
          · exact absurd h0 H0.out
          · have HB4 := Lib.hid hb4
            clear hb4 h0
            go_wp2_with fail
            refine (is_awake w4).mono ?_
            rintro e w6 ⟨rfl, hb6⟩
            have HB6 := Lib.hid hb6
            clear hb6
            go_wp2_with fail
            go_ret
            exact ⟨rfl, bstep HB2.out (bstep HB3.out (bstep HB4.out HB6.out))⟩
#print axioms walk_IdentNews
end Go.Proofs.Ytbmedekfhifcpaa.Ident
