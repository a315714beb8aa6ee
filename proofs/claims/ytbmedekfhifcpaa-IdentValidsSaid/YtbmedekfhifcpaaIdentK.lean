/- Walks of IdentValids, IdentTable, IdentGrows; slices of strings that came in. -/
import Derived.Test.YtbmedekfhifcpaaIdentJ
import Derived.Test.YtbmedekfhifcpaaLawKit
import Derived.Deep.Strs
namespace Go.Proofs.Ytbmedekfhifcpaa.Ident
open Go.ChangeShapes Go.WideShapes Go.RowKit Go.Lib
set_option linter.unusedVariables false
set_option maxRecDepth 100000

section
variable {H : Type} {enc : TypeId × Value → H} {w : World} {held : Bool}
theorem list_of {P : Nat → ByteArray → Prop} : ∀ n, (∀ i, i < n → ∃ s, P i s) → ∃ L : List ByteArray, L.length = n ∧ ∀ (i : Nat) (s : ByteArray), L[i]? = some s → P i s := by
  intro n
  induction n with
  | zero => intro _; exact ⟨[], rfl, fun i s hs => by simp at hs⟩
  | succ n ih =>
    intro h
    obtain ⟨L, hl, hL⟩ := ih fun i hi => h i (by omega)
    obtain ⟨t, ht⟩ := h n (by omega)
    refine ⟨L ++ [t], by simp [hl], fun i u hu => ?_⟩
    have hlt := lt_get hu
    rw [List.length_append, List.length_singleton] at hlt
    rcases Nat.lt_or_ge i L.length with h1 | h1
    · rw [List.getElem?_append_left h1] at hu; exact hL i u hu
    · obtain rfl : i = n := by omega
      rw [List.getElem?_append_right h1, hl, Nat.sub_self] at hu
      obtain rfl : t = u := by simpa using hu
      exact ht
/-- A slice of strings that came in. -/
theorem open_strs {r : Reach} {b0 : Nat} {v : Value} {d : DataW H} {p : List MemPlace} (hv : Value.okWide Try.prog w r b0 24 v) (h : DataW.Trod enc Try.prog w 0 (fun _ => true) held 24 v d p) :
    ∃ A c L, v = .slice A L.length c ∧ Strs w A L ∧ Siz L ∧ L.length ≤ 9223372036854775807 := by
  obtain ⟨A, n, c, rfl⟩ := okWide_slice Try.underlying24 hv
  obtain ⟨fuel, hf⟩ := h
  rcases Deep.open_strs Try.underlying24 Try.underlying9 (by kernel_rfl) hf with ⟨hcs, _⟩ | ⟨a, len, cap, m, Sx, hcs, _, hl, hm, hmm, _, hel⟩
  · simp [Value.cells] at hcs
    obtain ⟨rfl, rfl, rfl⟩ := hcs
    exact ⟨none, 0, [], rfl, Strs.nil _ _, fun s hs => by simp at hs, by simp⟩
  · simp [Value.cells] at hcs
    obtain ⟨rfl, rfl, rfl⟩ := hcs
    have hmc : m = c := by simpa using hmm
    subst hmc
    obtain ⟨L, rfl, hL⟩ := list_of (P := fun i s => w.cell? (a.add i) = some (.string s) ∧ s.size ≤ maxLen) n fun i hi => ⟨Sx i, hel i (by omega)⟩
    refine ⟨some a, m, L, rfl, fun k s hk => ?_, fun s hs => ?_, by unfold maxLen at hm; omega⟩
    · have hc := (hL k s hk).1
      obtain ⟨b, off, spot⟩ := a
      have h0 := (hL 0 _ (List.getElem?_eq_getElem (Nat.lt_of_le_of_lt (Nat.zero_le k) (lt_get hk)))).1
      have e : ∀ x : Addr, x.add 0 = x := fun x => by unfold Addr.add; rw [if_pos rfl]
      rw [e] at h0
      have hspot : spot = none := World.cell?_spot h0
      subst hspot
      rw [Addr.add_lit] at hc
      exact ⟨b, off, rfl, World.block_lt_of_cell? w _ hc, hc⟩
    · obtain ⟨j, hj⟩ := List.mem_iff_getElem?.mp hs
      exact (hL j s hj).2
end

theorem walk_IdentValids (w : World) (s : ByteArray) (hm : s.size ≤ 9223372036854775807) : Calls Try.prog 3 #[.string s] w fun e w' => e = .returned (.bool true) ∧ Below w.heap.size w w' := by
  obtain ⟨b, hb⟩ : ∃ b, validB s = b := ⟨_, rfl⟩
  have HC := valid_is hb hm w
  have HR := rvalid_is hb hm w
  clear hb
  cases b with
  | true =>
    go_enter Try.func3, Try.ntmps3
    go_wp2_with fail
    refine HC.mono ?_
    rintro e w' ⟨rfl, rfl⟩
    go_wp2_with fail
    refine HR.mono ?_
    rintro e w' ⟨rfl, rfl⟩
    go_wp2_with fail
    refine (is_awake w).mono ?_
    rintro e w' ⟨rfl, hb⟩
    have HB := Lib.hid hb
    clear hb
    go_wp2_with fail
    go_ret
    exact ⟨rfl, HB.out⟩
  | false =>
    go_enter Try.func3, Try.ntmps3
    go_wp2_with fail
    refine HC.mono ?_
    rintro e w' ⟨rfl, rfl⟩
    go_wp2_with fail
    refine HR.mono ?_
    rintro e w' ⟨rfl, rfl⟩
    go_wp2_with fail
    refine (is_awake w).mono ?_
    rintro e w' ⟨rfl, hb⟩
    have HB := Lib.hid hb
    clear hb
    go_wp2_with fail
    go_ret
    exact ⟨rfl, HB.out⟩

/-- The loop of IdentTable: is s among the first k? -/
def inB (s : ByteArray) (L : List ByteArray) : Bool := (pos s L).isSome
theorem inB_snoc (s x : ByteArray) (L : List ByteArray) : inB s (L ++ [x]) = (inB s L || decide (x = s)) := by
  unfold inB
  rw [pos_snoc]
  cases pos s L with
  | some k => simp
  | none => by_cases h : x = s <;> simp [h]

set_option maxHeartbeats 3200000 in
theorem walk_IdentTable (w : World) (A : Option Addr) (c : Nat) (L : List ByteArray) (ha : Strs w A L) (hz : Siz L) (hl : L.length ≤ 9223372036854775807) (s : ByteArray) (hs : s.size ≤ maxLen) (i : Int) :
    Calls Try.prog 7 #[.slice A L.length c, .string s, .int .i64 i] w fun e w' => e = .returned (.bool true) ∧ Below w.heap.size w w' := by
  have HN := Lib.hid (ident_New L A c w ha hz hl)
  have HA := Lib.hid ha
  have HZ := Lib.hid hz
  have HS := Lib.hid hs
  clear ha hz hs
  by_cases h60 : 60 < L.length
  · have h60' : (60 : Int) < (L.length : Int) := by omega
    go_enter Try.func7, Try.ntmps7
    go_wp2_with fail
    refine (is_awake w).mono ?_
    rintro e w' ⟨rfl, hb⟩
    have HB := Lib.hid hb
    clear hb
    go_wp2_with fail
    go_ret
    exact ⟨rfl, HB.out⟩
  · have h60' : decide ((60 : Int) < (L.length : Int)) = false := decide_eq_false (by omega)
    go_enter Try.func7, Try.ntmps7
    go_wp2_with fail
    refine HN.out.mono ?_
    rintro e w1 ⟨hb1, ⟨h0, b, S, rfl, ht, hS⟩ | ⟨h0, rfl⟩⟩
    · have HB1 := Lib.hid hb1
      have HA1 := Lib.hid (HA.out.on hb1)
      have HT := Lib.hid ht
      have HG := Lib.hid ht.good
      clear hb1 h0 ht hS
      go_wp2_with fail
      refine (ident_Len HT.out).mono ?_
      rintro e w' ⟨rfl, rfl⟩
      go_wp2_with fail
      have hsz0 : ByteArray.empty.size ≤ maxLen := by unfold maxLen; decide
      rcases (show i < 0 ∨ (0 ≤ i ∧ i < (L.length : Int)) ∨ (L.length : Int) ≤ i by omega) with h | ⟨h1, h2⟩ | h
      · have HNM := ident_Name i HT.out
        rw [(nam_out (L := L) (i := i) (by omega)).1, (nam_out (L := L) (i := i) (by omega)).2] at HNM
        have HNN := Lib.hid HNM
        have d1 : decide (0 ≤ i) = false := decide_eq_false (by omega)
        clear HNM
        refine HNN.out.mono ?_
        rintro e w' ⟨rfl, rfl⟩
        go_wp2_with fail
        refine (ident_Find HT.out hsz0).mono ?_
        rintro e w' ⟨rfl, rfl⟩
        go_wp2_with fail
        cases hp : pos s L with
        | some j =>
          have HIN : Hid (inB s L = true) := by show (pos s L).isSome = true; rw [hp]; rfl
          have HF := ident_Find HT.out HS.out
          rw [(fnd_some hp).1, (fnd_some hp).2] at HF
          have HM := ident_Name (j : Int) HT.out
          rw [(nam_at (pos_some hp).1).1, (nam_at (pos_some hp).1).2] at HM
          have HFF := Lib.hid HF
          have HMM := Lib.hid HM
          clear hp HF HM
          refine HFF.out.mono ?_
          rintro e w' ⟨rfl, rfl⟩
          go_wp2_with fail
          refine HMM.out.mono ?_
          rintro e w' ⟨rfl, rfl⟩
          go_wp2_with fail
          go_loop [17, 18] (fun v i => ∃ k : Nat, k ≤ L.length ∧ i = .int .i64 k ∧ v = .bool (inB s (L.take k))) (fun _ i => L.length - (intOf i).toNat)
          case atStart => exact ⟨0, Nat.zero_le _, rfl, rfl⟩
          case round =>
            obtain ⟨k, hk, rfl, rfl⟩ := hrel
            rcases Nat.lt_or_ge k L.length with hlt | hge
            · obtain ⟨x, hx⟩ := get_lt hlt
              obtain ⟨b', off, rfl, hb', hc⟩ := HA1.out k x hx
              have HX := Lib.hid (take_snoc_of hx)
              clear hx
              cases hin : inB s (L.take k) with
              | true =>
                have HI : Hid (inB s (L.take (k + 1)) = true) := by rw [HX.out, inB_snoc, hin]; rfl
                clear hin
                go_wp2_with fail
                go_round
                case rel => exact ⟨k + 1, by omega, by go_num, by rw [HI.out]⟩
                case measure => simp [intOf]; omega
              | false =>
                by_cases e : x = s
                · have HI : Hid (inB s (L.take (k + 1)) = true) := by rw [HX.out, inB_snoc, hin, decide_eq_true e]; rfl
                  have he := beq_yes e
                  clear hin e
                  go_wp2_with fail
                  go_round
                  case rel => exact ⟨k + 1, by omega, by go_num, by rw [HI.out]⟩
                  case measure => simp [intOf]; omega
                · have HI : Hid (inB s (L.take (k + 1)) = false) := by rw [HX.out, inB_snoc, hin, decide_eq_false e]; rfl
                  have he := beq_no e
                  clear hin e
                  go_wp2_with fail
                  go_round
                  case rel => exact ⟨k + 1, by omega, by go_num, by rw [HI.out]⟩
                  case measure => simp [intOf]; omega
            · obtain rfl : k = L.length := by omega
              rw [List.take_length, show inB s L = true from HIN.out]
              go_wp2_with fail
              refine (is_awake w1).mono ?_
              rintro e w' ⟨rfl, hb⟩
              have HB := Lib.hid hb
              clear hb
              go_wp2_with fail
              go_ret
              exact ⟨rfl, bstep HB1.out HB.out⟩
        | none =>
          have HIN : Hid (inB s L = false) := by show (pos s L).isSome = false; rw [hp]; rfl
          have HF := ident_Find HT.out HS.out
          rw [(fnd_none hp).1, (fnd_none hp).2] at HF
          have HFF := Lib.hid HF
          clear hp HF
          refine HFF.out.mono ?_
          rintro e w' ⟨rfl, rfl⟩
          go_wp2_with fail
          refine (ident_Name 0 HT.out).mono ?_
          rintro e w' ⟨rfl, rfl⟩
          go_wp2_with fail
          go_loop [17, 18] (fun v i => ∃ k : Nat, k ≤ L.length ∧ i = .int .i64 k ∧ v = .bool (inB s (L.take k))) (fun _ i => L.length - (intOf i).toNat)
          case atStart => exact ⟨0, Nat.zero_le _, rfl, rfl⟩
          case round =>
            obtain ⟨k, hk, rfl, rfl⟩ := hrel
            rcases Nat.lt_or_ge k L.length with hlt | hge
            · obtain ⟨x, hx⟩ := get_lt hlt
              obtain ⟨b', off, rfl, hb', hc⟩ := HA1.out k x hx
              have HX := Lib.hid (take_snoc_of hx)
              clear hx
              cases hin : inB s (L.take k) with
              | true =>
                have HI : Hid (inB s (L.take (k + 1)) = true) := by rw [HX.out, inB_snoc, hin]; rfl
                clear hin
                go_wp2_with fail
                go_round
                case rel => exact ⟨k + 1, by omega, by go_num, by rw [HI.out]⟩
                case measure => simp [intOf]; omega
              | false =>
                by_cases e : x = s
                · have HI : Hid (inB s (L.take (k + 1)) = true) := by rw [HX.out, inB_snoc, hin, decide_eq_true e]; rfl
                  have he := beq_yes e
                  clear hin e
                  go_wp2_with fail
                  go_round
                  case rel => exact ⟨k + 1, by omega, by go_num, by rw [HI.out]⟩
                  case measure => simp [intOf]; omega
                · have HI : Hid (inB s (L.take (k + 1)) = false) := by rw [HX.out, inB_snoc, hin, decide_eq_false e]; rfl
                  have he := beq_no e
                  clear hin e
                  go_wp2_with fail
                  go_round
                  case rel => exact ⟨k + 1, by omega, by go_num, by rw [HI.out]⟩
                  case measure => simp [intOf]; omega
            · obtain rfl : k = L.length := by omega
              rw [List.take_length, show inB s L = false from HIN.out]
              go_wp2_with fail
              refine (is_awake w1).mono ?_
              rintro e w' ⟨rfl, hb⟩
              have HB := Lib.hid hb
              clear hb
              go_wp2_with fail
              go_ret
              exact ⟨rfl, bstep HB1.out HB.out⟩
      · obtain ⟨j, rfl⟩ : ∃ j : Nat, i = (j : Int) := ⟨i.toNat, by omega⟩
        obtain ⟨n, hn⟩ := get_lt (show j < L.length by omega)
        have HNM := ident_Name (j : Int) HT.out
        rw [(nam_at hn).1, (nam_at hn).2] at HNM
        have HF := ident_Find (s := n) HT.out (HZ.out n (List.mem_of_getElem? hn))
        rw [(fnd_some (pos_at HG.out.nodup hn)).1, (fnd_some (pos_at HG.out.nodup hn)).2] at HF
        have HNN := Lib.hid HNM
        have HFN := Lib.hid HF
        clear HNM HF hn
        refine HNN.out.mono ?_
        rintro e w' ⟨rfl, rfl⟩
        go_wp2_with fail
        refine (ident_Len HT.out).mono ?_
        rintro e w' ⟨rfl, rfl⟩
        go_wp2_with fail
        refine HFN.out.mono ?_
        rintro e w' ⟨rfl, rfl⟩
        go_wp2_with fail
        cases hp : pos s L with
        | some j' =>
          have HIN : Hid (inB s L = true) := by show (pos s L).isSome = true; rw [hp]; rfl
          have HF := ident_Find HT.out HS.out
          rw [(fnd_some hp).1, (fnd_some hp).2] at HF
          have HM := ident_Name (j' : Int) HT.out
          rw [(nam_at (pos_some hp).1).1, (nam_at (pos_some hp).1).2] at HM
          have HFF := Lib.hid HF
          have HMM := Lib.hid HM
          clear hp HF HM
          refine HFF.out.mono ?_
          rintro e w' ⟨rfl, rfl⟩
          go_wp2_with fail
          refine HMM.out.mono ?_
          rintro e w' ⟨rfl, rfl⟩
          go_wp2_with fail
          go_loop [17, 18] (fun v i => ∃ k : Nat, k ≤ L.length ∧ i = .int .i64 k ∧ v = .bool (inB s (L.take k))) (fun _ i => L.length - (intOf i).toNat)
          case atStart => exact ⟨0, Nat.zero_le _, rfl, rfl⟩
          case round =>
            obtain ⟨k, hk, rfl, rfl⟩ := hrel
            rcases Nat.lt_or_ge k L.length with hlt | hge
            · obtain ⟨x, hx⟩ := get_lt hlt
              obtain ⟨b', off, rfl, hb', hc⟩ := HA1.out k x hx
              have HX := Lib.hid (take_snoc_of hx)
              clear hx
              cases hin : inB s (L.take k) with
              | true =>
                have HI : Hid (inB s (L.take (k + 1)) = true) := by rw [HX.out, inB_snoc, hin]; rfl
                clear hin
                go_wp2_with fail
                go_round
                case rel => exact ⟨k + 1, by omega, by go_num, by rw [HI.out]⟩
                case measure => simp [intOf]; omega
              | false =>
                by_cases e : x = s
                · have HI : Hid (inB s (L.take (k + 1)) = true) := by rw [HX.out, inB_snoc, hin, decide_eq_true e]; rfl
                  have he := beq_yes e
                  clear hin e
                  go_wp2_with fail
                  go_round
                  case rel => exact ⟨k + 1, by omega, by go_num, by rw [HI.out]⟩
                  case measure => simp [intOf]; omega
                · have HI : Hid (inB s (L.take (k + 1)) = false) := by rw [HX.out, inB_snoc, hin, decide_eq_false e]; rfl
                  have he := beq_no e
                  clear hin e
                  go_wp2_with fail
                  go_round
                  case rel => exact ⟨k + 1, by omega, by go_num, by rw [HI.out]⟩
                  case measure => simp [intOf]; omega
            · obtain rfl : k = L.length := by omega
              rw [List.take_length, show inB s L = true from HIN.out]
              go_wp2_with fail
              refine (is_awake w1).mono ?_
              rintro e w' ⟨rfl, hb⟩
              have HB := Lib.hid hb
              clear hb
              go_wp2_with fail
              go_ret
              exact ⟨rfl, bstep HB1.out HB.out⟩
        | none =>
          have HIN : Hid (inB s L = false) := by show (pos s L).isSome = false; rw [hp]; rfl
          have HF := ident_Find HT.out HS.out
          rw [(fnd_none hp).1, (fnd_none hp).2] at HF
          have HFF := Lib.hid HF
          clear hp HF
          refine HFF.out.mono ?_
          rintro e w' ⟨rfl, rfl⟩
          go_wp2_with fail
          refine (ident_Name 0 HT.out).mono ?_
          rintro e w' ⟨rfl, rfl⟩
          go_wp2_with fail
          go_loop [17, 18] (fun v i => ∃ k : Nat, k ≤ L.length ∧ i = .int .i64 k ∧ v = .bool (inB s (L.take k))) (fun _ i => L.length - (intOf i).toNat)
          case atStart => exact ⟨0, Nat.zero_le _, rfl, rfl⟩
          case round =>
            obtain ⟨k, hk, rfl, rfl⟩ := hrel
            rcases Nat.lt_or_ge k L.length with hlt | hge
            · obtain ⟨x, hx⟩ := get_lt hlt
              obtain ⟨b', off, rfl, hb', hc⟩ := HA1.out k x hx
              have HX := Lib.hid (take_snoc_of hx)
              clear hx
              cases hin : inB s (L.take k) with
              | true =>
                have HI : Hid (inB s (L.take (k + 1)) = true) := by rw [HX.out, inB_snoc, hin]; rfl
                clear hin
                go_wp2_with fail
                go_round
                case rel => exact ⟨k + 1, by omega, by go_num, by rw [HI.out]⟩
                case measure => simp [intOf]; omega
              | false =>
                by_cases e : x = s
                · have HI : Hid (inB s (L.take (k + 1)) = true) := by rw [HX.out, inB_snoc, hin, decide_eq_true e]; rfl
                  have he := beq_yes e
                  clear hin e
                  go_wp2_with fail
                  go_round
                  case rel => exact ⟨k + 1, by omega, by go_num, by rw [HI.out]⟩
                  case measure => simp [intOf]; omega
                · have HI : Hid (inB s (L.take (k + 1)) = false) := by rw [HX.out, inB_snoc, hin, decide_eq_false e]; rfl
                  have he := beq_no e
                  clear hin e
                  go_wp2_with fail
                  go_round
                  case rel => exact ⟨k + 1, by omega, by go_num, by rw [HI.out]⟩
                  case measure => simp [intOf]; omega
            · obtain rfl : k = L.length := by omega
              rw [List.take_length, show inB s L = false from HIN.out]
              go_wp2_with fail
              refine (is_awake w1).mono ?_
              rintro e w' ⟨rfl, hb⟩
              have HB := Lib.hid hb
              clear hb
              go_wp2_with fail
              go_ret
              exact ⟨rfl, bstep HB1.out HB.out⟩
      · have HNM := ident_Name i HT.out
        rw [(nam_out (L := L) (i := i) (by omega)).1, (nam_out (L := L) (i := i) (by omega)).2] at HNM
        have HNN := Lib.hid HNM
        have d1 : 0 ≤ i := by omega
        have d2 : decide (i < (L.length : Int)) = false := decide_eq_false (by omega)
        clear HNM
        refine HNN.out.mono ?_
        rintro e w' ⟨rfl, rfl⟩
        go_wp2_with fail
        refine (ident_Len HT.out).mono ?_
        rintro e w' ⟨rfl, rfl⟩
        go_wp2_with fail
        refine (ident_Find HT.out hsz0).mono ?_
        rintro e w' ⟨rfl, rfl⟩
        go_wp2_with fail
        cases hp : pos s L with
        | some j =>
          have HIN : Hid (inB s L = true) := by show (pos s L).isSome = true; rw [hp]; rfl
          have HF := ident_Find HT.out HS.out
          rw [(fnd_some hp).1, (fnd_some hp).2] at HF
          have HM := ident_Name (j : Int) HT.out
          rw [(nam_at (pos_some hp).1).1, (nam_at (pos_some hp).1).2] at HM
          have HFF := Lib.hid HF
          have HMM := Lib.hid HM
          clear hp HF HM
          refine HFF.out.mono ?_
          rintro e w' ⟨rfl, rfl⟩
          go_wp2_with fail
          refine HMM.out.mono ?_
          rintro e w' ⟨rfl, rfl⟩
          go_wp2_with fail
          go_loop [17, 18] (fun v i => ∃ k : Nat, k ≤ L.length ∧ i = .int .i64 k ∧ v = .bool (inB s (L.take k))) (fun _ i => L.length - (intOf i).toNat)
          case atStart => exact ⟨0, Nat.zero_le _, rfl, rfl⟩
          case round =>
            obtain ⟨k, hk, rfl, rfl⟩ := hrel
            rcases Nat.lt_or_ge k L.length with hlt | hge
            · obtain ⟨x, hx⟩ := get_lt hlt
              obtain ⟨b', off, rfl, hb', hc⟩ := HA1.out k x hx
              have HX := Lib.hid (take_snoc_of hx)
              clear hx
              cases hin : inB s (L.take k) with
              | true =>
                have HI : Hid (inB s (L.take (k + 1)) = true) := by rw [HX.out, inB_snoc, hin]; rfl
                clear hin
                go_wp2_with fail
                go_round
                case rel => exact ⟨k + 1, by omega, by go_num, by rw [HI.out]⟩
                case measure => simp [intOf]; omega
              | false =>
                by_cases e : x = s
                · have HI : Hid (inB s (L.take (k + 1)) = true) := by rw [HX.out, inB_snoc, hin, decide_eq_true e]; rfl
                  have he := beq_yes e
                  clear hin e
                  go_wp2_with fail
                  go_round
                  case rel => exact ⟨k + 1, by omega, by go_num, by rw [HI.out]⟩
                  case measure => simp [intOf]; omega
                · have HI : Hid (inB s (L.take (k + 1)) = false) := by rw [HX.out, inB_snoc, hin, decide_eq_false e]; rfl
                  have he := beq_no e
                  clear hin e
                  go_wp2_with fail
                  go_round
                  case rel => exact ⟨k + 1, by omega, by go_num, by rw [HI.out]⟩
                  case measure => simp [intOf]; omega
            · obtain rfl : k = L.length := by omega
              rw [List.take_length, show inB s L = true from HIN.out]
              go_wp2_with fail
              refine (is_awake w1).mono ?_
              rintro e w' ⟨rfl, hb⟩
              have HB := Lib.hid hb
              clear hb
              go_wp2_with fail
              go_ret
              exact ⟨rfl, bstep HB1.out HB.out⟩
        | none =>
          have HIN : Hid (inB s L = false) := by show (pos s L).isSome = false; rw [hp]; rfl
          have HF := ident_Find HT.out HS.out
          rw [(fnd_none hp).1, (fnd_none hp).2] at HF
          have HFF := Lib.hid HF
          clear hp HF
          refine HFF.out.mono ?_
          rintro e w' ⟨rfl, rfl⟩
          go_wp2_with fail
          refine (ident_Name 0 HT.out).mono ?_
          rintro e w' ⟨rfl, rfl⟩
          go_wp2_with fail
          go_loop [17, 18] (fun v i => ∃ k : Nat, k ≤ L.length ∧ i = .int .i64 k ∧ v = .bool (inB s (L.take k))) (fun _ i => L.length - (intOf i).toNat)
          case atStart => exact ⟨0, Nat.zero_le _, rfl, rfl⟩
          case round =>
            obtain ⟨k, hk, rfl, rfl⟩ := hrel
            rcases Nat.lt_or_ge k L.length with hlt | hge
            · obtain ⟨x, hx⟩ := get_lt hlt
              obtain ⟨b', off, rfl, hb', hc⟩ := HA1.out k x hx
              have HX := Lib.hid (take_snoc_of hx)
              clear hx
              cases hin : inB s (L.take k) with
              | true =>
                have HI : Hid (inB s (L.take (k + 1)) = true) := by rw [HX.out, inB_snoc, hin]; rfl
                clear hin
                go_wp2_with fail
                go_round
                case rel => exact ⟨k + 1, by omega, by go_num, by rw [HI.out]⟩
                case measure => simp [intOf]; omega
              | false =>
                by_cases e : x = s
                · have HI : Hid (inB s (L.take (k + 1)) = true) := by rw [HX.out, inB_snoc, hin, decide_eq_true e]; rfl
                  have he := beq_yes e
                  clear hin e
                  go_wp2_with fail
                  go_round
                  case rel => exact ⟨k + 1, by omega, by go_num, by rw [HI.out]⟩
                  case measure => simp [intOf]; omega
                · have HI : Hid (inB s (L.take (k + 1)) = false) := by rw [HX.out, inB_snoc, hin, decide_eq_false e]; rfl
                  have he := beq_no e
                  clear hin e
                  go_wp2_with fail
                  go_round
                  case rel => exact ⟨k + 1, by omega, by go_num, by rw [HI.out]⟩
                  case measure => simp [intOf]; omega
            · obtain rfl : k = L.length := by omega
              rw [List.take_length, show inB s L = false from HIN.out]
              go_wp2_with fail
              refine (is_awake w1).mono ?_
              rintro e w' ⟨rfl, hb⟩
              have HB := Lib.hid hb
              clear hb
              go_wp2_with fail
              go_ret
              exact ⟨rfl, bstep HB1.out HB.out⟩
    · have HB1 := Lib.hid hb1
      have h0' : (newE L != 0) = true := by simpa using h0
      clear hb1
      go_wp2_with fail
      refine (is_awake w1).mono ?_
      rintro e w' ⟨rfl, hb⟩
      have HB := Lib.hid hb
      clear hb
      go_wp2_with fail
      go_ret
      exact ⟨rfl, bstep HB1.out HB.out⟩
#print axioms walk_IdentValids
end Go.Proofs.Ytbmedekfhifcpaa.Ident
