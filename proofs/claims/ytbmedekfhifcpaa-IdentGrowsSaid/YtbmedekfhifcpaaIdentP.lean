/- Walk of IdentBytes. -/
import Derived.Test.YtbmedekfhifcpaaIdentO
import Derived.Deep.CutRange
import Derived.Deep.RegionWith
import Derived.Deep.RegionHeldLaw
namespace Go.Proofs.Ytbmedekfhifcpaa.Ident
open Go.ChangeShapes Go.WideShapes Go.RowKit Go.Lib
set_option linter.unusedVariables false
set_option maxRecDepth 100000

theorem ext_list (s : ByteArray) (i j : Nat) : (s.extract i j).data.toList = (s.data.toList.drop i).take (j - i) := by
  rw [ByteArray.data_extract, Array.toList_extract]
/-- One byte replaced. -/
theorem okB_put {l : List UInt8} (h : okB l = true) {i : Nat} (hi : i < l.length) (x : UInt8) : okB (l.take i ++ x :: l.drop (i + 1)) = if i = 0 then letN (byt x) else perB x := by
  obtain ⟨b, r, rfl, h1, h2, h3⟩ := okB_open h
  simp only [List.all_cons, Bool.and_eq_true] at h2
  cases i with
  | zero =>
    simp only [List.take_zero, List.nil_append, Nat.zero_add, List.drop_one, List.tail_cons, if_true]
    cases hx : letN (byt x) with
    | false => exact okB_first (l := x :: r) rfl hx
    | true => exact okB_yes (l := x :: r) rfl hx (by simp only [List.all_cons, Bool.and_eq_true]; exact ⟨letN_per hx, h2.2⟩) (by simpa using h3)
  | succ i =>
    rw [if_neg (by omega)]
    have hlen : ((b :: r).take (i + 1) ++ x :: (b :: r).drop (i + 1 + 1)).length = (b :: r).length := by simp at hi ⊢; omega
    have h0 : ((b :: r).take (i + 1) ++ x :: (b :: r).drop (i + 1 + 1))[0]? = some b := by simp
    cases hx : perB x with
    | false => exact okB_at (k := i + 1) (b := x) (by rw [List.getElem?_append_right (by simp; omega)]; simp at hi ⊢; rw [Nat.min_eq_left (by omega)]; simp) hx
    | true =>
      refine okB_yes h0 h1 ?_ (by rw [hlen]; exact h3)
      rw [List.all_eq_true]
      intro y hy
      rcases List.mem_append.mp hy with hy | hy
      · have := List.mem_of_mem_take hy
        rcases List.mem_cons.mp this with rfl | h'
        · exact h2.1
        · exact List.all_eq_true.mp h2.2 y h'
      · rcases List.mem_cons.mp hy with rfl | hy
        · exact hx
        · have := List.mem_of_mem_drop hy
          rcases List.mem_cons.mp this with rfl | h'
          · exact h2.1
          · exact List.all_eq_true.mp h2.2 y h'
theorem okB_take {l : List UInt8} (h : okB l = true) {i : Nat} (h0 : 0 < i) : okB (l.take i) = true := by
  obtain ⟨b, r, rfl, h1, h2, h3⟩ := okB_open h
  obtain ⟨j, rfl⟩ : ∃ j, i = j + 1 := ⟨i - 1, by omega⟩
  refine okB_yes (b := b) (by simp) h1 (List.all_eq_true.mpr fun y hy => List.all_eq_true.mp h2 y (List.mem_of_mem_take hy)) (by simp at h3 ⊢; omega)
theorem okB_app {l m : List UInt8} (h : okB l = true) (h' : okB m = true) : okB (l ++ m) = decide (l.length + m.length ≤ 32) := by
  obtain ⟨b, r, rfl, h1, h2, h3⟩ := okB_open h
  obtain ⟨b', r', rfl, h1', h2', h3'⟩ := okB_open h'
  by_cases hl : (b :: r).length + (b' :: r').length ≤ 32
  · rw [decide_eq_true hl]
    exact okB_yes (b := b) (by simp) h1 (by rw [List.all_append, h2, h2']; rfl) (by rw [List.length_append]; exact hl)
  · rw [decide_eq_false hl]
    exact okB_long (by rw [List.length_append]; omega)
theorem one_conv (w : World) (x : UInt8) {i : Int} (hx : i = (x.toNat : Int)) {g : Nat} (hg : w.heap.size = g) :
    (convert 25 9 (.slice (some ⟨g, 0, none⟩) 1 1)).run Try.prog (w.alloc (.cells #[.int .u8 i] 5)) = .ok (.string ⟨#[x]⟩) (w.alloc (.cells #[.int .u8 i] 5)) := by
  subst hx hg
  exact run_convert_bytes_back (P := Try.prog) (w.alloc (.cells #[.int .u8 (x.toNat : Int)] 5)) 25 9 5 ⟨w.heap.size, 0, none⟩ 1 [x]
    Try.underlying25 Try.underlying5 Try.underlying9 (fun j hj => by
      match j, hj with
      | 0, hj => rw [Addr.add_lit]; simp)
theorem cat_is (a b : ByteArray) (h : a.size + b.size ≤ 9223372036854775807) (W : World) : (Op.stringOp .add a b).run Try.prog W = .ok (.string (a ++ b)) W := run_string_add_sum (P := Try.prog) W a b h
theorem app_list (a b : ByteArray) : (a ++ b).data.toList = a.data.toList ++ b.data.toList := by
  rw [ByteArray.data_append, Array.toList_append]
theorem one_conv_at (W : World) (x : UInt8) {i : Int} (hx : i = (x.toNat : Int)) {g : Nat} (hc : W.cell? ⟨g, 0, none⟩ = some (.int .u8 i)) :
    (convert 25 9 (.slice (some ⟨g, 0, none⟩) 1 1)).run Try.prog W = .ok (.string ⟨#[x]⟩) W := by
  subst hx
  exact run_convert_bytes_back (P := Try.prog) W 25 9 5 ⟨g, 0, none⟩ 1 [x]
    Try.underlying25 Try.underlying5 Try.underlying9 (fun j hj => by
      match j, hj with
      | 0, hj => rw [Addr.add_lit, Nat.zero_add]; exact hc)
theorem wrap_id {x : Int} (h1 : -9223372036854775808 ≤ x) (h2 : x ≤ 9223372036854775807) : IntKind.i64.wrap x = x := by rw [IntKind.wrap_i64]; omega
/-- What the law says of the byte. -/
def mayB (i : Nat) (c : Int) : Bool := if i = 0 then letN c else perN c

set_option maxHeartbeats 6400000 in
theorem walk_IdentBytes (w : World) (s t : ByteArray) (hs : s.size ≤ maxLen) (ht : t.size ≤ maxLen) (at_ cc : Int) (a0 : 0 ≤ at_) (a1 : at_ < 256) (c0 : 0 ≤ cc) (c1 : cc < 256) :
    Calls Try.prog 9 #[.string s, .string t, .agg #[.int .u8 at_, .int .u8 cc]] w fun e w' => e = .returned (.bool true) ∧ Below w.heap.size w w' := by
  obtain ⟨wB, hwB⟩ : ∃ wB, wB = w.alloc (.cells #[.int .u8 at_, .int .u8 cc] 57) := ⟨_, rfl⟩
  have hbB : Below w.heap.size w wB := by rw [hwB]; exact below_alloc _ _
  have k0 : wB.cell? ⟨w.heap.size, 0, none⟩ = some (.int .u8 at_) := by rw [hwB, cell_of_row _ _ _ _ _ _ (heap_alloc_new w _)]; rfl
  have k1 : wB.cell? ⟨w.heap.size, 1, none⟩ = some (.int .u8 cc) := by rw [hwB, cell_of_row _ _ _ _ _ _ (heap_alloc_new w _)]; rfl
  have hss := max_small hs
  have hts := max_small ht
  have HWB := Lib.hid hwB
  have HBB := Lib.hid hbB
  have K0 := Lib.hid k0
  have K1 := Lib.hid k1
  clear hbB k0 k1 hwB
  cases hv : validB s with
  | false =>
    have HC := Lib.hid (valid_is hv hss wB)
    have HC2 := Lib.hid (valid_is (s := ⟨#[97]⟩) (b := true) (by decide +kernel) (by decide +kernel) wB)
    clear hv
    go_enter Try.func9, Try.ntmps9
    go_wp2_with fail
    rw [← HWB.out]
    refine HC.out.mono ?_
    rintro e w' ⟨rfl, rfl⟩
    go_wp2_with fail
    refine HC2.out.mono ?_
    rintro e w' ⟨rfl, rfl⟩
    go_wp2_with fail
    refine (is_awake _).mono ?_
    rintro e w' ⟨rfl, hb⟩
    have HB := Lib.hid hb
    clear hb
    go_wp2_with fail
    go_ret
    exact ⟨rfl, bstep HBB.out HB.out⟩
  | true =>
    have HC := Lib.hid (valid_is hv hss wB)
    have HVS := Lib.hid hv
    have hsz := validB_size hv
    obtain ⟨i, hi⟩ : ∃ i : Nat, (i : Int) = at_ % (s.size : Int) := ⟨(at_ % (s.size : Int)).toNat, by have := Int.emod_nonneg at_ (show (s.size : Int) ≠ 0 by omega); omega⟩
    have hil : i < s.size := by have := Int.emod_lt_of_pos at_ (show (0 : Int) < (s.size : Int) by omega); omega
    have er : at_ % (s.size : Int) = (i : Int) := hi.symm
    have z1 : ¬ (s.size : Int) = 0 := by omega
    have z2 : ((s.size : Int) == 0) = false := by simpa using z1
    have k0 := K0.out
    have k1 := K1.out
    have ib : (i : Int) < 32 := by omega
    clear hv hi
    go_enter Try.func9, Try.ntmps9
    go_wp2_with fail
    rw [← HWB.out]
    refine HC.out.mono ?_
    rintro e w' ⟨rfl, rfl⟩
    go_upto_region 5 with fail
    go_cut [8, 9] from 11 to 111 (fun u v wc => u = .int .i64 (i : Int) ∧ v = .bool (letN cc) ∧ wB = wc)
    case first =>
      go_wp2_with fail
      all_goals
        go_meet
        case rel =>
          refine ⟨rfl, congrArg Value.bool ?_, rfl⟩
          rw [Bool.eq_iff_iff, letN_iff]
          simp
          omega
    case rest =>
      obtain ⟨rfl, rfl, rfl⟩ := hcut
      go_upto_region 6 with fail
      go_cut [8, 9, 10] from 11 to 111 (fun u _ v wc => u = .int .i64 (i : Int) ∧ v = .bool (mayB i cc) ∧ wB = wc)
      case first =>
        rcases Nat.eq_zero_or_pos i with h0 | h0
        · have HM : Hid (mayB i cc = letN cc) := by unfold mayB; rw [h0]; exact if_pos rfl
          have hi0 : (i : Int) = 0 := by omega
          clear h0
          cases hlt : letN cc with
          | true =>
            rw [hlt] at HM
            clear hlt
            go_wp2_with fail
            go_meet
            case rel => exact ⟨by first | rfl | rw [hi0], by rw [HM.out], rfl⟩
          | false =>
            rw [hlt] at HM
            clear hlt
            go_wp2_with fail
            go_meet
            case rel => exact ⟨by first | rfl | rw [hi0], by rw [HM.out], rfl⟩
        · have HM : Hid (mayB i cc = perN cc) := by unfold mayB; exact if_neg (by omega)
          have hi0 : (0 : Int) < (i : Int) := by omega
          clear h0
          cases hlt : letN cc with
          | true =>
            have HP := Lib.hid (HM.out.trans (letN_per hlt))
            clear hlt
            go_wp2_with fail
            go_meet
            case rel => exact ⟨rfl, by rw [HP.out], rfl⟩
          | false =>
            have HP := Lib.hid (no_let hlt)
            clear hlt
            by_cases e1 : cc = 45
            · subst e1
              go_wp2_with fail
              all_goals
                go_meet
                case rel =>
                  refine ⟨rfl, congrArg Value.bool ?_, rfl⟩
                  have hp := HP.out
                  rw [HM.out, Bool.eq_iff_iff, perN_iff]
                  simp
                  try omega
            · by_cases e2 : cc = 95
              · subst e2
                go_wp2_with fail
                all_goals
                  go_meet
                  case rel =>
                    refine ⟨rfl, congrArg Value.bool ?_, rfl⟩
                    have hp := HP.out
                    rw [HM.out, Bool.eq_iff_iff, perN_iff]
                    simp
                    try omega
              · by_cases e3 : cc = 46
                · subst e3
                  go_wp2_with fail
                  all_goals
                    go_meet
                    case rel =>
                      refine ⟨rfl, congrArg Value.bool ?_, rfl⟩
                      have hp := HP.out
                      rw [HM.out, Bool.eq_iff_iff, perN_iff]
                      simp
                      try omega
                · have d1 : (cc == 45) = false := by simpa using e1
                  have d2 : (cc == 95) = false := by simpa using e2
                  have d3 : (cc == 46) = false := by simpa using e3
                  have HE : Hid (¬ cc = 45 ∧ ¬ cc = 95 ∧ ¬ cc = 46) := ⟨e1, e2, e3⟩
                  clear e1 e2 e3
                  go_wp2_with fail
                  all_goals
                    go_meet
                    case rel =>
                      refine ⟨rfl, congrArg Value.bool ?_, rfl⟩
                      have hp := HP.out
                      have he := HE.out
                      rw [HM.out, Bool.eq_iff_iff, perN_iff]
                      simp
                      try omega
      case rest =>
        obtain ⟨rfl, rfl, rfl⟩ := hcut
        obtain ⟨x, hx⟩ : ∃ x : UInt8, cc = (x.toNat : Int) := by
          obtain ⟨x, hx⟩ := byte_of (n := cc.toNat) (by omega)
          exact ⟨x, by omega⟩
        obtain ⟨one, hone⟩ : ∃ one : ByteArray, one = ⟨#[x]⟩ := ⟨_, rfl⟩
        obtain ⟨p, hp⟩ : ∃ p, p = s.extract 0 i := ⟨_, rfl⟩
        obtain ⟨q, hq⟩ : ∃ q, q = s.extract (i + 1) s.size := ⟨_, rfl⟩
        obtain ⟨m1, hm1⟩ : ∃ m1, m1 = p ++ one := ⟨_, rfl⟩
        obtain ⟨m2, hm2⟩ : ∃ m2, m2 = m1 ++ q := ⟨_, rfl⟩
        have pl : p.data.toList = s.data.toList.take i := by rw [hp, ext_list]; simp
        have ql : q.data.toList = s.data.toList.drop (i + 1) := by rw [hq, ext_list, List.take_of_length_le (by rw [List.length_drop, str_len]; omega)]
        have sp : p.size = i := by rw [← str_len, pl, List.length_take, str_len]; omega
        have sq : q.size = s.size - (i + 1) := by rw [← str_len, ql, List.length_drop, str_len]
        have so : one.size = 1 := by rw [hone]; rfl
        have sm : m1.size = i + 1 := by rw [hm1, ByteArray.size_append]; omega
        have ml : m2.data.toList = s.data.toList.take i ++ x :: s.data.toList.drop (i + 1) := by rw [hm2, hm1, app_list, app_list, pl, ql, hone]; simp
        have sm2 : m2.size ≤ 9223372036854775807 := by rw [hm2, ByteArray.size_append]; omega
        have P1 : ∀ W : World, (Instr.slice 9 (.string s) none (some (.int .i64 (i : Int))) none).run Try.prog W = .ok (.string p) W := fun W => by
          rw [run_slice_string_h W 9 s Try.underlying9 .i64 (i : Int) (by omega) (by omega), hp]; rfl
        have P2 : ∀ W : World, (Instr.slice 9 (.string s) (some (.int .i64 ((i : Int) + 1))) none none).run Try.prog W = .ok (.string q) W := fun W => by
          rw [run_slice_string_l W 9 s Try.underlying9 .i64 ((i : Int) + 1) (by omega) (by omega), hq]; rfl
        have C1 : ∀ W : World, (Op.stringOp .add p one).run Try.prog W = .ok (.string m1) W := fun W => by rw [hm1]; exact cat_is p one (by omega) W
        have C2 : ∀ W : World, (Op.stringOp .add m1 q).run Try.prog W = .ok (.string m2) W := fun W => by rw [hm2]; exact cat_is m1 q (by omega) W
        have V1 : Hid (∀ W : World, Calls Try.prog 10 #[.string m2] W fun e w' => e = .returned (.bool (mayB i cc)) ∧ W = w') := fun W => valid_is (by
          show okB m2.data.toList = _
          rw [ml, okB_put HVS.out (by rw [str_len]; exact hil) x]
          unfold mayB perB byt
          rw [← hx]) sm2 W
        have V2 : Hid (0 < i → ∀ W : World, Calls Try.prog 10 #[.string p] W fun e w' => e = .returned (.bool true) ∧ W = w') := fun h0 W => valid_is (by
          show okB p.data.toList = true
          rw [pl]; exact okB_take HVS.out h0) (by omega) W
        have CV : Hid (∀ W : World, W.cell? ⟨wB.heap.size, 0, none⟩ = some (.int .u8 cc) → (convert 25 9 (.slice (some ⟨wB.heap.size, 0, none⟩) 1 1)).run Try.prog W = .ok (.string one) W) := fun W hW => by
          rw [hone]; exact one_conv_at W x hx hW
        have cv := CV.out
        have wq : IntKind.i64.wrap ((i : Int) + 1) = (i : Int) + 1 := wrap_id (by omega) (by omega)
        have HQ := Lib.hid hq
        have HPP := Lib.hid hp
        clear hx hone hp hq hm1 hm2 pl ql sp sq so sm ml sm2
        cases hmay : mayB i cc with
        | false =>
          rw [hmay] at V1
          clear hmay
          go_upto_region 7 with fail
          go_cut [8, 90] from 11 to 111 (fun _ v wc => v = .bool false ∧ Below wB.heap.size wB wc)
          case first =>
            rcases Nat.eq_zero_or_pos i with h0 | h0
            · have hi0 : (i : Int) = 0 := by omega
              have P1' : ∀ W : World, (Instr.slice 9 (.string s) none (some (.int .i64 0)) none).run Try.prog W = .ok (.string p) W := fun W => by rw [← hi0]; exact P1 W
              have P2' : ∀ W : World, (Instr.slice 9 (.string s) (some (.int .i64 1)) none none).run Try.prog W = .ok (.string q) W := fun W => by
                have := P2 W; rw [hi0] at this; exact this
              have b1 : (1 : Int) ≤ (s.size : Int) := by omega
              have q' : s.extract 1 s.size = q := by rw [HQ.out, h0]
              have p' : s.extract 0 0 = p := by rw [HPP.out, h0]
              have wq0 : IntKind.i64.wrap ((0 : Int) + 1) = 1 := rfl
              have wq1 : IntKind.i64.wrap (1 : Int) = 1 := rfl
              clear h0 wq ib P1 P2
              first | (go_region_held_law (fun W' => True) (trivial) ((go_at_call 10; (with_reducible refine (V1.out _).mono ?_); rintro e w2 ⟨rfl, rfl⟩))) | fail
              all_goals
                rename_i hheld
                clear hheld
                go_wp2_with fail
                go_meet
                case rel => exact ⟨rfl, (below_alloc _ _).drew⟩
            · have i0 : (0 : Int) < (i : Int) := by omega
              have V2' := Lib.hid (V2.out h0)
              clear h0
              first | (go_region_held_law (fun W' => True) (trivial) (first | (go_at_call 10; (with_reducible refine (V1.out _).mono ?_); rintro e w2 ⟨rfl, rfl⟩) | (go_at_call 10; (with_reducible refine (V2'.out _).mono ?_); rintro e w2 ⟨rfl, rfl⟩))) | fail
              all_goals
                rename_i hheld
                clear hheld
                go_wp2_with fail
                go_meet
                case rel => exact ⟨rfl, (below_alloc _ _).drew⟩
          case rest =>
            obtain ⟨rfl, hbel⟩ := hcut
            have HB7 := Lib.hid hbel
            have hsn : (s.size : Int) ≤ 32 := by omega
            clear hbel P1 P2 C1 C2 cv
            cases hvt : validB t with
            | false =>
              have HT := Lib.hid (valid_is hvt hts wc)
              clear hvt
              go_wp2_with fail
              refine HT.out.mono ?_
              rintro e w' ⟨rfl, rfl⟩
              go_wp2_with fail
              refine (is_awake _).mono ?_
              rintro e w' ⟨rfl, hb⟩
              have HB := Lib.hid hb
              clear hb
              go_wp2_with fail
              go_ret
              exact ⟨rfl, bstep HBB.out (bstep HB7.out HB.out)⟩
            | true =>
              have HT := Lib.hid (valid_is hvt hts wc)
              have htz := (validB_size hvt).2
              obtain ⟨st, hst⟩ : ∃ st, st = s ++ t := ⟨_, rfl⟩
              have CT : ∀ W : World, (Op.stringOp .add s t).run Try.prog W = .ok (.string st) W := fun W => by rw [hst]; exact cat_is s t (by omega) W
              have hvst : validB st = decide (s.size + t.size ≤ 32) := by
                show okB st.data.toList = _
                rw [hst, app_list, okB_app HVS.out hvt, str_len, str_len]
              have hsts : st.size ≤ 9223372036854775807 := by rw [hst, ByteArray.size_append]; omega
              have wqs : IntKind.i64.wrap ((s.size : Int) + (t.size : Int)) = (s.size : Int) + (t.size : Int) := wrap_id (by omega) (by omega)
              by_cases hle : s.size + t.size ≤ 32
              · rw [decide_eq_true hle] at hvst
                have HV3 := Lib.hid (valid_is hvst hsts wc)
                have d3 : (s.size : Int) + (t.size : Int) ≤ 32 := by omega
                clear hvt hst hvst hle
                go_wp2_with fail
                refine HT.out.mono ?_
                rintro e w' ⟨rfl, rfl⟩
                go_wp2_with fail
                refine HV3.out.mono ?_
                rintro e w' ⟨rfl, rfl⟩
                go_wp2_with fail
                refine (is_awake _).mono ?_
                rintro e w' ⟨rfl, hb⟩
                have HB := Lib.hid hb
                clear hb
                go_wp2_with fail
                go_ret
                exact ⟨rfl, bstep HBB.out (bstep HB7.out HB.out)⟩
              · rw [decide_eq_false hle] at hvst
                have HV3 := Lib.hid (valid_is hvst hsts wc)
                have d3 : decide ((s.size : Int) + (t.size : Int) ≤ 32) = false := decide_eq_false (by omega)
                clear hvt hst hvst hle
                go_wp2_with fail
                refine HT.out.mono ?_
                rintro e w' ⟨rfl, rfl⟩
                go_wp2_with fail
                refine HV3.out.mono ?_
                rintro e w' ⟨rfl, rfl⟩
                go_wp2_with fail
                refine (is_awake _).mono ?_
                rintro e w' ⟨rfl, hb⟩
                have HB := Lib.hid hb
                clear hb
                go_wp2_with fail
                go_ret
                exact ⟨rfl, bstep HBB.out (bstep HB7.out HB.out)⟩
        | true =>
          rw [hmay] at V1
          clear hmay
          go_upto_region 7 with fail
          go_cut [8, 90] from 11 to 111 (fun _ v wc => v = .bool false ∧ Below wB.heap.size wB wc)
          case first =>
            rcases Nat.eq_zero_or_pos i with h0 | h0
            · have hi0 : (i : Int) = 0 := by omega
              have P1' : ∀ W : World, (Instr.slice 9 (.string s) none (some (.int .i64 0)) none).run Try.prog W = .ok (.string p) W := fun W => by rw [← hi0]; exact P1 W
              have P2' : ∀ W : World, (Instr.slice 9 (.string s) (some (.int .i64 1)) none none).run Try.prog W = .ok (.string q) W := fun W => by
                have := P2 W; rw [hi0] at this; exact this
              have b1 : (1 : Int) ≤ (s.size : Int) := by omega
              have q' : s.extract 1 s.size = q := by rw [HQ.out, h0]
              have p' : s.extract 0 0 = p := by rw [HPP.out, h0]
              have wq0 : IntKind.i64.wrap ((0 : Int) + 1) = 1 := rfl
              have wq1 : IntKind.i64.wrap (1 : Int) = 1 := rfl
              clear h0 wq ib P1 P2
              first | (go_region_held_law (fun W' => True) (trivial) ((go_at_call 10; (with_reducible refine (V1.out _).mono ?_); rintro e w2 ⟨rfl, rfl⟩))) | fail
              all_goals
                rename_i hheld
                clear hheld
                go_wp2_with fail
                go_meet
                case rel => exact ⟨rfl, (below_alloc _ _).drew⟩
            · have i0 : (0 : Int) < (i : Int) := by omega
              have V2' := Lib.hid (V2.out h0)
              clear h0
              first | (go_region_held_law (fun W' => True) (trivial) (first | (go_at_call 10; (with_reducible refine (V1.out _).mono ?_); rintro e w2 ⟨rfl, rfl⟩) | (go_at_call 10; (with_reducible refine (V2'.out _).mono ?_); rintro e w2 ⟨rfl, rfl⟩))) | fail
              all_goals
                rename_i hheld
                clear hheld
                go_wp2_with fail
                go_meet
                case rel => exact ⟨rfl, (below_alloc _ _).drew⟩
          case rest =>
            obtain ⟨rfl, hbel⟩ := hcut
            have HB7 := Lib.hid hbel
            have hsn : (s.size : Int) ≤ 32 := by omega
            clear hbel P1 P2 C1 C2 cv
            cases hvt : validB t with
            | false =>
              have HT := Lib.hid (valid_is hvt hts wc)
              clear hvt
              go_wp2_with fail
              refine HT.out.mono ?_
              rintro e w' ⟨rfl, rfl⟩
              go_wp2_with fail
              refine (is_awake _).mono ?_
              rintro e w' ⟨rfl, hb⟩
              have HB := Lib.hid hb
              clear hb
              go_wp2_with fail
              go_ret
              exact ⟨rfl, bstep HBB.out (bstep HB7.out HB.out)⟩
            | true =>
              have HT := Lib.hid (valid_is hvt hts wc)
              have htz := (validB_size hvt).2
              obtain ⟨st, hst⟩ : ∃ st, st = s ++ t := ⟨_, rfl⟩
              have CT : ∀ W : World, (Op.stringOp .add s t).run Try.prog W = .ok (.string st) W := fun W => by rw [hst]; exact cat_is s t (by omega) W
              have hvst : validB st = decide (s.size + t.size ≤ 32) := by
                show okB st.data.toList = _
                rw [hst, app_list, okB_app HVS.out hvt, str_len, str_len]
              have hsts : st.size ≤ 9223372036854775807 := by rw [hst, ByteArray.size_append]; omega
              have wqs : IntKind.i64.wrap ((s.size : Int) + (t.size : Int)) = (s.size : Int) + (t.size : Int) := wrap_id (by omega) (by omega)
              by_cases hle : s.size + t.size ≤ 32
              · rw [decide_eq_true hle] at hvst
                have HV3 := Lib.hid (valid_is hvst hsts wc)
                have d3 : (s.size : Int) + (t.size : Int) ≤ 32 := by omega
                clear hvt hst hvst hle
                go_wp2_with fail
                refine HT.out.mono ?_
                rintro e w' ⟨rfl, rfl⟩
                go_wp2_with fail
                refine HV3.out.mono ?_
                rintro e w' ⟨rfl, rfl⟩
                go_wp2_with fail
                refine (is_awake _).mono ?_
                rintro e w' ⟨rfl, hb⟩
                have HB := Lib.hid hb
                clear hb
                go_wp2_with fail
                go_ret
                exact ⟨rfl, bstep HBB.out (bstep HB7.out HB.out)⟩
              · rw [decide_eq_false hle] at hvst
                have HV3 := Lib.hid (valid_is hvst hsts wc)
                have d3 : decide ((s.size : Int) + (t.size : Int) ≤ 32) = false := decide_eq_false (by omega)
                clear hvt hst hvst hle
                go_wp2_with fail
                refine HT.out.mono ?_
                rintro e w' ⟨rfl, rfl⟩
                go_wp2_with fail
                refine HV3.out.mono ?_
                rintro e w' ⟨rfl, rfl⟩
                go_wp2_with fail
                refine (is_awake _).mono ?_
                rintro e w' ⟨rfl, hb⟩
                have HB := Lib.hid hb
                clear hb
                go_wp2_with fail
                go_ret
                exact ⟨rfl, bstep HBB.out (bstep HB7.out HB.out)⟩
#print axioms walk_IdentBytes
end Go.Proofs.Ytbmedekfhifcpaa.Ident
