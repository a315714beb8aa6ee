/- Walk of IdentGrows. -/
import Derived.Test.YtbmedekfhifcpaaIdentK
namespace Go.Proofs.Ytbmedekfhifcpaa.Ident
open Go.ChangeShapes Go.WideShapes Go.RowKit Go.Lib
set_option linter.unusedVariables false
set_option maxRecDepth 100000

/-- The old names stay where they are. -/
theorem add_pre {L : List ByteArray} (s : ByteArray) {k : Nat} {x : ByteArray} (h : L[k]? = some x) : (addL L s)[k]? = some x := by
  unfold addL
  split
  · rw [List.getElem?_append_left (lt_get h)]; exact h
  · exact h
/-- A name that can't be added: the list is none of a table's. -/
theorem not_good {L : List ByteArray} {k : Nat} {s : ByteArray} (h : L[k]? = some s) (hk : k < 512) (he : addE (L.take k) s ≠ 0) : ¬ Good L := fun hg => by
  have hl := lt_get h
  have hv := hg.valid s (List.mem_of_getElem? h)
  cases hf : fndB s (L.take k) with
  | true => exact dup_of h hf hg.nodup
  | false => exact he (addE_ok hv hf (by rw [List.length_take]; omega))

set_option maxHeartbeats 6400000 in
theorem walk_IdentGrows (w : World) (A : Option Addr) (c : Nat) (L : List ByteArray) (ha : Strs w A L) (hz : Siz L) (hl : L.length ≤ 9223372036854775807) (last : ByteArray) (hs : last.size ≤ maxLen) :
    Calls Try.prog 8 #[.slice A L.length c, .string last] w fun e w' => e = .returned (.bool true) ∧ Below w.heap.size w w' := by
  have HN := Lib.hid (ident_New L A c w ha hz hl)
  have HA := Lib.hid ha
  have HZ := Lib.hid hz
  have HLS := Lib.hid hs
  clear ha hz hs
  by_cases h60 : 60 < L.length
  · have h60' : (60 : Int) < (L.length : Int) := by omega
    go_enter Try.func8, Try.ntmps8
    go_wp2_with fail
    refine (is_awake w).mono ?_
    rintro e w' ⟨rfl, hb⟩
    have HB := Lib.hid hb
    clear hb
    go_wp2_with fail
    go_ret
    exact ⟨rfl, HB.out⟩
  · have h60' : decide ((60 : Int) < (L.length : Int)) = false := decide_eq_false (by omega)
    have hl60 : L.length ≤ 60 := by omega
    clear h60
    go_enter Try.func8, Try.ntmps8
    go_wp2_with fail
    refine HN.out.mono ?_
    rintro e w1 ⟨hb1, h1⟩
    have HB1 := Lib.hid hb1
    have HU := Lib.hid (new_ok (L := []) (newE_zero.mpr Good.nil) (A := none) (c := 0) (w := w1) (Strs.nil _ _) (fun s hs => by simp at hs) (by simp))
    have loop : Hid (∀ wr, Below w1.heap.size w1 wr → Below w.heap.size w wr) := fun wr h => bstep hb1 h
    clear hb1
    rcases h1 with ⟨h0, b, S, rfl, ht, hS⟩ | ⟨h0, rfl⟩
    · have HT := Lib.hid ht
      have HSS := Lib.hid hS
      have HG := Lib.hid ht.good
      clear h0 ht hS
      go_wp2_with fail
      refine HU.out.mono ?_
      rintro e w2 ⟨hb2, bu, Su, rfl, hu, hSu⟩
      have HB2 := Lib.hid hb2
      have HU2 := Lib.hid hu
      have HSU := Lib.hid hSu
      clear hb2 hu hSu
      go_wp2_with fail
      go_loopw [9, 10] (fun v i wr => ∃ k : Nat, k ≤ L.length ∧ i = .int .i64 k ∧ v = .bool true ∧ (∃ Su, Tb wr bu Su (L.take k) ∧ (∀ x, Su x → w1.heap.size ≤ x)) ∧ Below w1.heap.size w1 wr) (fun _ i _ => L.length - (intOf i).toNat)
      case atStart => exact ⟨0, Nat.zero_le _, rfl, rfl, ⟨Su, HU2.out, HSU.out⟩, HB2.out⟩
      case round =>
        obtain ⟨k, hk, rfl, rfl, ⟨Su', hu, hSu⟩, hbr⟩ := hrel
        have HUR := Lib.hid hu
        have HSR := Lib.hid hSu
        have HBR := Lib.hid hbr
        clear hu hSu hbr
        rcases Nat.lt_or_ge k L.length with hlt | hge
        · obtain ⟨x, hx⟩ := get_lt hlt
          obtain ⟨b', off, rfl, hb', hc⟩ := HA.out.keep (Nat.le_trans HB1.out.size HBR.out.size) (fun b off e hb => ((loop.out _ HBR.out).block b hb)) k x hx
          have HADD := Lib.hid (ident_Add HUR.out (HZ.out x (List.mem_of_getElem? hx)))
          have he : addE (L.take k) x = 0 := by
            cases hq : decide (addE (L.take k) x = 0) with
            | true => exact of_decide_eq_true hq
            | false => exact absurd HG.out (not_good hx (by omega) (of_decide_eq_false hq))
          have hlk : (L.take k).length = k := by rw [List.length_take]; omega
          have hal := (add_yes he).2
          have hai := (add_yes he).1
          rw [hai, he, hal, ← take_snoc_of hx, hlk] at HADD
          clear he hlk hx hal hai
          go_wp2_with fail
          refine HADD.out.mono ?_
          rintro e w' ⟨rfl, hadd⟩
          have HAD := Lib.hid hadd
          clear hadd
          go_wp2_with fail
          go_roundw
          case rel =>
            obtain ⟨S', h1, h2, h3⟩ := HAD.out
            exact ⟨k + 1, by omega, by go_num, rfl, ⟨S', h1, fun y hy => by rcases h2 y hy with h | h; exact HSR.out y h; have := HBR.out.size; omega⟩, HBR.out.trans (h3.below HBR.out.size HSR.out)⟩
          case measure => simp [intOf]; omega
        · obtain rfl : k = L.length := by omega
          rw [List.take_length] at HUR
          have HTR := Lib.hid (HT.out.on HBR.out)
          have HADD := ident_Add HTR.out HLS.out
          have hll : ¬ L.length = 512 := by omega
          cases hv : validB last with
          | false =>
            have he : addE L last = 5 := addE_bad hv
            have hai := (add_no (L := L) (s := last) (by rw [he]; decide)).1
            rw [he, hai] at HADD
            have HAA := Lib.hid HADD
            have HE := Lib.hid he
            clear HADD he hai
            go_wp2_with fail
            refine HAA.out.mono ?_
            rintro e w3 ⟨rfl, S3, h1, h2, h3⟩
            have HT3 := Lib.hid h1
            have HU3 := Lib.hid (HUR.out.off h3 fun y hy hy' => by have := HSR.out y hy; have := HT.out.lt y hy'; omega)
            have HB3 : Hid (Below w.heap.size w w3) := (loop.out _ HBR.out).trans (h3.below (Nat.le_trans HB1.out.size HBR.out.size) HSS.out)
            have HA3 := Lib.hid (HA.out.on HB3.out)
            have HV := Lib.hid (valid_is hv (max_small HLS.out) w3)
            have HFU := ident_Find (s := last) HU3.out HLS.out
            have HFF := Lib.hid HFU
            clear h1 h2 h3 hv HFU
            go_wp2_with fail
            refine HFF.out.mono ?_
            rintro e w' ⟨rfl, rfl⟩
            go_wp2_with fail
            refine HV.out.mono ?_
            rintro e w' ⟨rfl, rfl⟩
            go_wp2_with fail
            go_loop [17] (fun i => ∃ k : Nat, k ≤ L.length ∧ i = .int .i64 k) (fun i => L.length - (intOf i).toNat)
            case atStart => exact ⟨0, Nat.zero_le _, rfl⟩
            case round =>
              obtain ⟨k, hk, rfl⟩ := hrel
              rcases Nat.lt_or_ge k L.length with hlt | hge
              · obtain ⟨x, hx⟩ := get_lt hlt
                obtain ⟨b', off, rfl, hb', hc⟩ := HA3.out k x hx
                have HF := ident_Find (s := x) HT3.out (HZ.out x (List.mem_of_getElem? hx))
                have hpx := pos_at HT3.out.good.nodup (add_pre last hx)
                rw [(fnd_some hpx).1, (fnd_some hpx).2] at HF
                have HFF := Lib.hid HF
                clear hx HF hpx
                go_wp2_with fail
                refine HFF.out.mono ?_
                rintro e w' ⟨rfl, rfl⟩
                go_wp2_with fail
                go_round
                case rel => exact ⟨k + 1, by omega, by go_num⟩
                case measure => simp [intOf]; omega
              · obtain rfl : k = L.length := by omega
                go_wp2_with fail
                refine (is_awake w3).mono ?_
                rintro e w' ⟨rfl, hb⟩
                have HB := Lib.hid hb
                clear hb
                go_wp2_with fail
                go_ret
                exact ⟨rfl, bstep HB3.out HB.out⟩
          | true =>
            cases hf : fndB last L with
            | true =>
              have he : addE L last = 6 := addE_twice hv hf
              have hai := (add_no (L := L) (s := last) (by rw [he]; decide)).1
              rw [he, hai] at HADD
              have HAA := Lib.hid HADD
              have HE := Lib.hid he
              clear HADD he hai
              go_wp2_with fail
              refine HAA.out.mono ?_
              rintro e w3 ⟨rfl, S3, h1, h2, h3⟩
              have HT3 := Lib.hid h1
              have HU3 := Lib.hid (HUR.out.off h3 fun y hy hy' => by have := HSR.out y hy; have := HT.out.lt y hy'; omega)
              have HB3 : Hid (Below w.heap.size w w3) := (loop.out _ HBR.out).trans (h3.below (Nat.le_trans HB1.out.size HBR.out.size) HSS.out)
              have HA3 := Lib.hid (HA.out.on HB3.out)
              have HV := Lib.hid (valid_is hv (max_small HLS.out) w3)
              have HFU := ident_Find (s := last) HU3.out HLS.out
              rw [hf] at HFU
              have HFF := Lib.hid HFU
              clear h1 h2 h3 hv hf HFU
              go_wp2_with fail
              refine HFF.out.mono ?_
              rintro e w' ⟨rfl, rfl⟩
              go_wp2_with fail
              refine HV.out.mono ?_
              rintro e w' ⟨rfl, rfl⟩
              go_wp2_with fail
              go_loop [17] (fun i => ∃ k : Nat, k ≤ L.length ∧ i = .int .i64 k) (fun i => L.length - (intOf i).toNat)
              case atStart => exact ⟨0, Nat.zero_le _, rfl⟩
              case round =>
                obtain ⟨k, hk, rfl⟩ := hrel
                rcases Nat.lt_or_ge k L.length with hlt | hge
                · obtain ⟨x, hx⟩ := get_lt hlt
                  obtain ⟨b', off, rfl, hb', hc⟩ := HA3.out k x hx
                  have HF := ident_Find (s := x) HT3.out (HZ.out x (List.mem_of_getElem? hx))
                  have hpx := pos_at HT3.out.good.nodup (add_pre last hx)
                  rw [(fnd_some hpx).1, (fnd_some hpx).2] at HF
                  have HFF := Lib.hid HF
                  clear hx HF hpx
                  go_wp2_with fail
                  refine HFF.out.mono ?_
                  rintro e w' ⟨rfl, rfl⟩
                  go_wp2_with fail
                  go_round
                  case rel => exact ⟨k + 1, by omega, by go_num⟩
                  case measure => simp [intOf]; omega
                · obtain rfl : k = L.length := by omega
                  go_wp2_with fail
                  refine (is_awake w3).mono ?_
                  rintro e w' ⟨rfl, hb⟩
                  have HB := Lib.hid hb
                  clear hb
                  go_wp2_with fail
                  go_ret
                  exact ⟨rfl, bstep HB3.out HB.out⟩
            | false =>
              have he : addE L last = 0 := addE_ok hv hf hll
              have hai := (add_yes he).1
              rw [he, hai] at HADD
              have HAA := Lib.hid HADD
              have HE := Lib.hid he
              clear HADD he hai
              go_wp2_with fail
              refine HAA.out.mono ?_
              rintro e w3 ⟨rfl, S3, h1, h2, h3⟩
              have HT3 := Lib.hid h1
              have HU3 := Lib.hid (HUR.out.off h3 fun y hy hy' => by have := HSR.out y hy; have := HT.out.lt y hy'; omega)
              have HB3 : Hid (Below w.heap.size w w3) := (loop.out _ HBR.out).trans (h3.below (Nat.le_trans HB1.out.size HBR.out.size) HSS.out)
              have HA3 := Lib.hid (HA.out.on HB3.out)
              have HV := Lib.hid (valid_is hv (max_small HLS.out) w3)
              have HFU := ident_Find (s := last) HU3.out HLS.out
              rw [hf] at HFU
              have HFF := Lib.hid HFU
              clear h1 h2 h3 hv hf HFU
              go_wp2_with fail
              refine HFF.out.mono ?_
              rintro e w' ⟨rfl, rfl⟩
              go_wp2_with fail
              refine HV.out.mono ?_
              rintro e w' ⟨rfl, rfl⟩
              go_wp2_with fail
              go_loop [17] (fun i => ∃ k : Nat, k ≤ L.length ∧ i = .int .i64 k) (fun i => L.length - (intOf i).toNat)
              case atStart => exact ⟨0, Nat.zero_le _, rfl⟩
              case round =>
                obtain ⟨k, hk, rfl⟩ := hrel
                rcases Nat.lt_or_ge k L.length with hlt | hge
                · obtain ⟨x, hx⟩ := get_lt hlt
                  obtain ⟨b', off, rfl, hb', hc⟩ := HA3.out k x hx
                  have HF := ident_Find (s := x) HT3.out (HZ.out x (List.mem_of_getElem? hx))
                  have hpx := pos_at HT3.out.good.nodup (add_pre last hx)
                  rw [(fnd_some hpx).1, (fnd_some hpx).2] at HF
                  have HFF := Lib.hid HF
                  clear hx HF hpx
                  go_wp2_with fail
                  refine HFF.out.mono ?_
                  rintro e w' ⟨rfl, rfl⟩
                  go_wp2_with fail
                  go_round
                  case rel => exact ⟨k + 1, by omega, by go_num⟩
                  case measure => simp [intOf]; omega
                · obtain rfl : k = L.length := by omega
                  go_wp2_with fail
                  refine (is_awake w3).mono ?_
                  rintro e w' ⟨rfl, hb⟩
                  have HB := Lib.hid hb
                  clear hb
                  go_wp2_with fail
                  go_ret
                  exact ⟨rfl, bstep HB3.out HB.out⟩
    · have HNG : Hid (¬ Good L) := fun h => h0 (newE_zero.mpr h)
      have h0' : (newE L == 0) = false := by simpa using h0
      clear h0
      go_wp2_with fail
      refine HU.out.mono ?_
      rintro e w2 ⟨hb2, bu, Su, rfl, hu, hSu⟩
      have HB2 := Lib.hid hb2
      have HU2 := Lib.hid hu
      have HSU := Lib.hid hSu
      clear hb2 hu hSu
      go_wp2_with fail
      go_loopw [9, 10] (fun v i wr => ∃ k : Nat, k ≤ L.length ∧ i = .int .i64 k ∧ (∃ Su M, Tb wr bu Su M ∧ (∀ x, Su x → w1.heap.size ≤ x) ∧ ∃ r, v = .bool r ∧ (r = true → M = L.take k)) ∧ Below w1.heap.size w1 wr) (fun _ i _ => L.length - (intOf i).toNat)
      case atStart => exact ⟨0, Nat.zero_le _, rfl, ⟨Su, [], HU2.out, HSU.out, true, rfl, fun _ => rfl⟩, HB2.out⟩
      case round =>
        obtain ⟨k, hk, rfl, ⟨Su', M, hu, hSu, r, rfl, hr⟩, hbr⟩ := hrel
        have HUR := Lib.hid hu
        have HSR := Lib.hid hSu
        have HBR := Lib.hid hbr
        have HRR := Lib.hid hr
        clear hu hSu hbr hr
        rcases Nat.lt_or_ge k L.length with hlt | hge
        · obtain ⟨x, hx⟩ := get_lt hlt
          obtain ⟨b', off, rfl, hb', hc⟩ := HA.out.keep (Nat.le_trans HB1.out.size HBR.out.size) (fun b off e hb => ((loop.out _ HBR.out).block b hb)) k x hx
          have HADD := ident_Add HUR.out (HZ.out x (List.mem_of_getElem? hx))
          have HX := Lib.hid hx
          clear hx
          cases r with
          | false =>
            have HAA := Lib.hid HADD
            clear HADD
            go_wp2_with fail
            refine HAA.out.mono ?_
            rintro e w' ⟨rfl, hadd⟩
            have HAD := Lib.hid hadd
            clear hadd
            go_wp2_with fail
            go_roundw
            case rel =>
              obtain ⟨S', h1, h2, h3⟩ := HAD.out
              exact ⟨k + 1, by omega, by go_num, ⟨S', _, h1, fun y hy => by rcases h2 y hy with h | h; exact HSR.out y h; have := HBR.out.size; omega, false, rfl, fun h => by cases h⟩, HBR.out.trans (h3.below HBR.out.size HSR.out)⟩
            case measure => simp [intOf]; omega
          | true =>
            obtain rfl := HRR.out rfl
            by_cases he : addE (L.take k) x = 0
            · have hlk : (L.take k).length = k := by rw [List.length_take]; omega
              have hal := (add_yes he).2
              have hai := (add_yes he).1
              rw [hai, he, hal, ← take_snoc_of HX.out, hlk] at HADD
              have HAA := Lib.hid HADD
              clear HADD he hlk hal hai
              go_wp2_with fail
              refine HAA.out.mono ?_
              rintro e w' ⟨rfl, hadd⟩
              have HAD := Lib.hid hadd
              clear hadd
              go_wp2_with fail
              go_roundw
              case rel =>
                obtain ⟨S', h1, h2, h3⟩ := HAD.out
                exact ⟨k + 1, by omega, by go_num, ⟨S', _, h1, fun y hy => by rcases h2 y hy with h | h; exact HSR.out y h; have := HBR.out.size; omega, true, rfl, fun _ => rfl⟩, HBR.out.trans (h3.below HBR.out.size HSR.out)⟩
              case measure => simp [intOf]; omega
            · have he' : (addE (L.take k) x == 0) = false := by simpa using he
              have HAA := Lib.hid HADD
              clear HADD he
              go_wp2_with fail
              refine HAA.out.mono ?_
              rintro e w' ⟨rfl, hadd⟩
              have HAD := Lib.hid hadd
              clear hadd
              go_wp2_with fail
              go_roundw
              case rel =>
                obtain ⟨S', h1, h2, h3⟩ := HAD.out
                exact ⟨k + 1, by omega, by go_num, ⟨S', _, h1, fun y hy => by rcases h2 y hy with h | h; exact HSR.out y h; have := HBR.out.size; omega, false, rfl, fun h => by cases h⟩, HBR.out.trans (h3.below HBR.out.size HSR.out)⟩
              case measure => simp [intOf]; omega
        · obtain rfl : k = L.length := by omega
          cases r with
          | true =>
            have e := HRR.out rfl
            rw [List.take_length] at e
            exact absurd (e ▸ HUR.out.good) HNG.out
          | false =>
            go_wp2_with fail
            refine (is_awake wr).mono ?_
            rintro e w' ⟨rfl, hb⟩
            have HB := Lib.hid hb
            clear hb
            go_wp2_with fail
            go_ret
            exact ⟨rfl, bstep (loop.out _ HBR.out) HB.out⟩
#print axioms walk_IdentGrows
end Go.Proofs.Ytbmedekfhifcpaa.Ident
