/- Contract of ident.New. -/
import Derived.Test.YtbmedekfhifcpaaIdentD
namespace Go.Proofs.Ytbmedekfhifcpaa.Ident
open Go.ChangeShapes Go.WideShapes Go.RowKit Go.Lib
set_option linter.unusedVariables false
set_option maxRecDepth 100000

/-- What New returns: a table of the names, in blocks of its own, or the error. -/
def NewRes (L : List ByteArray) (w : World) (e : Ending) (w' : World) : Prop :=
  Below w.heap.size w w' ∧
  ((newE L = 0 ∧ ∃ b S, e = .returned (.tuple #[.pointer (some ⟨b, 0, none⟩), .int .i64 0]) ∧ Tb w' b S L ∧ ∀ k, S k → w.heap.size ≤ k) ∨
   (newE L ≠ 0 ∧ e = .returned (.tuple #[.pointer none, .int .i64 (newE L)])))
theorem Tb.new (w : World) : Tb ((w.alloc (.map #[] 0)).alloc (.cells #[.slice none 0 0, .map (some w.heap.size)] 62)) (w.heap.size + 1) (fun k => k = w.heap.size ∨ k = w.heap.size + 1) [] := by
  have h1 : (w.alloc (.map #[] 0)).heap.size = w.heap.size + 1 := by simp
  refine ⟨Good.nil, Or.inr rfl, fun k hk => ?_, w.heap.size, .slice none 0 0, .map [], ?_, OwnS.nil _, ?_, Dct.nil, Or.inl rfl, by omega, fun g hg => by cases hg⟩
  · simp; omega
  · have := heap_alloc_new (w.alloc (.map #[] 0)) (.cells #[.slice none 0 0, .map (some w.heap.size)] 62)
    rwa [h1] at this
  · exact (World.ownsMap_made w _ _ _).alloc _
theorem ret_err {a b : Int} (h : a = b) : Ending.returned (.tuple #[.pointer none, .int .i64 b]) = .returned (.tuple #[.pointer none, .int .i64 a]) := by rw [h]
theorem dup_of {L : List ByteArray} {k : Nat} {s : ByteArray} (h : L[k]? = some s) (hf : fndB s (L.take k) = true) : ¬ L.Nodup := by
  intro hn
  have hm := fndB_iff.mp hf
  obtain ⟨j, hj⟩ := List.mem_iff_getElem?.mp hm
  have hlt := lt_get hj
  rw [List.length_take] at hlt
  rw [List.getElem?_take, if_pos (by omega)] at hj
  have h1 := pos_at hn hj
  rw [pos_at hn h] at h1
  simp at h1; omega

set_option maxHeartbeats 1600000 in
theorem ident_New (L : List ByteArray) (A : Option Addr) (c : Nat) (w : World) (ha : Strs w A L) (hz : Siz L) (hm : L.length ≤ 9223372036854775807) :
    Calls Try.prog 13 #[.slice A L.length c] w (NewRes L w) := by
  have HA := Lib.hid ha
  have HZ := Lib.hid hz
  clear ha hz
  have hmm := @run_makeMap Try.prog
  by_cases hf : 512 < L.length
  · have HE := Lib.hid (newE_full hf)
    have hf' : (512 : Int) < (L.length : Int) := by omega
    clear hf
    go_enter Try.func13, Try.ntmps13
    go_wp2_with fail
    go_ret2
    exact ⟨Below.refl _ _, Or.inr ⟨by rw [HE.out]; decide, ret_err HE.out⟩⟩
  · have hf' : decide ((512 : Int) < (L.length : Int)) = false := decide_eq_false (by omega)
    have HF := Lib.hid hf
    have hl512 : L.length ≤ 512 := by omega
    clear hf
    go_enter Try.func13, Try.ntmps13
    go_wp2_with fail
    go_loop [16] (fun i => ∃ k : Nat, k ≤ L.length ∧ i = .int .i64 k ∧ (∀ j s, j < k → L[j]? = some s → validB s = true)) (fun i => L.length - (intOf i).toNat)
    case atStart => exact ⟨0, Nat.zero_le _, rfl, fun j s h => absurd h (by omega)⟩
    case round =>
      obtain ⟨k, hk, rfl, hv⟩ := hrel
      have HV := Lib.hid hv
      clear hv
      rcases Nat.lt_or_ge k L.length with hlt | hge
      · obtain ⟨s, hs⟩ := get_lt hlt
        obtain ⟨b', off, rfl, hb', hc⟩ := HA.out k s hs
        have HS := Lib.hid hs
        have hsz := (HZ.out.at_ hs).1
        clear hs
        cases hv : validB s with
        | false =>
          have HC := valid_is hv hsz w
          have HE : Hid (newE L = 5) := newE_bad HF.out (by rw [List.all_eq_false]; exact ⟨s, List.mem_of_getElem? HS.out, by simp [hv]⟩)
          clear hv
          go_wp2_with fail
          refine HC.mono ?_
          rintro e w' ⟨rfl, rfl⟩
          go_wp2_with fail
          go_ret2
          exact ⟨Below.refl _ _, Or.inr ⟨by rw [HE.out]; decide, ret_err HE.out⟩⟩
        | true =>
          have HC := valid_is hv hsz w
          have HVV := Lib.hid hv
          clear hv
          go_wp2_with fail
          refine HC.mono ?_
          rintro e w' ⟨rfl, rfl⟩
          go_wp2_with fail
          go_round
          case rel =>
            refine ⟨k + 1, by omega, by go_num, fun j u hj hu => ?_⟩
            rcases Nat.lt_or_eq_of_le (Nat.le_of_lt_succ hj) with h | h
            · exact HV.out j u h hu
            · subst h
              have e := HS.out
              rw [hu] at e; cases e; exact HVV.out
          case measure => simp [intOf]; omega
      · obtain rfl : k = L.length := by omega
        have HALL : Hid (L.all validB = true) := List.all_eq_true.mpr fun s hs => by
          obtain ⟨j, hj⟩ := List.mem_iff_getElem?.mp hs
          exact HV.out j s (lt_get hj) hj
        clear hk
        go_wp2_with fail
        go_loopw [29] (fun i wr => ∃ k : Nat, k ≤ L.length ∧ i = .int .i64 k ∧ (∃ S, Tb wr (w.heap.size + 1) S (L.take k) ∧ ∀ x, S x → w.heap.size ≤ x) ∧ Below w.heap.size w wr) (fun i _ => L.length - (intOf i).toNat)
        case atStart =>
          exact ⟨0, Nat.zero_le _, rfl, ⟨_, Tb.new w, fun x hx => by omega⟩, ((Below.refl _ w).alloc (Nat.le_refl _) _).alloc (by simp) _⟩
        case round =>
          obtain ⟨k, hk, rfl, ⟨S, ht, hS⟩, hbel⟩ := hrel
          have HT := Lib.hid ht
          have HS0 := Lib.hid hS
          have HB := Lib.hid hbel
          clear ht hS hbel
          rcases Nat.lt_or_ge k L.length with hlt | hge
          · obtain ⟨s, hs⟩ := get_lt hlt
            obtain ⟨b', off, rfl, hb', hc⟩ := HA.out.keep HB.out.size (fun b off e hb => HB.out.block b hb) k s hs
            have HS := Lib.hid hs
            have HSZ := Lib.hid (HZ.out.at_ hs).2
            have HADD := Lib.hid (ident_Add HT.out (HZ.out.at_ hs).2)
            have hvs : validB s = true := List.all_eq_true.mp HALL.out s (List.mem_of_getElem? hs)
            have hlk : (L.take k).length = k := by rw [List.length_take]; omega
            cases hd : fndB s (L.take k) with
            | true =>
              have he : addE (L.take k) s = 6 := addE_twice hvs hd
              have HE : Hid (newE L = 6) := newE_twice HF.out HALL.out (dup_of hs hd)
              rw [he] at HADD
              clear hd he hvs hlk hs
              go_wp2_with fail
              refine HADD.out.mono ?_
              rintro e w' ⟨rfl, hadd⟩
              have HAD := Lib.hid hadd
              clear hadd
              go_wp2_with fail
              go_ret2
              obtain ⟨S', h1, h2, h3⟩ := HAD.out
              exact ⟨HB.out.trans (h3.below HB.out.size HS0.out), Or.inr ⟨by rw [HE.out]; decide, ret_err HE.out⟩⟩
            | false =>
              have he : addE (L.take k) s = 0 := addE_ok hvs hd (by omega)
              have hal := (add_yes he).2
              rw [he, hal, ← take_snoc_of hs] at HADD
              clear hd he hvs hlk hs hal
              go_wp2_with fail
              refine HADD.out.mono ?_
              rintro e w' ⟨rfl, hadd⟩
              have HAD := Lib.hid hadd
              clear hadd
              go_wp2_with fail
              go_roundw
              case rel =>
                obtain ⟨S', h1, h2, h3⟩ := HAD.out
                exact ⟨k + 1, by omega, by go_num, ⟨S', h1, fun x hx => by rcases h2 x hx with h | h; exact HS0.out x h; have := HB.out.size; omega⟩, HB.out.trans (h3.below HB.out.size HS0.out)⟩
              case measure => simp [intOf]; omega
          · obtain rfl : k = L.length := by omega
            have HTT := HT
            rw [List.take_length] at HTT
            go_wp2_with fail
            go_ret2
            exact ⟨HB.out, Or.inl ⟨newE_zero.mpr HTT.out.good, _, S, rfl, HTT.out, HS0.out⟩⟩
#print axioms ident_New
end Go.Proofs.Ytbmedekfhifcpaa.Ident
