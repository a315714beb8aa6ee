/- Several texts in one: FibreJ, MemB, ShareG, ShareH, ShareI, ShareJ, ShareK, FibreK, FibreL. -/
import Derived.Test.YtgomokdklajlcaaPk13
import Derived.Test.YtgomokdklajlcaaPk2
import Derived.Test.YtgomokdklajlcaaPk3
import Derived.Laws.CopyOwn
import Derived.Test.YtgomokdklajlcaaPk10
/- The program: Check. -/
namespace Go.Proofs.Ytgomokdklajlcaa.Fibre
open Go.ChangeShapes Go.WideShapes Go.RowKit Go.Lib
open Go.Proofs.Ytgomokdklajlcaa.Rw (Rd Cel Off glt get_lt ret_bool ret_int wrap_id bstep below_drewN below_drew drew_below below_alloc take_snoc_of)
open Go.Proofs.Ytgomokdklajlcaa.Ident (validB validB_size valid_is Tb Good Adds fndB fndB_iff add_yes add_no ident_New ident_Add NewRes newE newE_zero Strs)
set_option linter.unusedVariables false
set_option maxRecDepth 100000

theorem off_of {S : Nat → Prop} {w w' : World} (h : Ident.Off S w w') : Off S w w' := ⟨h.os, h.tape, h.output, h.size, h.block⟩
abbrev nms (D : List Fb) : List ByteArray := D.map Prod.fst
/-! ### The names, one after the other -/
abbrev twE (D : List Fb) (f : Fb) : Int := Ident.addE (nms D) f.1
theorem firD_el : ∀ (l D : List Fb), firD (fun _ f => elE f) D l = firE l
  | [], _ => rfl
  | f :: l, D => by rw [firD, firE, firD_el l]
theorem fnd_nms {D : List Fb} {f : Fb} : fndB f.1 (nms D) = D.any fun g => decide (g.1 = f.1) := by
  apply Bool.eq_iff_iff.mpr
  rw [fndB_iff, List.any_eq_true, List.mem_map]
  exact ⟨fun ⟨g, h1, h2⟩ => ⟨g, h1, decide_eq_true h2⟩, fun ⟨g, h1, h2⟩ => ⟨g, h1, of_decide_eq_true h2⟩⟩
theorem firD_tw : ∀ (l D : List Fb), (∀ f ∈ l, validB f.1 = true) → D.length + l.length ≤ 512 → firD twE D l = if (l.any fun f => D.any fun g => decide (g.1 = f.1)) || twB l then 6 else 0
  | [], _, _, _ => rfl
  | f :: l, D, hv, hl => by
    have hvf := hv f (List.mem_cons_self ..)
    rw [List.length_cons] at hl
    rw [firD]
    cases hf : D.any fun g => decide (g.1 = f.1) with
    | true =>
      have h1 : twE D f = 6 := Ident.addE_twice hvf (by rw [fnd_nms, hf])
      rw [h1, if_neg (by decide), List.any_cons, hf]; rfl
    | false =>
      have h1 : twE D f = 0 := Ident.addE_ok hvf (by rw [fnd_nms, hf]) (by rw [List.length_map]; omega)
      rw [if_pos h1, firD_tw l (D ++ [f]) (fun g hg => hv g (List.mem_cons_of_mem _ hg)) (by rw [List.length_append, List.length_singleton]; omega), List.any_cons, hf, Bool.false_or, twB]
      congr 1
      apply congrArg (· = true)
      rw [← Bool.or_assoc]
      congr 1
      apply Bool.eq_iff_iff.mpr
      rw [Bool.or_eq_true, List.any_eq_true, List.any_eq_true, List.any_eq_true]
      constructor
      · rintro ⟨x, hx, h⟩
        rw [List.any_append, Bool.or_eq_true] at h
        rcases h with h | h
        · exact Or.inl ⟨x, hx, h⟩
        · simp at h
          exact Or.inr ⟨x, hx, decide_eq_true h.symm⟩
      · rintro (⟨x, hx, h⟩ | ⟨x, hx, h⟩)
        · exact ⟨x, hx, by rw [List.any_append, h]; rfl⟩
        · exact ⟨x, hx, by rw [List.any_append, Bool.or_eq_true]; right; simp; exact (of_decide_eq_true h).symm⟩
theorem firE_valid {l : List Fb} (h : firE l = 0) : ∀ f ∈ l, validB f.1 = true := fun f hf => by
  have h1 := firE_of h f hf
  cases hv : validB f.1 with
  | true => rfl
  | false => rw [elE_name hv] at h1; cases h1
theorem chkE_fir {l : List Fb} (h0 : ¬ l.length = 0) (h8 : ¬ 8 < l.length) (h : ¬ firE l = 0) : chkE l = firE l := by
  unfold chkE; rw [if_neg h0, if_neg h8, if_neg h]
theorem chkE_two {l : List Fb} (h0 : ¬ l.length = 0) (h8 : ¬ 8 < l.length) (h : firE l = 0) : chkE l = firD twE [] l := by
  unfold chkE
  rw [if_neg h0, if_neg h8, if_pos h, firD_tw l [] (firE_valid h) (by simp; omega)]
  simp

/-! ### The two functions -/
/-- Nothing is known, and no block is its own. -/
def noJ (_ : List Fb) (S : Nat → Prop) (_ : World) : Prop := ∀ y, ¬ S y
theorem vis_kind (N : Nat) : VisK 32 #[] #[] (fun _ f => elE f) (fun f => f.1.size ≤ 9223372036854775807) N noJ where
  eg := enters_of Try.func32 (by kernel_rfl) rfl
  lt := fun D S W h y hy => absurd hy (h y)
  keep := fun D S W W' h _ _ => h
  step := fun D S W f hj _ hs => (p_checkKind f W hs).mono fun e W' ⟨h1, h2⟩ => ⟨h1, Off.of_below h2, fun _ => ⟨S, hj, fun y hy => Or.inl hy⟩⟩
set_option maxHeartbeats 800000 in
theorem p_twice (b bx : Nat) (S : Nat → Prop) (L : List ByteArray) (f : Fb) (w : World) (ht : Tb w b S L) (hc : w.cell? ⟨bx, 0, none⟩ = some (.pointer (some ⟨b, 0, none⟩))) (hx : bx < w.heap.size) (hs : f.1.size ≤ maxLen) :
    Calls Try.prog 34 #[.agg #[.string f.1, .int .i64 f.2], .pointer (some ⟨bx, 0, none⟩)] w fun e w' => e = .returned (.int .i64 (Ident.addE L f.1)) ∧ ∃ w1, Below w.heap.size w w1 ∧ Adds w1 b S (Ident.addL L f.1) w' := by
  have HT := Lib.hid ht
  have HAd := Lib.hid fun (W : World) (h : Tb W b S L) => ident_Add h hs
  obtain ⟨E, hE⟩ : ∃ E, Ident.addE L f.1 = E := ⟨_, rfl⟩
  rw [hE] at HAd
  rw [hE]
  clear ht
  go_enter Try.func34, Try.ntmps34
  go_upto_region 1 with fail
  generalize hw1 : w.alloc (.cells #[.string f.1, .int .i64 f.2] TF) = w1
  have HB1 : Hid (Below w.heap.size w w1) := hw1 ▸ below_alloc _ _
  have HC1 : Hid (Cel w1 w.heap.size [.string f.1, .int .i64 f.2]) := hw1 ▸ Cel.new _ _ _
  have x0 : w1.cell? ⟨bx, 0, none⟩ = some (.pointer (some ⟨b, 0, none⟩)) := (HB1.out.cell (p := ⟨bx, 0, none⟩) hx).trans hc
  clear hw1 hc
  obtain ⟨c0, c1⟩ := HC1.out.two
  go_wp2_with fail
  refine (HAd.out _ (HT.out.on HB1.out)).mono ?_
  rintro e w2 ⟨rfl, had⟩
  have HA := Lib.hid had
  clear had
  go_wp2_with fail
  go_ret
  exact ⟨rfl, w1, HB1.out, HA.out⟩
/-- The table of the names before, and the cell that points to it. -/
def twJ (b bx : Nat) (D : List Fb) (S : Nat → Prop) (W : World) : Prop := ∃ S0, Tb W b S0 (nms D) ∧ ¬ S0 bx ∧ Cel W bx [.pointer (some ⟨b, 0, none⟩)] ∧ ∀ y, S y ↔ S0 y ∨ y = bx
theorem vis_twice (b bx N : Nat) : VisK 34 #[] #[.pointer (some ⟨bx, 0, none⟩)] twE (fun f => f.1.size ≤ maxLen) N (twJ b bx) where
  eg := enters_of Try.func34 (by kernel_rfl) rfl
  lt := fun D S W ⟨S0, h1, h2, h3, h4⟩ y hy => by
    rcases (h4 y).mp hy with h | rfl
    · exact h1.lt y h
    · exact h3.lt
  keep := fun D S W W' ⟨S0, h1, h2, h3, h4⟩ hs hk => ⟨S0, h1.keep hs fun k hk' => hk k ((h4 k).mpr (Or.inl hk')), h2, h3.keep hs (hk bx ((h4 bx).mpr (Or.inr rfl))), h4⟩
  step := fun D S W f ⟨S0, h1, h2, h3, h4⟩ _ hs => (p_twice b bx S0 (nms D) f W h1 (h3.at_ 0 _ rfl) h3.lt hs).mono fun e W' ⟨he, w1, hb, S', k1, k2, k3⟩ => by
    refine ⟨he, ?_, fun hz => ⟨fun y => S' y ∨ y = bx, ⟨S', ?_, ?_, ?_, fun y => Iff.rfl⟩, ?_⟩⟩
    · have : Off S w1 W' := (off_of k3).mono fun x hx => Or.inl ((h4 x).mpr (Or.inl hx))
      exact ((Off.of_below (S := S) hb).trans this fun x hx => Or.inl hx)
    · have hz' : Ident.addE (nms D) f.1 = 0 := hz
      rw [(add_yes hz').2] at k1
      unfold nms at k1 ⊢
      rw [List.map_append]
      exact k1
    · intro hx
      rcases k2 bx hx with h | h
      · exact h2 h
      · have := hb.size; have := h3.lt; omega
    · exact (h3.on hb).off (off_of k3) h2
    · intro y hy
      rcases hy with hy | rfl
      · rcases k2 y hy with h | h
        · exact Or.inl ((h4 y).mpr (Or.inl h))
        · exact Or.inr (Nat.le_trans hb.size h)
      · exact Or.inl ((h4 y).mpr (Or.inr rfl))

/-! ### Check -/
theorem kds_old {w : World} {A : Option Addr} {l : List Fb} (h : Kds w A l) (k : Nat) (f : Fb) (hf : l[k]? = some f) (b off : Nat) (e : A = some ⟨b, off, none⟩) : b < w.heap.size := by
  obtain ⟨b', off', e', hlt, -⟩ := h k f hf
  rw [e] at e'; cases e'; exact hlt
set_option maxHeartbeats 1600000 in
theorem fibre_Check (l : List Fb) (A : Option Addr) (n c : Nat) (hn : n = l.length) (w : World) (ha : Kds w A l) (hz : Sz l) (hm : n ≤ 1000000) :
    Calls Try.prog 13 #[.slice A n c] w fun e w' => e = .returned (.int .i64 (chkE l)) ∧ Below w.heap.size w w' := by
  have HA := Lib.hid ha
  have HN := Lib.hid hn
  have HZ := Lib.hid hz
  clear ha hz
  by_cases h0 : n = 0
  · subst h0
    rw [show chkE l = 10 by unfold chkE; rw [if_pos hn.symm]]
    clear hn
    go_enter Try.func13, Try.ntmps13
    go_wp2_with fail
    go_ret
    exact ⟨rfl, Below.refl _ _⟩
  have e0 : ((n : Int) == 0) = false := beq_false_of_ne (by omega)
  have e0' : ¬ (n : Int) = 0 := by omega
  by_cases h8 : 8 < n
  · have e8 : decide ((8 : Int) < (n : Int)) = true := decide_eq_true (by omega)
    rw [show chkE l = 8 by unfold chkE; rw [if_neg (by omega), if_pos (by omega)]]
    clear hn h0
    go_enter Try.func13, Try.ntmps13
    go_wp2_with fail
    go_ret
    exact ⟨rfl, Below.refl _ _⟩
  have e8 : decide ((8 : Int) < (n : Int)) = false := decide_eq_false (by omega)
  have k0 : ¬ l.length = 0 := by omega
  have k8 : ¬ 8 < l.length := by omega
  have HV1 := Lib.hid (visit_kinds l (vis_kind l.length) (S := fun _ => False) (w := w) (fun y hy => hy) A n c hn HA.out (fun _ _ _ _ _ _ h => h) HZ.out (by omega))
  rw [firD_el] at HV1
  have HBl : Hid (∀ W W' : World, Off (fun _ => False) W W' → Below W.heap.size W W') := fun W W' h => h.below (Nat.le_refl _) fun x hx => hx.elim
  by_cases hf : firE l = 0
  rotate_left
  · rw [chkE_fir k0 k8 hf]
    obtain ⟨F, hF⟩ : ∃ F, firE l = F := ⟨_, rfl⟩
    rw [hF] at hf HV1 ⊢
    obtain ⟨z1, z2⟩ := ne_zero hf
    clear hn h0 h8 k0 k8 hf hF
    go_enter Try.func13, Try.ntmps13
    go_wp2_with fail
    refine HV1.out.mono ?_
    rintro e w1 ⟨rfl, ho⟩
    have HB1 := Lib.hid (HBl.out _ _ ho)
    clear ho
    go_wp2_with fail
    go_ret
    exact ⟨rfl, HB1.out⟩
  rw [chkE_two k0 k8 hf]
  rw [hf] at HV1
  have HVal : Hid (∀ f ∈ l, f.1.size ≤ maxLen) := Lib.hid fun f h => by
    have := (validB_size (firE_valid hf f h)).2
    unfold maxLen; omega
  have HNew : Hid (∀ W, Calls Try.prog 33 #[.slice none 0 0] W fun e W' => ∃ b S, e = .returned (.tuple #[.pointer (some ⟨b, 0, none⟩), .int .i64 0]) ∧ Tb W' b S [] ∧ (∀ k, S k → W.heap.size ≤ k) ∧ Below W.heap.size W W') := Lib.hid fun W =>
    (ident_New [] none 0 W (Strs.nil _ _) (fun s hs => by simp at hs) (by simp)).mono fun e W' ⟨h1, h2⟩ => by
      have hz : newE [] = 0 := newE_zero.mpr Good.nil
      rcases h2 with ⟨-, b, S, h3, h4, h5⟩ | ⟨h3, -⟩
      · exact ⟨b, S, h3, h4, h5, h1⟩
      · exact absurd hz h3
  obtain ⟨E, hE⟩ : ∃ E, firD twE [] l = E := ⟨_, rfl⟩
  rw [hE]
  have HE := Lib.hid hE
  clear hn h0 h8 k0 k8 hf hE
  go_enter Try.func13, Try.ntmps13
  go_wp2_with fail
  refine HV1.out.mono ?_
  rintro e w1 ⟨rfl, ho⟩
  have HB1 := Lib.hid (HBl.out _ _ ho)
  clear ho
  go_wp2_with fail
  refine (HNew.out _).mono ?_
  rintro e w2 ⟨b, S, rfl, ht, hS, hb2⟩
  have HT := Lib.hid ht
  have HS := Lib.hid hS
  have HB2 := Lib.hid (bstep HB1.out hb2)
  have HLe := Lib.hid hb2.size
  clear ht hS hb2
  go_upto_region 9 with fail
  generalize hw3 : w2.alloc (.cells #[.pointer (some ⟨b, 0, none⟩)] 46) = w3
  have HB3 : Hid (Below w2.heap.size w2 w3) := hw3 ▸ below_alloc _ _
  have HC3 : Hid (Cel w3 w2.heap.size [.pointer (some ⟨b, 0, none⟩)]) := hw3 ▸ Cel.new _ _ _
  clear hw3
  have HBw3 := Lib.hid (bstep HB2.out HB3.out)
  have HJ : Hid (twJ b w2.heap.size [] (fun y => S y ∨ y = w2.heap.size) w3) := Lib.hid ⟨S, HT.out.on HB3.out, fun h => Nat.lt_irrefl _ (HT.out.lt _ h), HC3.out, fun y => Iff.rfl⟩
  have HNo : Hid (∀ y, S y ∨ y = w2.heap.size → w.heap.size ≤ y) := Lib.hid fun y hy => by
    have h1 := HB1.out.size
    have h2 := HLe.out
    rcases hy with h | rfl
    · have := HS.out y h; omega
    · omega
  have HV2 := Lib.hid (visit_kinds l (vis_twice b w2.heap.size l.length) HJ.out A n c HN.out (HA.out.on HBw3.out) (fun k f hf b' off e hs => by have := kds_old HA.out k f hf b' off e; have := HNo.out _ hs; omega) HVal.out (by omega))
  rw [HE.out] at HV2
  go_wp2_with fail
  refine HV2.out.mono ?_
  rintro e w4 ⟨rfl, ho⟩
  have HB4 : Hid (Below w.heap.size w w4) := Lib.hid (HBw3.out.trans (ho.below HBw3.out.size HNo.out))
  clear ho
  go_wp2_with fail
  go_ret
  exact ⟨rfl, HB4.out⟩
end Go.Proofs.Ytgomokdklajlcaa.Fibre
/- slices.Repeat of a slice of one integer. -/
namespace Go.Proofs.Ytgomokdklajlcaa.Mem
open Go.ChangeShapes Go.WideShapes Go.RowKit Go.Lib
set_option linter.unusedVariables false
set_option maxRecDepth 100000

def rpt (N : Nat) (z : Int) (n : Nat) : List Value := List.replicate n (.int .i64 z) ++ List.replicate (N - n) (.int .i64 0)
theorem rpt_len {N : Nat} {z : Int} {n : Nat} (h : n ≤ N) : (rpt N z n).length = N := by unfold rpt; simp; omega
theorem rpt_splice {N : Nat} {z : Int} {n m : Nat} (h : n + m ≤ N) : splice (rpt N z n) n (List.replicate m (.int .i64 z)) = rpt N z (n + m) := by
  unfold splice rpt
  rw [List.take_left' (by simp), List.length_replicate, List.drop_append, List.drop_eq_nil_of_le (by simp), List.nil_append, List.drop_replicate, ← List.append_assoc, List.replicate_append_replicate, List.length_replicate]
  congr 2
  omega
theorem rpt_get {N : Nat} {z : Int} {n j : Nat} (h : j < n) : (rpt N z n)[j]? = some (.int .i64 z) := by
  unfold rpt
  rw [List.getElem?_append_left (by simpa using h), List.getElem?_replicate, if_pos h]
theorem own_rpt {w : World} {g N B : Nat} {z : Int} {t : TypeId} (hg : w.heap[g]? = some (.cells (rpt N z N).toArray t (0, 0))) (hB : B ≤ g) (hN : N ≤ 1000) : Own eI t B w (.slice (some ⟨g, 0, none⟩) N N) (List.replicate N z) := by
  have e : rpt N z N = (List.replicate N z).map eI := by unfold rpt; simp
  refine ⟨by simp, Or.inr ⟨g, N, (rpt N z N).toArray, by simp, hB, hg, by simp, by unfold maxLen; omega, by simp [rpt_len], ?_⟩⟩
  rw [← e]
  simp
  exact List.take_of_length_le (by rw [rpt_len (Nat.le_refl _)]; exact Nat.le_refl _)
theorem row_cell {w : World} {g : Nat} {l : List Value} {t : TypeId} (hg : w.heap[g]? = some (.cells l.toArray t (0, 0))) (j : Nat) : w.cell? ⟨g, j, none⟩ = l[j]? := by
  rw [cell_of_row w g j _ _ (0, 0) hg]; simp
theorem rep_src {w : World} {g N k m : Nat} {z : Int} {t : TypeId} (hg : w.heap[g]? = some (.cells (rpt N z k).toArray t (0, 0))) (hm : m ≤ k) : ∀ (j : Nat) (v : Value), (List.replicate m (Value.int .i64 z))[j]? = some v → w.cell? ((⟨g, 0, none⟩ : Addr).add j) = some v := by
  intro j v hj
  rw [List.getElem?_replicate] at hj
  split at hj
  · cases hj
    rw [Addr.add_lit, Nat.zero_add]
    exact (row_cell hg j).trans (rpt_get (by omega))
  · cases hj
theorem one_src {w : World} {g : Nat} {z : Int} (hc : w.cell? ⟨g, 0, none⟩ = some (.int .i64 z)) : ∀ (j : Nat) (v : Value), (List.replicate 1 (Value.int .i64 z))[j]? = some v → w.cell? ((⟨g, 0, none⟩ : Addr).add j) = some v := by
  intro j v hj
  rw [List.getElem?_replicate] at hj
  split at hj
  · rename_i h
    obtain rfl : j = 0 := by omega
    cases hj
    rw [Addr.add_lit]
    exact hc
  · cases hj
theorem size_int : (Try.prog.info? 3).map (·.size) = some 1 := by kernel_rfl

end Go.Proofs.Ytgomokdklajlcaa.Mem
/- share.Bounds, share.Even. -/
namespace Go.Proofs.Ytgomokdklajlcaa.Share
open Go.ChangeShapes Go.WideShapes Go.RowKit Go.Lib Go.Proofs.Ytgomokdklajlcaa.Mem
set_option linter.unusedVariables false
set_option maxRecDepth 100000

end Go.Proofs.Ytgomokdklajlcaa.Share
/- check and Divide of the reference. -/
namespace Go.Proofs.Ytgomokdklajlcaa.Share
open Go.ChangeShapes Go.WideShapes Go.RowKit Go.Lib Go.Proofs.Ytgomokdklajlcaa.Mem
set_option linter.unusedVariables false
set_option maxRecDepth 100000

def chV (t : Int) (ws : List Int) : Int := if errS t ws = 0 then sumK ws ws.length else 0

theorem i64_and1 (n : Int) : bits .and .i64 n 1 = n % 2 := by
  have h1 : (BitVec.ofInt 64 1).toNat = 2 ^ 1 - 1 := by decide
  have key : (BitVec.ofInt 64 n &&& BitVec.ofInt 64 1).toNat = (n % ((2 ^ 64 : Nat) : Int)).toNat % 2 ^ 1 := by
    rw [BitVec.toNat_and, BitVec.toNat_ofInt, h1, Nat.and_two_pow_sub_one_eq_mod]
  show IntKind.i64.wrap ((BitVec.ofInt 64 n &&& BitVec.ofInt 64 1).toNat : Nat) = n % 2
  rw [key, IntKind.wrap_i64]
  omega
end Go.Proofs.Ytgomokdklajlcaa.Share
/- Split of the reference. -/
namespace Go.Proofs.Ytgomokdklajlcaa.Share
open Go.ChangeShapes Go.WideShapes Go.RowKit Go.Lib Go.Proofs.Ytgomokdklajlcaa.Mem
set_option linter.unusedVariables false
set_option maxRecDepth 100000

theorem lefts_lo (r : Nat → Nat) (n k i : Nat) : -1 ≤ lefts r n k i := by
  unfold lefts; split <;> omega
theorem partsL_zero {t : Int} {ws : List Int} (h : Share.tw (wf ws) ws.length = 0) : partsL t ws = lst (fun _ => 0) ws.length := by
  unfold partsL lst
  exact List.map_congr_left fun i _ => by unfold part; rw [if_pos h]; rfl
theorem bndsL_zero {t : Int} {ws : List Int} (h : Share.tw (wf ws) ws.length = 0) : bndsL t ws = lst (fun _ => 0) ws.length := by
  unfold bndsL lst
  exact List.map_congr_left fun i _ => by unfold bnd; rw [if_pos h]; rfl

end Go.Proofs.Ytgomokdklajlcaa.Share
/- Same and Bounds of the reference. -/
namespace Go.Proofs.Ytgomokdklajlcaa.Share
open Go.ChangeShapes Go.WideShapes Go.RowKit Go.Lib Go.Proofs.Ytgomokdklajlcaa.Mem
set_option linter.unusedVariables false
set_option maxRecDepth 100000

end Go.Proofs.Ytgomokdklajlcaa.Share
/- Even of the program and of the reference. -/
namespace Go.Proofs.Ytgomokdklajlcaa.Share
open Go.ChangeShapes Go.WideShapes Go.RowKit Go.Lib Go.Proofs.Ytgomokdklajlcaa.Mem
set_option linter.unusedVariables false
set_option maxRecDepth 100000

theorem split_n (t : Int) (ws : List Int) (n : Nat) (hn : ws.length = n) (A : Option Addr) (c : Nat) (w : World) (hS : Cl eI w A ws) (hl : n ≤ 9223372036854775807) :
    Calls Try.prog 42 #[.int .i64 t, .slice A n c] w (ResL (splL t ws) (errS t ws) w) := by
  subst hn; exact share_split t ws A c w hS hl
theorem ResL.open_ {L : List Int} {E : Nat} {w : World} {e : Ending} {w' : World} (h : ResL L E w e w') : ∃ (A : Option Addr) (n c : Nat), e = .returned (.tuple #[.slice A n c, .int .i64 (E : Int)]) ∧ L.length = n ∧ n ≤ 9223372036854775807 ∧ Own eI 3 w.heap.size w' (.slice A n c) L ∧ Cl eI w' A L ∧ Below w.heap.size w w' := by
  obtain ⟨v, rfl, ho, hb⟩ := h
  obtain ⟨A, c, rfl, hl, hc⟩ := ho.inS.open_
  exact ⟨A, _, c, rfl, rfl, hl, ho, hc, hb⟩
theorem own_cl {α : Type} {enc : α → Value} {t : TypeId} {B n c : Nat} {w : World} {A : Option Addr} {L : List α} (h : Own enc t B w (.slice A n c) L) : Cl enc w A L := by
  obtain ⟨A2, c2, e, _, _, hc⟩ := h.inS
  exact (Value.slice.inj e).1 ▸ hc
/-- What Even returns. -/
def evE (t m : Int) : Nat := if m < 1 ∨ 512 < m then 1 else errS t (List.replicate m.toNat 1)
def evL (t m : Int) : List Int := if m < 1 ∨ 512 < m then [] else splL t (List.replicate m.toNat 1)
theorem ev_out {t m : Int} (h : m < 1 ∨ 512 < m) : evE t m = 1 ∧ evL t m = [] := ⟨if_pos h, if_pos h⟩
theorem ev_in {t : Int} {N : Nat} (h1 : 1 ≤ N) (h2 : N ≤ 512) : evE t (N : Int) = errS t (List.replicate N 1) ∧ evL t (N : Int) = splL t (List.replicate N 1) := by
  unfold evE evL
  rw [if_neg (by omega), if_neg (by omega), Int.toNat_natCast]
  exact ⟨rfl, rfl⟩
theorem ev_t {t : Int} {m : Int} (h : inW t = false) : evE t m = 1 ∧ evL t m = [] := by
  unfold evE evL
  by_cases hm : m < 1 ∨ 512 < m
  · rw [if_pos hm, if_pos hm]; exact ⟨rfl, rfl⟩
  · rw [if_neg hm, if_neg hm, errS_t h]
    refine ⟨rfl, ?_⟩
    unfold splL
    rw [errS_t h, if_neg (by omega)]

end Go.Proofs.Ytgomokdklajlcaa.Share
/- The program: Recipe, Parts, Total, Masses. -/
namespace Go.Proofs.Ytgomokdklajlcaa.Fibre
open Go.ChangeShapes Go.WideShapes Go.RowKit Go.Lib
open Go.Proofs.Ytgomokdklajlcaa.Mem (Cl eI Own)
open Go.Proofs.Ytgomokdklajlcaa.Rw (Cel glt get_lt ret_bool ret_int wrap_id bstep below_drewN below_drew drew_below below_alloc)
open Go.Proofs.Ytgomokdklajlcaa.Share (sumK sumK_zero sumK_succ partsL splL errS inW mx ResL split_n tot_all allIn_of cl_holds)
open Go.Proofs.Ytgomokdklajlcaa.Num (num_sum sumV sumE sumV_all sumE_all okV_yes okE_yes)
set_option linter.unusedVariables false
set_option maxRecDepth 100000

theorem mx_is : mx = 1125899906842624 := rfl
/-- The sum of a short list of masses. -/
theorem p_sum (l : List Int) (A : Option Addr) (n c : Nat) (hn : n = l.length) (w : World) (ha : Cl eI w A l) (hl : n ≤ 8) (hz : ∀ z ∈ l, 0 ≤ z ∧ z ≤ MM) :
    Calls Try.prog 38 #[.slice A n c] w fun e w' => e = .returned (.tuple #[.int .i64 (sumZ l), .int .i64 0]) ∧ Below w.heap.size w w' := by
  subst hn
  have hM : MM = 1099511627776 := rfl
  have h1 : Num.allIn l = true := allIn_of fun z h => by have := hz z h; rw [mx_is]; omega
  have h2 := sumZ_lim (by decide) hz hl
  rw [hM] at h2
  have h3 : Num.tot l = sumZ l := tot_all l
  have hV : sumV l = sumZ l := by rw [sumV_all (by omega) h1, h3]; exact okV_yes (by omega) (by omega)
  have hE : sumE l = 0 := by rw [sumE_all (by omega) h1, h3]; exact okE_yes (by omega) (by omega)
  have h := num_sum l A c w (cl_holds ha) (by omega)
  rw [hV, hE] at h
  exact h

set_option maxHeartbeats 800000 in
theorem fibre_Recipe (r : List Int) (A : Option Addr) (n c : Nat) (hn : n = r.length) (kinds : Int) (w : World) (ha : Cl eI w A r) (hm : n ≤ 1000000) :
    Calls Try.prog 16 #[.slice A n c, .int .i64 kinds] w fun e w' => e = .returned (.int .i64 (recE r kinds)) ∧ Below w.heap.size w w' := by
  have HA := Lib.hid ha
  have HL := Lib.hid (p_checkList r A n c hn kinds 1000 w ha (by omega))
  obtain ⟨F, hF⟩ : ∃ F, lisE r kinds 1000 = F := ⟨_, rfl⟩
  rw [hF] at HL
  by_cases hz : F = 0
  rotate_left
  · obtain ⟨z1, z2⟩ := ne_zero hz
    have he : recE r kinds = F := by unfold recE; rw [hF, if_neg hz]
    rw [he]
    clear ha hn hF hz he
    go_enter Try.func16, Try.ntmps16
    go_wp2_with fail
    refine HL.out.mono ?_
    rintro e w1 ⟨rfl, hb⟩
    have B1 := Lib.hid hb
    clear hb
    go_wp2_with fail
    go_ret
    exact ⟨rfl, B1.out⟩
  subst hz
  obtain ⟨h1, h2, h3, h4⟩ := lisE_of hF
  have HS := Lib.hid fun (W : World) (h : Cl eI W A r) => p_sum r A n c hn W h (by omega) fun z hz => by have := h4 z hz; have hM : MM = 1099511627776 := rfl; omega
  obtain ⟨S, hS⟩ : ∃ S, sumZ r = S := ⟨_, rfl⟩
  rw [hS] at HS
  have he : recE r kinds = if S = 1000 then 0 else 18 := by unfold recE; rw [hF, if_pos rfl, hS]
  rw [he]
  clear ha hn hF h1 h2 h3 h4 hS he
  by_cases hs : S = 1000
  · subst hs
    rw [if_pos rfl]
    go_enter Try.func16, Try.ntmps16
    go_wp2_with fail
    refine HL.out.mono ?_
    rintro e w1 ⟨rfl, hb⟩
    have B1 := Lib.hid hb
    clear hb
    go_wp2_with fail
    refine (HS.out w1 (HA.out.on B1.out)).mono ?_
    rintro e w2 ⟨rfl, hb⟩
    have B2 := Lib.hid (bstep B1.out hb)
    clear hb
    go_wp2_with fail
    go_ret
    exact ⟨rfl, B2.out⟩
  · have s1 : (S == 1000) = false := beq_false_of_ne hs
    have s2 : (S != 1000) = true := by rw [bne, s1]; rfl
    rw [if_neg hs]
    clear hs
    go_enter Try.func16, Try.ntmps16
    go_wp2_with fail
    refine HL.out.mono ?_
    rintro e w1 ⟨rfl, hb⟩
    have B1 := Lib.hid hb
    clear hb
    go_wp2_with fail
    refine (HS.out w1 (HA.out.on B1.out)).mono ?_
    rintro e w2 ⟨rfl, hb⟩
    have B2 := Lib.hid (bstep B1.out hb)
    clear hb
    go_wp2_with fail
    go_ret
    exact ⟨rfl, B2.out⟩

theorem fibre_Parts (m : List Int) (A : Option Addr) (n c : Nat) (hn : n = m.length) (kinds : Int) (w : World) (ha : Cl eI w A m) (hm : n ≤ 1000000) :
    Calls Try.prog 18 #[.slice A n c, .int .i64 kinds] w fun e w' => e = .returned (.int .i64 (parE m kinds)) ∧ Below w.heap.size w w' := by
  have HL := Lib.hid (p_checkList m A n c hn kinds MM w ha (by omega))
  clear ha hn
  go_enter Try.func18, Try.ntmps18
  go_wp2_with fail
  refine HL.out.mono ?_
  rintro e w1 ⟨rfl, hb⟩
  have B1 := Lib.hid hb
  clear hb
  go_wp2_with fail
  go_ret
  exact ⟨rfl, B1.out⟩

set_option maxHeartbeats 800000 in
theorem fibre_Total (m : List Int) (A : Option Addr) (n c : Nat) (hn : n = m.length) (w : World) (ha : Cl eI w A m) (hm : n ≤ 1000000) :
    Calls Try.prog 22 #[.slice A n c] w fun e w' => e = .returned (.tuple #[.int .i64 (totV m), .int .i64 (totE m)]) ∧ Below w.heap.size w w' := by
  have HA := Lib.hid ha
  have HP := Lib.hid (fibre_Parts m A n c hn n w ha hm)
  have hlen : lenI m = (n : Int) := by unfold lenI; rw [hn]
  obtain ⟨F, hF⟩ : ∃ F, totE m = F := ⟨_, rfl⟩
  have hF2 : parE m (n : Int) = F := by rw [← hF]; unfold totE; rw [hlen]
  rw [hF2] at HP
  rw [hF]
  by_cases hz : F = 0
  rotate_left
  · obtain ⟨z1, z2⟩ := ne_zero hz
    have he : totV m = 0 := by unfold totV; rw [hF, if_neg hz]
    rw [he]
    clear ha hn hF hF2 hz he hlen
    go_enter Try.func22, Try.ntmps22
    go_wp2_with fail
    refine HP.out.mono ?_
    rintro e w1 ⟨rfl, hb⟩
    have B1 := Lib.hid hb
    clear hb
    go_wp2_with fail
    go_ret2
    exact ⟨rfl, B1.out⟩
  subst hz
  obtain ⟨h1, h2, h3, h4⟩ := lisE_of hF2
  have HS := Lib.hid fun (W : World) (h : Cl eI W A m) => p_sum m A n c hn W h (by omega) h4
  have he : totV m = sumZ m := by unfold totV; rw [hF, if_pos rfl]
  rw [he]
  obtain ⟨S, hS⟩ : ∃ S, sumZ m = S := ⟨_, rfl⟩
  rw [hS] at HS
  rw [hS]
  clear ha hn hF hF2 h1 h2 h3 h4 hS he hlen
  go_enter Try.func22, Try.ntmps22
  go_wp2_with fail
  refine HP.out.mono ?_
  rintro e w1 ⟨rfl, hb⟩
  have B1 := Lib.hid hb
  clear hb
  go_wp2_with fail
  refine (HS.out w1 (HA.out.on B1.out)).mono ?_
  rintro e w2 ⟨rfl, hb⟩
  have B2 := Lib.hid (bstep B1.out hb)
  clear hb
  go_wp2_with fail
  go_ret2
  exact ⟨rfl, B2.out⟩

/-! ### Masses -/
theorem errS_rec {r : List Int} {mass : Int} (hr : recE r (lenI r) = 0) (hm : 0 ≤ mass ∧ mass ≤ MM) : errS mass r = 0 := by
  have hM : MM = 1099511627776 := rfl
  obtain ⟨h4, h5⟩ := recE_of hr
  obtain ⟨h6, h7, -, h8⟩ := lisE_of h4
  have hI : ∀ {z : Int}, 0 ≤ z → z ≤ mx → inW z = true := fun h1 h2 => by unfold inW; simp [h1, h2]
  have hk : sumK r r.length = 1000 := h5
  unfold errS
  rw [if_neg (by rw [hI hm.1 (by rw [mx_is]; omega)]; decide), if_neg (by omega), if_neg (by omega), if_neg, if_neg (by rw [hk, mx_is]; omega), if_neg (by rw [hk]; omega)]
  intro h
  rw [List.all_eq_false] at h
  obtain ⟨z, hz, h9⟩ := h
  exact h9 (hI (h8 z hz).1 (by have := (h8 z hz).2; rw [mx_is]; omega))
set_option maxHeartbeats 800000 in
theorem fibre_Masses (r : List Int) (A : Option Addr) (n c : Nat) (hn : n = r.length) (mass : Int) (w : World) (ha : Cl eI w A r) (hm : n ≤ 1000000) :
    Calls Try.prog 20 #[.slice A n c, .int .i64 mass] w (ResM (masL r mass) (masE r mass) w) := by
  have HA := Lib.hid ha
  have hlen : lenI r = (n : Int) := by unfold lenI; rw [hn]
  have HR := Lib.hid (fibre_Recipe r A n c hn n w ha hm)
  obtain ⟨F, hF⟩ : ∃ F, recE r (lenI r) = F := ⟨_, rfl⟩
  have hF2 : recE r (n : Int) = F := by rw [← hlen]; exact hF
  rw [hF2] at HR
  by_cases hz : F = 0
  rotate_left
  · obtain ⟨z1, z2⟩ := ne_zero hz
    obtain ⟨e1, e2⟩ := masE_rec (mass := mass) (by rw [hF]; exact hz)
    rw [e1, e2, hF]
    clear ha hn hF hF2 hz hlen e1 e2
    go_enter Try.func20, Try.ntmps20
    go_wp2_with fail
    refine HR.out.mono ?_
    rintro e w1 ⟨rfl, hb⟩
    have B1 := Lib.hid hb
    clear hb
    go_wp2_with fail
    go_ret2
    exact ResM.none_ B1.out
  subst hz
  have HC := Lib.hid fun W => p_checkNumber mass MM W
  cases hi : inM MM mass with
  | false =>
    obtain ⟨e1, e2⟩ := masE_mass (mass := mass) hF hi
    rw [e1, e2]
    rw [nuE_bad hi] at HC
    clear ha hn hF hF2 hlen e1 e2 hi
    go_enter Try.func20, Try.ntmps20
    go_wp2_with fail
    refine HR.out.mono ?_
    rintro e w1 ⟨rfl, hb⟩
    have B1 := Lib.hid hb
    clear hb
    go_wp2_with fail
    refine (HC.out _).mono ?_
    rintro e w2 ⟨rfl, rfl⟩
    go_wp2_with fail
    go_ret2
    exact ResM.none_ B1.out
  | true =>
    obtain ⟨e1, e2, hp⟩ := masE_ok (mass := mass) hF hi
    have hS := errS_rec hF (inM_iff.mp hi)
    have HS := Lib.hid fun (W : World) (h : Cl eI W A r) => split_n mass r n hn.symm A c W h (by omega)
    rw [hS, show splL mass r = partsL mass r from if_pos hS] at HS
    rw [e1, e2]
    rw [nuE_ok hi] at HC
    clear ha hn hF hF2 hlen e1 e2 hi hp hS
    go_enter Try.func20, Try.ntmps20
    go_wp2_with fail
    refine HR.out.mono ?_
    rintro e w1 ⟨rfl, hb⟩
    have B1 := Lib.hid hb
    clear hb
    go_wp2_with fail
    refine (HC.out _).mono ?_
    rintro e w2 ⟨rfl, rfl⟩
    go_wp2_with fail
    refine (HS.out w1 (HA.out.on B1.out)).mono ?_
    rintro e w2 ⟨v, rfl, ho, hb⟩
    have HO := Lib.hid (ho.less B1.out.size)
    have B2 := Lib.hid (bstep B1.out hb)
    clear ho hb
    go_wp2_with fail
    go_ret2
    exact ⟨v, rfl, HO.out, B2.out⟩
end Go.Proofs.Ytgomokdklajlcaa.Fibre
/- The program: Add. -/
namespace Go.Proofs.Ytgomokdklajlcaa.Fibre
open Go.ChangeShapes Go.WideShapes Go.RowKit Go.Lib
open Go.Proofs.Ytgomokdklajlcaa.Mem (Cl eI Own make_ints own_made)
open Go.Proofs.Ytgomokdklajlcaa.Rw (glt get_lt ret_bool ret_int wrap_id bstep below_drewN below_drew drew_below below_alloc take_snoc_of)
set_option linter.unusedVariables false
set_option maxRecDepth 100000

/-- The first k of a list, and zeros behind them. -/
def upA (L : List Int) (k n : Nat) : List Int := L.take k ++ List.replicate (n - k) 0
theorem upA_len {L : List Int} {k n : Nat} (h : L.length = n) (hk : k ≤ n) : (upA L k n).length = n := by
  unfold upA; rw [List.length_append, List.length_take, List.length_replicate]; omega
theorem upA_set {L : List Int} {k n : Nat} {z : Int} (h : L.length = n) (hk : k < n) (hz : L[k]? = some z) : (upA L k n).set k z = upA L (k + 1) n := by
  unfold upA
  have hl : (L.take k).length = k := by rw [List.length_take]; omega
  obtain ⟨m, hm⟩ : ∃ m, n - k = m + 1 := ⟨n - k - 1, by omega⟩
  rw [hm, List.set_append_right _ _ (by omega), hl, Nat.sub_self, List.replicate_succ, List.set_cons_zero, take_snoc_of hz, List.append_assoc, show n - (k + 1) = m by omega]
  rfl
theorem upA_all {L : List Int} {n : Nat} (h : L.length = n) : upA L n n = L := by
  unfold upA; rw [Nat.sub_self, List.take_of_length_le (by omega)]; simp
set_option maxHeartbeats 1600000 in
theorem fibre_Add (a b : List Int) (A B : Option Addr) (n m c d : Nat) (hn : n = a.length) (hn' : m = b.length) (w : World) (ha : Cl eI w A a) (hb : Cl eI w B b) (hm : n ≤ 1000000) (hm2 : m ≤ 1000000) :
    Calls Try.prog 25 #[.slice A n c, .slice B m d] w (ResM (addL a b) (addE a b) w) := by
  have HA := Lib.hid ha
  have HB := Lib.hid hb
  by_cases hl : n = m
  rotate_left
  · have d1 : ((n : Int) != (m : Int)) = true := by simp; omega
    have d2 : ((n : Int) == (m : Int)) = false := beq_false_of_ne (by omega)
    obtain ⟨e1, e2⟩ := addE_len (a := a) (b := b) (by omega)
    rw [e1, e2]
    clear ha hb hn hn' hl e1 e2
    go_enter Try.func25, Try.ntmps25
    go_wp2_with fail
    go_ret2
    exact ResM.none_ (Below.refl _ _)
  subst hl
  have hab : a.length = b.length := by omega
  have d1 : ((n : Int) != (n : Int)) = false := by simp
  have d2 : ((n : Int) == (n : Int)) = true := by simp
  have la : lenI a = (n : Int) := by unfold lenI; rw [hn]
  have lb : lenI b = (n : Int) := by unfold lenI; rw [hn']
  have HPa := Lib.hid fun (W : World) (h : Cl eI W A a) => fibre_Parts a A n c hn n W h hm
  have HPb := Lib.hid fun (W : World) (h : Cl eI W B b) => fibre_Parts b B n d hn' n W h hm
  obtain ⟨F, hF⟩ : ∃ F, totE a = F := ⟨_, rfl⟩
  obtain ⟨G, hG⟩ : ∃ G, totE b = G := ⟨_, rfl⟩
  have hF2 : parE a (n : Int) = F := by rw [← hF]; unfold totE; rw [la]
  have hG2 : parE b (n : Int) = G := by rw [← hG]; unfold totE; rw [lb]
  rw [hF2] at HPa
  rw [hG2] at HPb
  by_cases hz : F = 0
  rotate_left
  · obtain ⟨z1, z2⟩ := ne_zero hz
    obtain ⟨e1, e2⟩ := addE_a hab (by rw [hF]; exact hz)
    rw [e1, e2, hF]
    clear ha hb hn hn' hab la lb hF hG hF2 hG2 hz e1 e2
    go_enter Try.func25, Try.ntmps25
    go_wp2_with fail
    refine (HPa.out w HA.out).mono ?_
    rintro e w1 ⟨rfl, hb⟩
    have B1 := Lib.hid hb
    clear hb
    go_wp2_with fail
    go_ret2
    exact ResM.none_ B1.out
  subst hz
  by_cases hz : G = 0
  rotate_left
  · obtain ⟨z1, z2⟩ := ne_zero hz
    obtain ⟨e1, e2⟩ := addE_b hab hF (by rw [hG]; exact hz)
    rw [e1, e2, hG]
    clear ha hb hn hn' hab la lb hF hG hF2 hG2 hz e1 e2
    go_enter Try.func25, Try.ntmps25
    go_wp2_with fail
    refine (HPa.out w HA.out).mono ?_
    rintro e w1 ⟨rfl, hb⟩
    have B1 := Lib.hid hb
    clear hb
    go_wp2_with fail
    refine (HPb.out w1 (HB.out.on B1.out)).mono ?_
    rintro e w2 ⟨rfl, hb⟩
    have B2 := Lib.hid (bstep B1.out hb)
    clear hb
    go_wp2_with fail
    go_ret2
    exact ResM.none_ B2.out
  subst hz
  obtain ⟨h1, h8, -, hal⟩ := lisE_of hF2
  obtain ⟨-, -, -, hbl⟩ := lisE_of hG2
  have HFG := Lib.hid (And.intro hab (And.intro hF hG))
  have HAl := Lib.hid hal
  have HBl := Lib.hid hbl
  have HN := Lib.hid (And.intro hn hn')
  have hn8 : n ≤ 8 := by omega
  have HLn : Hid ((addZ a b).length = n) := Lib.hid (by rw [addZ_len hab, hn])
  have hmk := fun W => make_ints n (by omega) W
  obtain ⟨E, hE⟩ : ∃ E, addE a b = E := ⟨_, rfl⟩
  obtain ⟨L, hL⟩ : ∃ L, addL a b = L := ⟨_, rfl⟩
  have HE := Lib.hid hE
  have HL := Lib.hid hL
  rw [hE, hL]
  clear ha hb hn hn' hab la lb hF hG hF2 hG2 h1 h8 hal hbl hE hL
  go_enter Try.func25, Try.ntmps25
  go_wp2_with fail
  refine (HPa.out w HA.out).mono ?_
  rintro e w1 ⟨rfl, hb⟩
  have B1 := Lib.hid hb
  clear hb
  go_wp2_with fail
  refine (HPb.out w1 (HB.out.on B1.out)).mono ?_
  rintro e w2 ⟨rfl, hb⟩
  have B2 := Lib.hid (bstep B1.out hb)
  clear hb
  go_upto_region 10 with fail
  have HM1 := Lib.hid (own_made eI 3 w2 n (0 : Int) (by omega))
  obtain ⟨w3, hw3⟩ : ∃ W, w2.alloc (.cells (madeCells #[.int .i64 0] n) 3) = W := ⟨_, rfl⟩
  obtain ⟨g, hg⟩ : ∃ g, w2.heap.size = g := ⟨_, rfl⟩
  have HO3 : Hid (Own eI 3 w.heap.size w3 (.slice (some ⟨g, 0, none⟩) n n) (upA (addZ a b) 0 n)) := Lib.hid (by
    rw [← hw3, ← hg]
    exact HM1.out.less B2.out.size)
  have HG3 : Hid (w.heap.size ≤ g) := Lib.hid (by rw [← hg]; exact B2.out.size)
  have B3 : Hid (Below w.heap.size w w3) := Lib.hid (by rw [← hw3]; exact bstep B2.out (below_alloc _ _))
  rw [hw3, hg]
  clear hw3 hg hmk HM1 B1 B2
  go_wp2_with fail
  go_loopw [34, 9] (fun i _ wr => ∃ k : Nat, k ≤ n ∧ i = .int .i64 k ∧ Own eI 3 w.heap.size wr (.slice (some ⟨g, 0, none⟩) n n) (upA (addZ a b) k n) ∧ (∀ (j : Nat) (x y : Int), j < k → a[j]? = some x → b[j]? = some y → x + y ≤ MM) ∧ Below w.heap.size w wr) (fun i _ _ => n - (RowKit.intOf i).toNat)
  case atStart => exact ⟨0, Nat.zero_le _, rfl, HO3.out, fun j x y h => absurd h (by omega), B3.out⟩
  case round =>
    obtain ⟨k, hk, rfl, hrow, hv, hbel⟩ := hrel
    have HR := Lib.hid hrow
    have HW := Lib.hid hbel
    have HV := Lib.hid hv
    clear hrow hbel hv
    rcases Nat.lt_or_ge k n with hlt | hge
    · obtain ⟨x, hx⟩ := get_lt (L := a) (k := k) (by have := HN.out.1; omega)
      obtain ⟨y, hy⟩ := get_lt (L := b) (k := k) (by have := HN.out.2; omega)
      obtain ⟨b1, o1, hA0, hb1, h0⟩ := cl_at HA.out hx
      obtain ⟨b2, o2, hB0, hb2, h3⟩ := cl_at HB.out hy
      subst hA0
      subst hB0
      have x0 : wr.cell? ⟨b1, o1 + k, none⟩ = some (.int .i64 x) := (HW.out.cell (p := ⟨b1, o1 + k, none⟩) hb1).trans h0
      have y0 : wr.cell? ⟨b2, o2 + k, none⟩ = some (.int .i64 y) := (HW.out.cell (p := ⟨b2, o2 + k, none⟩) hb2).trans h3
      have HX := Lib.hid hx
      have HY := Lib.hid hy
      have hxl := HAl.out x (List.mem_of_getElem? hx)
      have hyl := HBl.out y (List.mem_of_getElem? hy)
      have hM : MM = 1099511627776 := rfl
      have i1 : (k : Int) < (n : Int) := by omega
      have i2 : (0 : Int) ≤ (k : Int) := by omega
      obtain ⟨s, hs⟩ : ∃ s, x + y = s := ⟨_, rfl⟩
      have ws : IntKind.i64.wrap s = s := wrap_id (by omega)
      have HS := Lib.hid hs
      have HSt : Hid ((upA (addZ a b) k n).set k s = upA (addZ a b) (k + 1) n) := Lib.hid (by rw [← hs]; exact upA_set HLn.out hlt (addZ_at hx hy))
      have hul : (upA (addZ a b) k n).length = n := upA_len HLn.out hk
      obtain ⟨u, hu⟩ := get_lt (L := upA (addZ a b) k n) (k := k) (by omega)
      have f1 : wr.cell? ⟨g, k, none⟩ = some (.int .i64 u) := HR.out.cell hu
      have f3 := HR.out.warm hul.symm k
      have HO2 := Lib.hid (HR.out.drew.set hul.symm k s)
      have HW2 := Lib.hid ((below_drew HW.out).setCell (p := ⟨g, k, none⟩) HG3.out (.int .i64 s))
      have f4 : (wr.setCell ⟨g, k, none⟩ (.int .i64 s)).drew.cell? ⟨g, k, none⟩ = some (.int .i64 s) := World.cell?_setCell_same wr _ _ f1
      have f5 : (wr.drew.setCell ⟨g, k, none⟩ (.int .i64 s)).cell? ⟨g, k, none⟩ = some (.int .i64 s) := f4
      clear hx hy h0 h3 hxl hyl hM hb1 hb2 hul hu
      rcases Int.lt_or_le 1099511627776 s with hg | hg
      · have t0 : decide (1099511627776 < s) = true := decide_eq_true hg
        obtain ⟨e1, e2⟩ := addE_big HFG.out.1 HFG.out.2.1 HFG.out.2.2 HX.out HY.out (by rw [HS.out]; exact hg)
        obtain rfl : E = 2 := by rw [← HE.out]; exact e1
        obtain rfl : L = [] := by rw [← HL.out]; exact e2
        clear hg e1 e2
        go_wp2_with fail
        go_still_tail 11, (by kernel_rfl)
        change wpList _ _ _ _ _ wr.drew
        have f1' : wr.drew.cell? ⟨g, k, none⟩ = some (.int .i64 u) := f1
        have f3' : wr.drew.frozen? ⟨g, k, none⟩ = false := f3
        clear f1 f3 x0 y0
        go_wp2_with fail
        go_ret2
        exact ResM.none_ HW2.out
      have t0 : decide (1099511627776 < s) = false := decide_eq_false (by omega)
      have HG := Lib.hid (show s ≤ MM from hg)
      have HVn : Hid (∀ (j : Nat) (x y : Int), j < k + 1 → a[j]? = some x → b[j]? = some y → x + y ≤ MM) := Lib.hid (by
        intro j u v hj hu hv
        rcases Nat.lt_or_eq_of_le (Nat.le_of_lt_succ hj) with h | h
        · exact HV.out j u v h hu hv
        · subst h
          have e1 := HX.out
          have e2 := HY.out
          rw [hu] at e1; rw [hv] at e2; cases e1; cases e2
          rw [HS.out]; exact HG.out)
      clear hg
      go_wp2_with fail
      go_still_tail 11, (by kernel_rfl)
      change wpList _ _ _ _ _ wr.drew
      have f1' : wr.drew.cell? ⟨g, k, none⟩ = some (.int .i64 u) := f1
      have f3' : wr.drew.frozen? ⟨g, k, none⟩ = false := f3
      clear f1 f3 x0 y0
      go_wp2_with fail
      go_roundw
      case rel => exact ⟨k + 1, by omega, by go_num, HSt.out ▸ HO2.out, HVn.out, HW2.out⟩
      case measure => simp [RowKit.intOf]; omega
    · obtain rfl : k = n := by omega
      obtain ⟨e1, e2⟩ := addE_ok HFG.out.1 HFG.out.2.1 HFG.out.2.2 fun j x y hx hy => HV.out j x y (by have := glt hx; have := HN.out.1; omega) hx hy
      obtain rfl : E = 0 := by rw [← HE.out]; exact e1
      have HO : Hid (Own eI 3 w.heap.size wr (.slice (some ⟨g, 0, none⟩) k k) L) := Lib.hid (by
        have h1 := HR.out
        rw [upA_all HLn.out, ← e2, HL.out] at h1
        exact h1)
      clear e1 e2
      go_wp2_with fail
      go_ret2
      exact ⟨_, rfl, HO.out, HW.out⟩
end Go.Proofs.Ytgomokdklajlcaa.Fibre
