/- Several texts in one: PipeY, PipeW, PipeX, PipeZ. -/
import Derived.Test.YtihklpkpcnahkaaPk16
import Derived.Test.YtihklpkpcnahkaaPk10
import Derived.Laws.CopyOwn
import Derived.Test.YtihklpkpcnahkaaPk11
/- The program: weigh. -/
namespace Go.Proofs.Ytihklpkpcnahkaa.Pipe
open Go.ChangeShapes Go.WideShapes Go.RowKit Go.Lib
open Go.Proofs.Ytihklpkpcnahkaa.Mem (Cl eI Own)
open Go.Proofs.Ytihklpkpcnahkaa.Vec (sumZ sumZ_nonneg)
open Go.Proofs.Ytihklpkpcnahkaa.Fibre (MM)
open Go.Proofs.Ytihklpkpcnahkaa.Rw (glt get_lt ret_bool ret_int bstep below_drewN below_drew drew_below below_alloc take_snoc_of)
set_option linter.unusedVariables false
set_option maxRecDepth 100000

theorem wgh_lim : ∀ {P : List (List Int)}, (∀ l ∈ P, 0 ≤ sumZ l ∧ sumZ l ≤ 8796093022208) → 0 ≤ tot P ∧ tot P ≤ (P.length : Int) * 8796093022208
  | [], _ => by simp [tot]
  | l :: P, h => by
    have h1 := h l (List.mem_cons_self ..)
    have h2 := wgh_lim (P := P) fun x hx => h x (List.mem_cons_of_mem _ hx)
    rw [tot, List.length_cons]
    have e : ((P.length + 1 : Nat) : Int) * 8796093022208 = (P.length : Int) * 8796093022208 + 8796093022208 := by omega
    omega
theorem par_lim {kinds : Int} {l : List Int} (h : Fibre.parE l kinds = 0) : (l.length : Int) = kinds ∧ Fibre.totE l = 0 ∧ Fibre.totV l = sumZ l ∧ 0 ≤ sumZ l ∧ sumZ l ≤ 8796093022208 := by
  obtain ⟨h2, h3, h4, h5⟩ := Fibre.lisE_of h
  have e : Fibre.totE l = 0 := by
    show Fibre.parE l (l.length : Int) = 0
    rw [h4]; exact h
  have h6 := Fibre.sumZ_lim (by decide) h5 (by omega)
  have hM : MM = 1099511627776 := rfl
  rw [hM] at h6
  exact ⟨h4, e, if_pos e, h6.1, by have := h6.2; show Fibre.sumZ l ≤ _; omega⟩
theorem take_tot {P : List (List Int)} {k : Nat} {l : List Int} (h : P[k]? = some l) : tot (P.take (k + 1)) = tot (P.take k) + sumZ l := by
  rw [take_snoc_of h, tot_append, tot, tot, Int.add_zero]
def wgV (P : List (List Int)) : Int := if fsE (kin P : Int) P = 0 then tot P else 0
theorem wgV_no {P : List (List Int)} (h : ¬ fsE (kin P : Int) P = 0) : wgV P = 0 := if_neg h
theorem wgV_ok {P : List (List Int)} (h : fsE (kin P : Int) P = 0) : wgV P = tot P := if_pos h
/-- Sums of the first plugs. -/
theorem take_lim {kinds : Int} {P : List (List Int)} {k : Nat} (h : ∀ (j : Nat) (u : List Int), j < k → P[j]? = some u → plE kinds u = 0) (hk : k ≤ 256) : 0 ≤ tot (P.take k) ∧ tot (P.take k) ≤ 2251799813685248 := by
  have h1 := wgh_lim (P := P.take k) fun l hl => by
    obtain ⟨j, hj⟩ := List.mem_iff_getElem?.mp hl
    rw [List.getElem?_take] at hj
    split at hj
    · rename_i hjk
      have h2 := h j l hjk hj
      by_cases hp : Fibre.parE l kinds = 0
      · exact ⟨(par_lim hp).2.2.2.1, (par_lim hp).2.2.2.2⟩
      · rw [plE_par hp] at h2; exact absurd h2 hp
    · cases hj
  have h3 : (P.take k).length ≤ 256 := by rw [List.length_take]; omega
  have h4 : ((P.take k).length : Int) * 8796093022208 ≤ 2251799813685248 := by omega
  exact ⟨h1.1, by omega⟩
set_option maxHeartbeats 3200000 in
theorem p_weigh (P : List (List Int)) (A : Option Addr) (n c : Nat) (hn : P.length = n) (h1 : 1 ≤ n) (h256 : n ≤ 256) (w : World) (ha : Pls w A P) :
    Calls Try.prog 26 #[.slice A n c] w fun e w' => e = .returned (.tuple #[.int .i64 (wgV P), .int .i64 (fsE (kin P : Int) P)]) ∧ Below w.heap.size w w' := by
  have HA := Lib.hid ha
  have HN := Lib.hid hn
  have H1 := Lib.hid h1
  have H2 := Lib.hid h256
  obtain ⟨E, hE⟩ : ∃ E, fsE (kin P : Int) P = E := ⟨_, rfl⟩
  obtain ⟨V, hV⟩ : ∃ V, wgV P = V := ⟨_, rfl⟩
  rw [hE, hV]
  have HE := Lib.hid (And.intro hE hV)
  obtain ⟨l0, hl0⟩ := get_lt (L := P) (k := 0) (by omega)
  have hk0 : P.headD [] = l0 := by
    have := kin_at (P := P) (by omega)
    rw [hl0] at this
    exact (Option.some.inj this).symm
  obtain ⟨m0, hm0⟩ : ∃ x, l0.length = x := ⟨_, rfl⟩
  have HK : Hid (kin P = m0) := Lib.hid (by unfold kin; rw [hk0]; exact hm0)
  have HL0 := Lib.hid (And.intro hl0 hm0)
  clear hl0 hk0 hm0 ha hn h1 h256 hE hV
  go_enter Try.func26, Try.ntmps26
  go_wp2_with fail
  go_loopw [12, 4, 6, 7, 8, 9] (fun i s _ _ _ _ wr => ∃ k : Nat, k ≤ n ∧ i = .int .i64 k ∧ s = .int .i64 (tot (P.take k)) ∧ (∀ (j : Nat) (u : List Int), j < k → P[j]? = some u → plE (kin P : Int) u = 0) ∧ Below w.heap.size w wr) (fun i _ _ _ _ _ _ => n - (RowKit.intOf i).toNat)
  case atStart => exact ⟨0, Nat.zero_le _, rfl, rfl, fun j u h => absurd h (by omega), Below.refl _ _⟩
  case round =>
    obtain ⟨k, hk, rfl, rfl, hall, hbel⟩ := hrel
    have HG := Lib.hid hall
    have HB := Lib.hid hbel
    clear hall hbel
    have HS := Lib.hid (take_lim HG.out (by have := H2.out; omega))
    rcases Nat.lt_or_ge k n with hlt | hge
    · obtain ⟨l, hl⟩ := get_lt (L := P) (k := k) (by have := HN.out; omega)
      obtain ⟨b, off, A1, n1, c1, rfl, hb, e0, hl1, hcl, hm1⟩ := pls_at (HA.out.on HB.out) hl
      obtain ⟨b', off', A2, n2, c2, e', hb', e1, hl2, -, -⟩ := pls_at (HA.out.on HB.out) HL0.out.1
      cases e'
      obtain rfl : n2 = m0 := by rw [← hl2]; exact HL0.out.2
      have KP := Lib.hid (p_Parts l A1 n1 c1 hl1.symm n2 wr hcl hm1)
      have KT := Lib.hid fun (W : World) (h : Cl eI W A1 l) => p_Total l A1 n1 c1 hl1.symm W h hm1
      obtain ⟨G, hG⟩ : ∃ x, Fibre.parE l (n2 : Int) = x := ⟨_, rfl⟩
      rw [hG] at KP
      have HGG := Lib.hid hG
      have HLK := Lib.hid hl
      have HCL := Lib.hid hcl
      have HT := Lib.hid (take_tot hl)
      obtain ⟨T, hT⟩ : ∃ T, tot (P.take k) = T := ⟨_, rfl⟩
      rw [hT] at HT HS ⊢
      have i1 : (k : Int) < (n : Int) := by omega
      have i2 : (0 : Int) ≤ (k : Int) := by omega
      have i3 : (0 : Int) < (n : Int) := by omega
      have i4 : 0 < n := by omega
      have hk1 : IntKind.i64.wrap ((k : Int) + 1) = ((k + 1 : Nat) : Int) := Rw.wrap_id (by have := H2.out; omega)
      rw [Nat.add_zero] at e1
      clear hl hl1 hcl hm1 hb hb' hG hl2 hT
      go_wp2_with fail
      refine KP.out.mono ?_
      rintro e w2 ⟨rfl, hb⟩
      have B2 := Lib.hid (bstep HB.out hb)
      have C2 := Lib.hid (HCL.out.on hb)
      clear hb e0 e1
      by_cases hz : G = 0
      rotate_left
      · obtain ⟨z1, z2⟩ := nz hz
        have hp := plE_par (kinds := (n2 : Int)) (l := l) (by rw [HGG.out]; exact hz)
        have hb : ¬ plE (kin P : Int) l = 0 := by rw [HK.out, hp, HGG.out]; exact hz
        have hf := fsE_bad HLK.out hb HG.out
        obtain rfl : E = G := by rw [← HE.out.1, hf, HK.out, hp, HGG.out]
        obtain rfl : V = 0 := by rw [← HE.out.2]; exact wgV_no (by rw [HE.out.1]; exact hz)
        clear hz hp hb hf
        go_wp2_with fail
        go_ret2
        exact ⟨rfl, B2.out⟩
      subst hz
      obtain ⟨q1, q2, q3, q4, q5⟩ := par_lim HGG.out
      have KT2 := Lib.hid (KT.out w2 C2.out)
      rw [q2, q3] at KT2
      obtain ⟨S, hS⟩ : ∃ S, sumZ l = S := ⟨_, rfl⟩
      rw [hS] at KT2 HT q4 q5
      have HSS := Lib.hid (And.intro hS (And.intro q4 q5))
      clear q1 q2 q3 q4 q5 hS
      go_wp2_with fail
      refine KT2.out.mono ?_
      rintro e w3 ⟨rfl, hb⟩
      have B3 := Lib.hid (bstep B2.out hb)
      clear hb
      by_cases hz : S = 0
      · subst hz
        have hp := plE_nil HGG.out HSS.out.1
        have hb : ¬ plE (kin P : Int) l = 0 := by rw [HK.out, hp]; decide
        have hf := fsE_bad HLK.out hb HG.out
        obtain rfl : E = 10 := by rw [← HE.out.1, hf, HK.out, hp]
        obtain rfl : V = 0 := by rw [← HE.out.2]; exact wgV_no (by rw [HE.out.1]; decide)
        clear hp hb hf
        go_wp2_with fail
        go_ret2
        exact ⟨rfl, B3.out⟩
      obtain ⟨z1, -⟩ := nz hz
      have HP := Lib.hid (plE_ok HGG.out (by rw [HSS.out.1]; exact hz))
      have wt : IntKind.i64.wrap (T + S) = T + S := Rw.wrap_id (by have := HS.out; have := HSS.out; omega)
      clear hz
      go_wp2_with fail
      go_roundw
      case rel =>
        refine ⟨k + 1, by omega, by go_num, by rw [HT.out], fun j u hj hu => ?_, B3.out⟩
        rcases Nat.lt_or_ge j k with h5 | h5
        · exact HG.out j u h5 hu
        · obtain rfl : j = k := by omega
          rw [HLK.out] at hu
          cases hu
          rw [HK.out]; exact HP.out
      case measure => simp [RowKit.intOf]; omega
    · obtain rfl : n = k := by omega
      have hf : fsE (kin P : Int) P = 0 := fsE_ok fun j u hu => HG.out j u (by have := glt hu; have := HN.out; omega) hu
      obtain rfl : E = 0 := by rw [← HE.out.1]; exact hf
      obtain rfl : V = tot (P.take n) := by rw [← HE.out.2, wgV_ok hf, List.take_of_length_le (by rw [HN.out]; exact Nat.le_refl _)]
      clear hf
      go_wp2_with fail
      go_ret2
      exact ⟨rfl, HB.out⟩
end Go.Proofs.Ytihklpkpcnahkaa.Pipe
/- The program: copied. -/
namespace Go.Proofs.Ytihklpkpcnahkaa.Pipe
open Go.ChangeShapes Go.WideShapes Go.RowKit Go.Lib
open Go.Proofs.Ytihklpkpcnahkaa.Mem (Cl eI Own make_ints own_made)
open Go.Proofs.Ytihklpkpcnahkaa.Rw (Rd Kd Row Off glt get_lt bstep below_alloc take_snoc_of)
set_option linter.unusedVariables false
set_option maxRecDepth 100000

/-- Slices that lie one behind the other, each in a block of its own. -/
def rwsF : Nat → List (List Int) → List Sr
  | _, [] => []
  | s, l :: P => (some ⟨s, 0, none⟩, l.length, l.length) :: rwsF (s + 1) P
theorem rws_len : ∀ (s : Nat) (P : List (List Int)), (rwsF s P).length = P.length
  | _, [] => rfl
  | s, l :: P => by rw [rwsF, List.length_cons, List.length_cons, rws_len (s + 1) P]
theorem rws_at : ∀ {P : List (List Int)} {s k : Nat} {l : List Int}, P[k]? = some l → (rwsF s P)[k]? = some (some ⟨s + k, 0, none⟩, l.length, l.length)
  | [], _, _, _, h => by simp at h
  | u :: P, s, 0, l, h => by simp at h; subst h; rfl
  | u :: P, s, k + 1, l, h => by
    rw [List.getElem?_cons_succ] at h
    rw [rwsF, List.getElem?_cons_succ, rws_at h, Nat.add_right_comm, Nat.add_assoc]
theorem rws_snoc : ∀ (s : Nat) (P : List (List Int)) (l : List Int), rwsF s (P ++ [l]) = rwsF s P ++ [(some ⟨s + P.length, 0, none⟩, l.length, l.length)]
  | _, [], _ => rfl
  | s, u :: P, l => by
    rw [List.cons_append, rwsF, rwsF, rws_snoc (s + 1) P l, List.length_cons, List.cons_append]
    rw [show s + 1 + P.length = s + (P.length + 1) by omega]
/-- The slices of k copies, and empty ones. -/
def rwsK (s : Nat) (P : List (List Int)) (k : Nat) : List Sr := rwsF s (P.take k) ++ List.replicate (P.length - k) (none, 0, 0)
theorem rwsK_len {s k : Nat} {P : List (List Int)} (hk : k ≤ P.length) : (rwsK s P k).length = P.length := by
  unfold rwsK
  rw [List.length_append, rws_len, List.length_take, List.length_replicate]; omega
theorem rwsK_zero (s : Nat) (P : List (List Int)) : rwsK s P 0 = List.replicate P.length (none, 0, 0) := by
  unfold rwsK; rw [List.take_zero, Nat.sub_zero]; rfl
theorem rwsK_at {s k : Nat} {P : List (List Int)} (hk : k < P.length) : (rwsK s P k)[k]? = some (none, 0, 0) := by
  unfold rwsK
  rw [List.getElem?_append_right (by rw [rws_len, List.length_take]; omega), rws_len, List.length_take, Nat.min_eq_left (by omega), Nat.sub_self, List.getElem?_replicate, if_pos (by omega)]
theorem rwsK_set {s k : Nat} {P : List (List Int)} {l : List Int} (hl : P[k]? = some l) : (rwsK s P k).set k (some ⟨s + k, 0, none⟩, l.length, l.length) = rwsK s P (k + 1) := by
  have hk := glt hl
  unfold rwsK
  have ht : (P.take k).length = k := by rw [List.length_take]; omega
  have e : P.length - k = (P.length - (k + 1)) + 1 := by omega
  rw [take_snoc_of hl, rws_snoc, ht, List.set_append_right _ _ (by rw [rws_len, ht]; exact Nat.le_refl _), rws_len, ht, Nat.sub_self, e, List.replicate_succ, List.set_cons_zero, List.append_assoc]
  rfl
theorem rwsK_all (s : Nat) (P : List (List Int)) : rwsK s P P.length = rwsF s P := by
  unfold rwsK
  rw [List.take_length, Nat.sub_self]
  exact List.append_nil _
abbrev eS : Sr → Value := sr
theorem flat_cP : ∀ R : List Sr, R.flatMap cP = R.map eS
  | [] => rfl
  | r :: R => by rw [List.flatMap_cons, List.map_cons, flat_cP R]; rfl
theorem row_own {B : Nat} {w : World} {v : Value} {R : List Sr} (h : Own eS 29 B w v R) : Rw.Row cP 1 29 B w v R := by
  unfold Rw.Row
  rw [flat_cP]
  exact h
theorem make_rows (n : Nat) (hn : n ≤ 100000) (W : World) :
    (Instr.makeSlice 22 (.int .i64 (n : Int)) (.int .i64 (n : Int))).run Try.prog W = .ok (.slice (some ⟨W.heap.size, 0, none⟩) n n) (W.alloc (.cells (madeCells #[.slice none 0 0] n) 29)) := by
  obtain ⟨i, hi, hz, hs, hb⟩ := info_part info_s
  have h := run_make (P := Try.prog) (w := W) 22 29 i _ Try.underlying22 hi hz .i64 .i64 (n : Int) (n : Int) (by omega) (by omega) (by rw [hb]; omega) (by omega)
  rw [hs, Int.toNat_natCast, Nat.mul_one] at h
  exact h
theorem own_cells {w : World} {g n B : Nat} {L : List Int} {t : TypeId} (hg : w.heap[g]? = some (.cells (L.map eI).toArray t (0, 0))) (hB : B ≤ g) (hn : L.length = n) (h8 : n ≤ 8) : Own eI t B w (.slice (some ⟨g, 0, none⟩) n n) L := by
  refine ⟨by simp, Or.inr ⟨g, n, (L.map eI).toArray, by rw [hn], hB, hg, by omega, by unfold maxLen; omega, by simp [hn], ?_⟩⟩
  simp only [Nat.mul_one]
  exact List.take_of_length_le (by rw [List.length_map, hn]; exact Nat.le_refl _)
theorem src_cells {w : World} {A : Option Addr} {L : List Int} (h : Cl eI w A L) (hp : 0 < (L.map eI).length) : ∃ ad, A = some ad ∧ ∀ (j : Nat) (v : Value), (L.map eI)[j]? = some v → w.cell? (ad.add j) = some v := by
  rw [List.length_map] at hp
  obtain ⟨b, off, rfl, _, _⟩ := Fibre.cl_at h (List.getElem?_eq_getElem hp)
  refine ⟨_, rfl, fun j v hv => ?_⟩
  rw [List.getElem?_map] at hv
  cases hj : L[j]? with
  | none => rw [hj] at hv; cases hv
  | some z =>
    rw [hj] at hv
    obtain rfl : eI z = v := by simpa using hv
    obtain ⟨b', off', e, _, hc⟩ := Fibre.cl_at h hj
    cases e
    rw [Addr.add_lit]; exact hc
theorem copy_all {n : Nat} {L : List Int} (hn : L.length = n) : splice (List.replicate n (Value.int .i64 0)) 0 (L.map eI) = L.map eI := by
  unfold splice
  rw [List.take_zero, List.nil_append, List.drop_eq_nil_of_le (by simp [hn]), List.append_nil]
theorem size_int : (Try.prog.info? 3).map (·.size) = some 1 := by kernel_rfl
theorem made_row (w : World) (n : Nat) : (w.alloc (.cells (madeCells #[.int .i64 0] n) 3)).heap[w.heap.size]? = some (.cells (List.replicate n (Value.int .i64 0)).toArray 3 (0, 0)) := by
  rw [heap_alloc_new]
  have h := toList_madeCells_one (.int .i64 0) n
  have e : madeCells #[.int .i64 0] n = (List.replicate n (Value.int .i64 0)).toArray := by
    rw [← Array.toArray_toList (xs := madeCells #[.int .i64 0] n), h]
  rw [e]
/-- 'copy' into a row that the call has just made, as long as what is copied. -/
theorem copy_new {w : World} {ops : Array Oper} {rest : List Oper} {o : Oper} {a : Act} {Q : Exit → Act → World → Prop} (hgd : o.guard = none) (d s : Operand)
    (ho : o.op = .call { callee := .builtin .copy, args := #[d, s], argTypes := #[29, 29] }) (A : Option Addr) (L : List Int) (n c g : Nat) (hn : L.length = n) (h1 : 1 ≤ n) (hd : a.eval d = .slice (some ⟨g, 0, none⟩) n n) (hs : a.eval s = .slice A n c)
    (hg : w.heap[g]? = some (.cells (List.replicate n (Value.int .i64 0)).toArray 3 (0, 0))) (hcl : Cl eI w A L)
    (h : ∀ w', w'.heap.size = w.heap.size → w'.heap[g]? = some (.cells (L.map eI).toArray 3 (0, 0)) → (∀ x, x ≠ g → w'.heap[x]? = w.heap[x]?) → Below g w w' → wpList Try.prog ops Q rest (a.put o.dst (goInt n)) w') : wpList Try.prog ops Q (o :: rest) a w := by
  obtain ⟨ad, rfl, hsrc⟩ := src_cells hcl (by rw [List.length_map]; omega)
  have hl : (L.map eI).length = n := by rw [List.length_map, hn]
  have e := copy_all hn
  unfold splice at e
  refine wpList_copy_own hgd d s _ _ ho 3 Try.underlying29 size_int g 0 n n ad n c hd hs _ _ hg (L.map eI) (by rw [hl]; exact (Nat.min_self _).symm) hsrc (by rw [hl]; simp) (fun v hv => by
    simp only [List.mem_map] at hv
    obtain ⟨x, _, rfl⟩ := hv
    rfl) ?_
  rw [hl]
  have e2 : ((List.replicate n (Value.int .i64 0)).toArray.toList.take 0 ++ (L.map eI ++ (List.replicate n (Value.int .i64 0)).toArray.toList.drop (0 + n))) = L.map eI := by
    have := e
    rw [hl] at this
    exact this
  rw [e2]
  refine h _ (by simp [World.setRow]) (setRow_heap w g _ _ _ _ hg) (fun x hx => setRow_other w g x _ hx) (below_setRow (Below.refl g w) (Nat.le_refl _) _)
/-- The copies lie one behind the other. -/
def Cps (w : World) (g : Nat) (P : List (List Int)) : Prop :=
  ∀ (k : Nat) (l : List Int), P[k]? = some l → Own eI 3 g w (.slice (some ⟨g + 1 + k, 0, none⟩) l.length l.length) l
theorem Cps.keep {w w' : World} {g : Nat} {P : List (List Int)} (h : Cps w g P) (hk : ∀ k, k < P.length → w'.heap[g + 1 + k]? = w.heap[g + 1 + k]?) : Cps w' g P := fun k l hl =>
  (h k l hl).keep fun x hx => by cases hx; exact hk k (glt hl)
theorem Cps.snoc {w : World} {g : Nat} {P : List (List Int)} {l : List Int} (h : Cps w g P) (hl : Own eI 3 g w (.slice (some ⟨g + 1 + P.length, 0, none⟩) l.length l.length) l) : Cps w g (P ++ [l]) := fun k u hu => by
  rcases Nat.lt_or_ge k P.length with hk | hk
  · rw [List.getElem?_append_left hk] at hu
    exact h k u hu
  · rw [List.getElem?_append_right hk] at hu
    obtain ⟨j, hj⟩ : ∃ j, k - P.length = j := ⟨_, rfl⟩
    rw [hj] at hu
    cases j with
    | zero =>
      simp at hu
      subst hu
      obtain rfl : k = P.length := by omega
      exact hl
    | succ j => simp at hu
/-- What copied leaves. -/
def CpR (w : World) (P : List (List Int)) (e : Ending) (w' : World) : Prop :=
  e = .returned (.slice (some ⟨w.heap.size, 0, none⟩) P.length P.length) ∧ Own eS 29 w.heap.size w' (.slice (some ⟨w.heap.size, 0, none⟩) P.length P.length) (rwsF (w.heap.size + 1) P) ∧ Cps w' w.heap.size P ∧ w'.heap.size = w.heap.size + 1 + P.length ∧ Below w.heap.size w w'
set_option maxHeartbeats 3200000 in
theorem p_copied (P : List (List Int)) (A : Option Addr) (n c : Nat) (hn : P.length = n) (h256 : n ≤ 1000) (h8 : ∀ l ∈ P, 1 ≤ l.length ∧ l.length ≤ 8) (w : World) (ha : Pls w A P) :
    Calls Try.prog 29 #[.slice A n c] w (CpR w P) := by
  have HA := Lib.hid ha
  have HN := Lib.hid hn
  have H8 := Lib.hid h8
  have HL := Lib.hid h256
  have hmk := fun W => make_rows n (by omega) W
  unfold CpR
  rw [hn]
  clear ha hn h8
  go_enter Try.func29, Try.ntmps29
  go_upto_region 2 with fail
  obtain ⟨w1, hw1⟩ : ∃ W, w.alloc (.cells (madeCells #[.slice none 0 0] n) 29) = W := ⟨_, rfl⟩
  obtain ⟨g, hg⟩ : ∃ g, w.heap.size = g := ⟨_, rfl⟩
  have GG := Lib.hid hg
  have B1 : Hid (Below g w w1) := hw1 ▸ hg ▸ below_alloc _ _
  have O1 : Hid (Own eS 29 g w1 (.slice (some ⟨g, 0, none⟩) n n) (rwsK (g + 1) P 0)) := Lib.hid (by
    rw [rwsK_zero, HN.out]
    subst hw1
    subst hg
    exact own_made eS 29 w n (none, 0, 0) (by have := HL.out; omega))
  have S1 : Hid (w1.heap.size = g + 1) := Lib.hid (by subst hw1; simp [hg])
  rw [hw1, hg]
  clear hw1 hg hmk
  go_wp2_with fail
  go_loopw [11, 4, 5] (fun i _ _ wr => ∃ k : Nat, k ≤ n ∧ i = .int .i64 k ∧ Own eS 29 g wr (.slice (some ⟨g, 0, none⟩) n n) (rwsK (g + 1) P k) ∧ Cps wr g (P.take k) ∧ wr.heap.size = g + 1 + k ∧ Below g w wr) (fun i _ _ _ => n - (RowKit.intOf i).toNat)
  case atStart => exact ⟨0, Nat.zero_le _, rfl, O1.out, fun k l h => by simp at h, S1.out, B1.out⟩
  case round =>
    obtain ⟨k, hk, rfl, hown, hcps, hsz, hbel⟩ := hrel
    have HO := Lib.hid hown
    have HC := Lib.hid hcps
    have HZ := Lib.hid hsz
    have HB := Lib.hid hbel
    clear hown hcps hsz hbel
    rcases Nat.lt_or_ge k n with hlt | hge
    · obtain ⟨l, hl⟩ := get_lt (L := P) (k := k) (by have := HN.out; omega)
      obtain ⟨b, off, A1, n1, c1, rfl, hb, e0, hl1, hcl, hm1⟩ := pls_at HA.out hl
      replace e0 := (HB.out.cell (p := ⟨b, off + k, none⟩) (by rw [← GG.out]; exact hb)).trans e0
      obtain rfl : n1 = l.length := hl1.symm
      have PL := Lib.hid (H8.out l (List.mem_of_getElem? hl))
      have HG := Lib.hid (And.intro hl hcl)
      obtain ⟨m, hm⟩ : ∃ m, l.length = m := ⟨_, rfl⟩
      have hmk := fun W => make_ints m (by have := PL.out; omega) W
      have fk := HO.out.warm (by rw [rwsK_len (by have := HN.out; omega)]; exact HN.out.symm) k
      have i1 : (k : Int) < (n : Int) := by omega
      have i2 : (0 : Int) ≤ (k : Int) := by omega
      have hlt' : g < wr.heap.size := (HO.out.lt g rfl).2
      have ck := HO.out.cell (rwsK_at (s := g + 1) (by have := HN.out; omega : k < P.length))
      rw [hm] at e0
      have ek : (k : Int) + 1 ≤ 9223372036854775807 := by have := HL.out; omega
      have hk1 : IntKind.i64.wrap ((k : Int) + 1) = ((k + 1 : Nat) : Int) := Rw.wrap_id (by have := HL.out; omega)
      obtain ⟨g2, hg2⟩ : ∃ x, wr.heap.size = x := ⟨_, rfl⟩
      have GK : Hid (g2 = g + 1 + k) := Lib.hid (by have := HZ.out; omega)
      have BA : Hid (Below wr.heap.size wr (wr.alloc (.cells (madeCells #[.int .i64 0] m) 3))) := Lib.hid (below_alloc _ _)
      have MR := Lib.hid (made_row wr m)
      have SA : Hid ((wr.alloc (.cells (madeCells #[.int .i64 0] m) 3)).heap.size = wr.heap.size + 1) := Lib.hid (by simp)
      obtain ⟨w2, hw2⟩ : ∃ W, wr.alloc (.cells (madeCells #[.int .i64 0] m) 3) = W := ⟨_, rfl⟩
      rw [hw2] at BA MR SA
      rw [hg2] at MR SA
      have fk2 : w2.frozen? ⟨g, k, none⟩ = false := (HO.out.on BA.out).warm (by rw [rwsK_len (by have := HN.out; omega)]; exact HN.out.symm) k
      have ck2 := (HO.out.on BA.out).cell (rwsK_at (s := g + 1) (by have := HN.out; omega : k < P.length))
      have O3 : Hid (Own eS 29 g (w2.setCell ⟨g, k, none⟩ (.slice (some ⟨g2, 0, none⟩) m m)) (.slice (some ⟨g, 0, none⟩) n n) (rwsK (g + 1) P (k + 1))) := Lib.hid (by
        have h1 := (HO.out.on BA.out).set (by rw [rwsK_len (by have := HN.out; omega)]; exact HN.out.symm) k (some ⟨g + 1 + k, 0, none⟩, l.length, l.length)
        rw [rwsK_set HG.out.1] at h1
        rw [GK.out, ← hm]
        exact h1)
      have c3 := Lib.hid (O3.out.cell (show (rwsK (g + 1) P (k + 1))[k]? = some (some ⟨g2, 0, none⟩, m, m) by
        rw [← rwsK_set HG.out.1, List.getElem?_set_self (by rw [rwsK_len (by have := HN.out; omega)]; have := HN.out; omega), GK.out, hm]))
      have R3 : Hid ((w2.setCell ⟨g, k, none⟩ (.slice (some ⟨g2, 0, none⟩) m m)).heap[g2]? = some (.cells (List.replicate m (Value.int .i64 0)).toArray 3 (0, 0))) := Lib.hid ((Below.heap_setCell w2 ⟨g, k, none⟩ _ g2 (by have := GK.out; show ¬ g2 = g; omega)).trans MR.out)
      have F3 : Hid (Off (fun x => x = g) wr (w2.setCell ⟨g, k, none⟩ (.slice (some ⟨g2, 0, none⟩) m m))) := Lib.hid ((show Off (fun x => x = g) wr w2 from Off.of_below BA.out).set (p := ⟨g, k, none⟩) (Or.inl rfl) _)
      have B3 : Hid (Below g w (w2.setCell ⟨g, k, none⟩ (.slice (some ⟨g2, 0, none⟩) m m))) := Lib.hid (Mem.below_set (HB.out.trans (BA.out.mono (by have := HZ.out; omega))) (p := ⟨g, k, none⟩) (Nat.le_refl _) _)
      have S3 : Hid ((w2.setCell ⟨g, k, none⟩ (.slice (some ⟨g2, 0, none⟩) m m)).heap.size = g2 + 1) := Lib.hid (by simpa using SA.out)
      have HM := Lib.hid hm
      clear hl hcl hm1 hl1 hb fk ck hlt' hm
      go_upto_region 6 with fail
      obtain ⟨w3, hw3⟩ : ∃ W, w2.setCell ⟨g, k, none⟩ (.slice (some ⟨g2, 0, none⟩) m m) = W := ⟨_, rfl⟩
      rw [hw3] at O3 c3 R3 F3 B3 S3 ⊢
      have L3 : Hid (Cl eI w3 A1 l) := Lib.hid (HG.out.2.on (by rw [GG.out]; exact B3.out))
      have y3 : w3.cell? ⟨g, k, none⟩ = some (.slice (some ⟨g2, 0, none⟩) m m) := c3.out
      have P3 : Hid (l.length = m ∧ 1 ≤ m) := Lib.hid ⟨HM.out, by have := PL.out; have := HM.out; omega⟩
      clear hw2 hg2 hw3 hmk fk2 ck2 e0 ek
      go_wp2_with (first | (with_reducible refine copy_new rfl (.tmp 25) (.tmp 26) rfl A1 l m c1 g2 P3.out.1 P3.out.2 rfl rfl R3.out L3.out ?_; intro w4 hs4 hr4 ho4 hb4; have S4 := Lib.hid hs4; have R4 := Lib.hid hr4; have F4 := Lib.hid ho4; have B4 := Lib.hid hb4; clear hs4 hr4 ho4 hb4; refine Hid.out ?_) | fail)
      refine Lib.hid ?_
      have O4 : Hid (Own eS 29 g w4 (.slice (some ⟨g, 0, none⟩) n n) (rwsK (g + 1) P (k + 1))) := Lib.hid (O3.out.keep fun x hx => by cases hx; exact F4.out g (by have := GK.out; omega))
      have C4 : Hid (Cps w4 g (P.take (k + 1))) := Lib.hid (by
        rw [take_snoc_of HG.out.1]
        have ht : (P.take k).length = k := by rw [List.length_take]; have := HN.out; omega
        refine Cps.snoc ((HC.out.keep (w' := w3) fun j hj => ?_).keep fun j hj => F4.out _ (by have := GK.out; rw [ht] at hj; omega)) ?_
        · rw [ht] at hj
          exact F3.out.block _ (by have := HZ.out; omega) (by show ¬ (g + 1 + j = g); omega)
        · rw [ht, ← GK.out, HM.out]
          exact own_cells R4.out (by have := GK.out; omega) HM.out (by have := PL.out; have := HM.out; omega))
      have Z4 : Hid (w4.heap.size = g + 1 + (k + 1)) := Lib.hid (by have := S4.out; have := S3.out; have := GK.out; omega)
      have BB4 : Hid (Below g w w4) := Lib.hid (B3.out.trans (B4.out.mono (by have := GK.out; omega)))
      clear y3
      go_wp2_with fail
      go_roundw
      case rel => exact ⟨k + 1, by omega, by go_num, O4.out, C4.out, Z4.out, BB4.out⟩
      case measure => simp [RowKit.intOf]; omega
    · obtain rfl : n = k := by omega
      go_wp2_with fail
      go_ret
      rw [GG.out]
      have h1 := HO.out
      have h2 := HC.out
      rw [← HN.out, rwsK_all, HN.out] at h1
      rw [List.take_of_length_le (by rw [HN.out]; exact Nat.le_refl _)] at h2
      exact ⟨rfl, h1, h2, HZ.out, HB.out⟩
end Go.Proofs.Ytihklpkpcnahkaa.Pipe
/- The program: adder, and what it returns. -/
namespace Go.Proofs.Ytihklpkpcnahkaa.Pipe
open Go.ChangeShapes Go.WideShapes Go.RowKit Go.Lib
open Go.Proofs.Ytihklpkpcnahkaa.Mem (Cl eI Own make_ints own_made)
open Go.Proofs.Ytihklpkpcnahkaa.Vec (plusL plus_at plus_len)
open Go.Proofs.Ytihklpkpcnahkaa.Rw (Rd Kd Row Off glt get_lt bstep below_alloc take_snoc_of below_drew)
set_option linter.unusedVariables false
set_option maxRecDepth 100000

/-- The function that adds masses to the sums, whose slice lies at the address. -/
abbrev addF (gb : Nat) : Value := .func (.func 41) #[] #[.pointer (some ⟨gb, 0, none⟩)]
def AdR (w : World) (n : Nat) (e : Ending) (w' : World) : Prop :=
  e = .returned (.tuple #[.slice (some ⟨w.heap.size, 0, none⟩) n n, addF (w.heap.size + 1)]) ∧ w'.heap.size = w.heap.size + 2 ∧ Own eI 3 w.heap.size w' (.slice (some ⟨w.heap.size, 0, none⟩) n n) (List.replicate n 0) ∧ Rw.Cel w' (w.heap.size + 1) [.slice (some ⟨w.heap.size, 0, none⟩) n n] ∧ Below w.heap.size w w'
set_option maxHeartbeats 1600000 in
theorem p_adder (n : Nat) (hn : n ≤ 8) (w : World) : Calls Try.prog 35 #[.int .i64 (n : Int)] w (AdR w n) := by
  have hmk := fun W => make_ints n (by omega) W
  have HN := Lib.hid hn
  unfold AdR
  go_enter Try.func35, Try.ntmps35
  go_upto_region 1 with fail
  have MO := Lib.hid (own_made eI 3 w n 0 (by have := HN.out; omega))
  obtain ⟨w1, hw1⟩ : ∃ W, w.alloc (.cells (madeCells #[.int .i64 0] n) 3) = W := ⟨_, rfl⟩
  obtain ⟨g, hg⟩ : ∃ g, w.heap.size = g := ⟨_, rfl⟩
  have GG := Lib.hid hg
  have S1 : Hid (w1.heap.size = g + 1) := Lib.hid (by subst hw1; simp [hg])
  have B1 : Hid (Below g w w1) := hw1 ▸ hg ▸ below_alloc _ _
  have MO1 : Hid (Own eI 3 g w1 (.slice (some ⟨g, 0, none⟩) n n) (List.replicate n 0)) := Lib.hid (by subst hw1; subst hg; exact MO.out)
  go_upto_region 2 with fail
  obtain ⟨w2, hw2⟩ : ∃ W, w1.alloc (.cells #[.slice (some ⟨g, 0, none⟩) n n] 29) = W := ⟨_, rfl⟩
  have S2 : Hid (w2.heap.size = g + 2) := Lib.hid (by subst hw2; simp [S1.out])
  have B2 : Hid (Below g w w2) := Lib.hid (B1.out.trans ((hw2 ▸ below_alloc _ _ : Below w1.heap.size w1 w2).mono (by have := S1.out; omega)))
  have O2 : Hid (Own eI 3 g w2 (.slice (some ⟨g, 0, none⟩) n n) (List.replicate n 0)) := Lib.hid (MO1.out.on (hw2 ▸ below_alloc _ _))
  have C2 : Hid (Rw.Cel w2 (g + 1) [.slice (some ⟨g, 0, none⟩) n n]) := Lib.hid (by subst hw2; exact Rw.Cel.new_at _ [_] _ S1.out)
  obtain ⟨gb, hgb⟩ : ∃ x, w1.heap.size = x := ⟨_, rfl⟩
  have HGB : Hid (gb = g + 1) := Lib.hid (by have := S1.out; omega)
  rw [hw2, hgb]
  have c2 : w2.cell? ⟨gb, 0, none⟩ = some (.slice (some ⟨g, 0, none⟩) n n) := by rw [HGB.out]; exact C2.out.at_ 0 _ rfl
  clear hw1 hg hw2 hgb hmk MO
  go_wp2_with fail
  go_ret2
  rw [GG.out]
  obtain rfl : gb = g + 1 := HGB.out
  exact ⟨rfl, S2.out, O2.out, C2.out, B2.out⟩
set_option maxHeartbeats 3200000 in
theorem p_add (X m : List Int) (M : Option Addr) (n c g gb B : Nat) (w : World) (hX : X.length = n) (hm : m.length = n) (hn : n ≤ 8) (hlim : ∀ z ∈ plusL X m, -9223372036854775808 ≤ z ∧ z ≤ 9223372036854775807)
    (hown : Own eI 3 B w (.slice (some ⟨g, 0, none⟩) n n) X) (hbox : Rw.Cel w gb [.slice (some ⟨g, 0, none⟩) n n]) (hne : gb ≠ g) (hM : Cl eI w M m) (hMg : ∀ b off, M = some ⟨b, off, none⟩ → b ≠ g) :
    Calls Try.prog 41 #[.slice M n c, .pointer (some ⟨gb, 0, none⟩)] w fun e w' => e = .returned (.tuple #[]) ∧ Own eI 3 B w' (.slice (some ⟨g, 0, none⟩) n n) (plusL X m) ∧ Off (fun x => x = g) w w' := by
  have HX := Lib.hid (And.intro hX hm)
  have HL := Lib.hid hlim
  have HO0 := Lib.hid hown
  have HC := Lib.hid hbox
  have HG := Lib.hid hne
  have HM := Lib.hid hM
  have HMG := Lib.hid hMg
  have H8 := Lib.hid hn
  clear hX hm hlim hown hbox hne hM hMg
  go_enter Try.func41, Try.ntmps41
  go_wp2_with fail
  go_loopw [7, 3, 4] (fun i _ _ wr => ∃ k : Nat, k ≤ n ∧ i = .int .i64 k ∧ Own eI 3 B wr (.slice (some ⟨g, 0, none⟩) n n) (mixL k (plusL X m) X) ∧ Off (fun x => x = g) w wr) (fun i _ _ _ => n - (RowKit.intOf i).toNat)
  case atStart => exact ⟨0, Nat.zero_le _, rfl, by rw [mix_zero]; exact HO0.out, Off.refl _ _⟩
  case round =>
    obtain ⟨k, hk, rfl, hown, hoff⟩ := hrel
    have HO := Lib.hid hown
    have HF := Lib.hid hoff
    clear hown hoff
    rcases Nat.lt_or_ge k n with hlt | hge
    · obtain ⟨x, hx⟩ := get_lt (L := X) (k := k) (by have := HX.out; omega)
      obtain ⟨y, hy⟩ := get_lt (L := m) (k := k) (by have := HX.out; omega)
      have cb : wr.cell? ⟨gb, 0, none⟩ = some (.slice (some ⟨g, 0, none⟩) n n) := (HC.out.off HF.out HG.out).at_ 0 _ rfl
      obtain ⟨b3, o3, hA3, hb3, e3⟩ := Fibre.cl_at (cl_off HM.out HF.out HMG.out) hy
      subst hA3
      have hml : n = (mixL k (plusL X m) X).length := by rw [mix_len]; exact HX.out.1.symm
      have ci : wr.cell? ⟨g, k, none⟩ = some (.int .i64 x) := HO.out.cell ((mix_at k (plusL X m) X).trans hx)
      have fi := HO.out.warm hml k
      have hp := plus_at hx hy
      obtain ⟨s, hs⟩ : ∃ s, x + y = s := ⟨_, rfl⟩
      rw [hs] at hp
      have ws : IntKind.i64.wrap s = s := Rw.wrap_id (HL.out s (List.mem_of_getElem? hp))
      have hk1 : IntKind.i64.wrap ((k : Int) + 1) = ((k + 1 : Nat) : Int) := Rw.wrap_id (by have := H8.out; omega)
      have HN5 : Hid (Own eI 3 B (wr.setCell ⟨g, k, none⟩ (.int .i64 s)) (.slice (some ⟨g, 0, none⟩) n n) (mixL (k + 1) (plusL X m) X)) := Lib.hid (by
        have h1 := HO.out.set hml k s
        rw [mix_set k (plusL X m) X (plus_len (by rw [HX.out.1, HX.out.2])) hp] at h1
        exact h1)
      have HF5 : Hid (Off (fun x => x = g) w (wr.setCell ⟨g, k, none⟩ (.int .i64 s))) := Lib.hid (HF.out.set (p := ⟨g, k, none⟩) (Or.inl rfl) _)
      have i1 : (k : Int) < (n : Int) := by omega
      have i2 : (0 : Int) ≤ (k : Int) := by omega
      clear hx hy hb3 hml hp
      go_wp2_with fail
      go_roundw
      case rel => exact ⟨k + 1, by omega, by go_num, HN5.out, HF5.out⟩
      case measure => simp [RowKit.intOf]; omega
    · obtain rfl : n = k := by omega
      have HE : Hid (Own eI 3 B wr (.slice (some ⟨g, 0, none⟩) n n) (plusL X m)) := Lib.hid (by
        have h1 := HO.out
        rw [mix_all n (plusL X m) X (plus_len (by rw [HX.out.1, HX.out.2])) (by rw [HX.out.1]; exact Nat.le_refl _)] at h1
        exact h1)
      go_wp2_with fail
      (try simp only [Exit.inBlock, Exit.then])
      refine bodyPost_end (results_none rfl _ _ _) rfl ?_
      exact ⟨rfl, HE.out, HF.out⟩
end Go.Proofs.Ytihklpkpcnahkaa.Pipe
/- The program: release. -/
namespace Go.Proofs.Ytihklpkpcnahkaa.Pipe
open Go.ChangeShapes Go.WideShapes Go.RowKit Go.Lib
open Go.Proofs.Ytihklpkpcnahkaa.Mem (Cl eI Own)
open Go.Proofs.Ytihklpkpcnahkaa.Vec (sumZ plusL lessL plus_at less_at plus_len less_len sumZ_nonneg le_sum sumZ_zeros plus_zero parts_sum parts_part vec_ext zero_of_sum)
open Go.Proofs.Ytihklpkpcnahkaa.Fibre (MM)
open Go.Proofs.Ytihklpkpcnahkaa.Share (partsL partsL_len splL errS ResL share_split)
open Go.Proofs.Ytihklpkpcnahkaa.Rw (Rd Kd Row Off glt get_lt bstep below_alloc take_snoc_of below_drew)
set_option linter.unusedVariables false
set_option maxRecDepth 100000

section
variable {kinds : Nat} {s : Int} {l : List Int}
theorem parts_zero (h : Pg kinds l) (h8 : kinds ≤ 8) : partsL 0 l = List.replicate l.length 0 := by
  have hp := h.pos
  have ok := h.ok h8 (Int.le_refl 0) hp
  have h0 : ∀ z ∈ partsL 0 l, 0 ≤ z := fun z hz => by
    obtain ⟨i, hi⟩ := List.mem_iff_getElem?.mp hz
    obtain ⟨y, hy⟩ := get_lt (L := l) (k := i) (by have := glt hi; rw [partsL_len] at this; exact this)
    exact (parts_part ok (by omega) hi hy).1
  have hz := zero_of_sum h0 (parts_sum ok)
  refine vec_ext (by rw [partsL_len, List.length_replicate]) fun i x y hx hy => ?_
  rw [List.eq_of_mem_replicate (List.mem_of_getElem? hy)]
  exact hz x (List.mem_of_getElem? hx)
theorem gon_parts (h : Pg kinds l) (h8 : kinds ≤ 8) (s0 : 0 ≤ s) (hs : s < sumZ l) : gon s l = partsL s l := by
  unfold gon
  rw [if_neg (by omega)]
  by_cases h0 : 0 < s
  · rw [if_pos h0]
  · obtain rfl : s = 0 := by omega
    rw [if_neg h0, parts_zero h h8]
theorem q_split (h : Pg kinds l) (h8 : kinds ≤ 8) (s0 : 0 ≤ s) (hs : s < sumZ l) (A : Option Addr) (n c : Nat) (hn : l.length = n) (w : World) (hS : Cl eI w A l) :
    Calls Try.prog 39 #[.int .i64 s, .slice A n c] w fun e w' => ∃ A' c', e = .returned (.tuple #[.slice A' n c', .int .i64 0]) ∧ Own eI 3 w.heap.size w' (.slice A' n c') (partsL s l) ∧ Below w.heap.size w w' := by
  subst hn
  have ok := h.ok h8 s0 hs
  have h1 := share_split s l A c w hS (by have := h.len; omega)
  have h2 : splL s l = partsL s l := if_pos ok.err
  rw [h2, ok.err] at h1
  refine h1.mono ?_
  rintro e w' ⟨v, rfl, ho, hb⟩
  obtain ⟨A', c', rfl, -, -, -⟩ := ho.inS
  rw [partsL_len] at ho ⊢
  exact ⟨A', c', rfl, ho, hb⟩
end
theorem Pls.drop {w : World} {b off : Nat} {P : List (List Int)} (h : Pls w (some ⟨b, off, none⟩) P) (k : Nat) : Pls w (some ⟨b, off + k, none⟩) (P.drop k) := fun j l hl => by
  rw [List.getElem?_drop] at hl
  obtain ⟨b', off', A1, c1, e, hlt, h0, i1, i2⟩ := h (k + j) l hl
  cases e
  rw [← Nat.add_assoc] at h0
  exact ⟨b, off + k, A1, c1, rfl, hlt, h0, i1, i2⟩
theorem slice_loP (b off n c k : Nat) (hk : k ≤ n) (hc : k < c) (W : World) : (Instr.slice 22 (.slice (some ⟨b, off, none⟩) n c) (some (.int .i64 (k : Int))) none none).run Try.prog W = .ok (.slice (some ⟨b, off + k, none⟩) (n - k) (c - k)) W := by
  have ht : Try.prog.underlying 22 = some (.slice (Try.prog.elem 22)) := by kernel_rfl
  have hs : (sizeOf (Try.prog.elem 22)).run Try.prog W = .ok 1 W := Try.sizeOf29 W
  rw [run_slice_l W 22 (some ⟨b, off, none⟩) n c ht .i64 k (by omega) (by omega), hs]
  simp [sliced, Result.andThen, Addr.add_lit]
  intro h
  omega
theorem slice_hiP (A : Option Addr) (n c k : Nat) (hk : k ≤ c) (W : World) : (Instr.slice 22 (.slice A n c) none (some (.int .i64 (k : Int))) none).run Try.prog W = .ok (.slice A k c) W := by
  have ht : Try.prog.underlying 22 = some (.slice (Try.prog.elem 22)) := by kernel_rfl
  have hs : (sizeOf (Try.prog.elem 22)).run Try.prog W = .ok 1 W := Try.sizeOf29 W
  rw [run_slice_h W 22 A n c ht .i64 k (by omega) (by omega), hs]
  simp [sliced, Result.andThen]
  intro _
  cases A <;> simp [Addr.add]
theorem rws_same {s : Nat} {P : List (List Int)} {l q : List Int} (h : q.length = l.length) : rwsF s (l :: P) = rwsF s (q :: P) := by
  rw [rwsF, rwsF, h]
theorem Cps.insO {w : World} {g n c : Nat} {P : List (List Int)} (h : Cps w g P) : InsO g w (.slice (some ⟨g, 0, none⟩) n c) (rwsF (g + 1) P) P := by
  refine ⟨rws_len _ _, fun k r l hr hl => ?_⟩
  rw [rws_at hl] at hr
  cases hr
  refine ⟨rfl, h k l hl, fun x hx e => ?_⟩
  cases hx
  have h2 : g = g + 1 + k := by simpa [Value.ownBlock] using e
  omega
theorem Cps.head {w w' : World} {g : Nat} {l q : List Int} {D : List (List Int)} (h : Cps w g (l :: D)) (hf : Off (fun x => x = g + 1) w w') (hq : Own eI 3 g w' (.slice (some ⟨g + 1, 0, none⟩) q.length q.length) q) : Cps w' g (q :: D) := fun k u hu => by
  cases k with
  | zero => simp at hu; subst hu; exact hq
  | succ k =>
    have h1 := h (k + 1) u hu
    refine h1.keep fun x hx => ?_
    have h2 := (h1.lt x hx).2
    cases hx
    exact hf.block _ h2 (by show ¬ g + 1 + (k + 1) = g + 1; omega)
theorem InsO.less {B B' : Nat} {w : World} {v : Value} {R : List Sr} {P : List (List Int)} (h : InsO B w v R P) (hB : B' ≤ B) : InsO B' w v R P :=
  ⟨h.1, fun k r l hr hl => by obtain ⟨h1, h2, h3⟩ := h.2 k r l hr hl; exact ⟨h1, h2.less hB, h3⟩⟩
/-- What release leaves: the plugs that stay, and the sums of what left. -/
def RlR (w : World) (kinds : Nat) (Q : List (List Int)) (O : List Int) (e : Ending) (w' : World) : Prop :=
  ∃ A n c R, e = .returned (.tuple #[.slice A n c, .slice (some ⟨w.heap.size, 0, none⟩) kinds kinds]) ∧ Rw.Row cP 1 29 (w.heap.size + 2) w' (.slice A n c) R ∧ InsO (w.heap.size + 2) w' (.slice A n c) R Q ∧ Own eI 3 w.heap.size w' (.slice (some ⟨w.heap.size, 0, none⟩) kinds kinds) O ∧ Below w.heap.size w w' ∧ w.heap.size + 2 ≤ w'.heap.size
set_option maxHeartbeats 6400000 in
theorem p_release (hold : Int) (P : List (List Int)) (kinds : Nat) (S : Int) (ok : POk hold P kinds) (s0 : 0 ≤ S) (hS : S ≤ hold) (A : Option Addr) (n c : Nat) (hn : P.length = n) (hc : n ≤ c) (w : World) (ha : Pls w A P) :
    Calls Try.prog 33 #[.slice A n c, .int .i64 S] w (RlR w kinds (rmnP S P) (outP kinds S P)) := by
  have HA := Lib.hid ha
  have HN := Lib.hid hn
  have OK := Lib.hid ok
  have HC := Lib.hid hc
  have HSH := Lib.hid hS
  have HI0 := Lib.hid (PInv.start ok.k8 ok.all s0)
  have KA := Lib.hid fun (W : World) => p_adder kinds ok.k8 W
  obtain ⟨l0, hl0⟩ := get_lt (L := P) (k := 0) (by have := ok.n1; omega)
  obtain ⟨b, off, A1, n1, c1, hA, hb, e0, hl1, hcl, hm1⟩ := pls_at ha hl0
  subst hA
  obtain rfl : n1 = kinds := by
    have := (ok.all l0 (List.mem_of_getElem? hl0)).len
    omega
  rw [Nat.add_zero] at e0
  have i3 : (0 : Int) < (n : Int) := by have := ok.n1; omega
  have i4 : 0 < n := by have := ok.n1; omega
  have HNN := Lib.hid (show n ≤ 256 by have := ok.n2; omega)
  have HBW := Lib.hid hb
  unfold RlR
  clear ok hl0 hcl hl1 hb ha hn hc hS hm1
  go_enter Try.func33, Try.ntmps33
  go_wp2_with fail
  refine (KA.out w).mono ?_
  rintro e w1 ⟨rfl, hs1, ho1, hc1, hb1⟩
  obtain ⟨g, hg⟩ : ∃ g, w.heap.size = g := ⟨_, rfl⟩
  have GG := Lib.hid hg
  rw [hg] at hs1 ho1 hc1 hb1 ⊢
  have S1 := Lib.hid hs1
  have O1 := Lib.hid ho1
  have C1 := Lib.hid hc1
  have B1 := Lib.hid hb1
  clear hs1 ho1 hc1 hb1 hg e0 KA i3 i4
  go_wp2_with fail
  go_loopw [26, 1, 8, 9, 10, 11] (fun iv sv _ _ _ _ wr => ∃ (k : Nat) (s : Int) (O : List Int), k ≤ n ∧ iv = .int .i64 k ∧ sv = .int .i64 s ∧ PInv n1 S P k s O [] ∧ Own eI 3 g wr (.slice (some ⟨g, 0, none⟩) n1 n1) O ∧ Rw.Cel wr (g + 1) [.slice (some ⟨g, 0, none⟩) n1 n1] ∧ Below g w wr ∧ g + 2 ≤ wr.heap.size) (fun iv _ _ _ _ _ _ => n - (RowKit.intOf iv).toNat)
  case atStart => exact ⟨0, S, _, Nat.zero_le _, rfl, rfl, HI0.out, O1.out, C1.out, B1.out, by rw [S1.out]; exact Nat.le_refl _⟩
  case round =>
    obtain ⟨k, s, O, hk, rfl, rfl, hinv, hown, hbox, hbel, hsz⟩ := hrel
    have HI := Lib.hid hinv
    have HO := Lib.hid hown
    have HX := Lib.hid hbox
    have HB := Lib.hid hbel
    have HZ := Lib.hid hsz
    clear hinv hown hbox hbel hsz
    rcases Nat.lt_or_ge k n with hlt | hge
    · obtain ⟨l, hl⟩ := get_lt (L := P) (k := k) (by have := HN.out; omega)
      obtain ⟨b', off', A2, n2, c2, e', hb2, e2, hl2, hcl2, hm2⟩ := pls_at HA.out hl
      cases e'
      have hpg := OK.out.all l (List.mem_of_getElem? hl)
      obtain rfl : n2 = n1 := by have := hpg.len; omega
      have PG := Lib.hid hpg
      have HL := Lib.hid (And.intro hl hl2)
      have e3 : wr.cell? ⟨b, off + k, none⟩ = some (.slice A2 n2 c2) := (HB.out.cell (p := ⟨b, off + k, none⟩) (by rw [← GG.out]; exact HBW.out)).trans e2
      have HC2 := Lib.hid fun (W : World) (h : Below g w W) => hcl2.on (GG.out ▸ h)
      have HA2 : Hid (∀ b3 o3, A2 = some ⟨b3, o3, none⟩ → b3 < g) := Lib.hid fun b3 o3 e => by
        obtain ⟨z, hz⟩ := get_lt (L := l) (k := 0) (by rw [hl2]; have := OK.out.k1; omega)
        obtain ⟨b4, o4, e4, hb4, -⟩ := Fibre.cl_at hcl2 hz
        rw [e] at e4
        cases e4
        rw [← GG.out]; exact hb4
      have i1 : (k : Int) < (n : Int) := by omega
      have i2 : (0 : Int) ≤ (k : Int) := by omega
      have hk1 : IntKind.i64.wrap ((k : Int) + 1) = ((k + 1 : Nat) : Int) := Rw.wrap_id (by have := HNN.out; omega)
      have HLT := Lib.hid hlt
      have KT := Lib.hid (p_total n2 l hpg OK.out.k1 OK.out.k8 A2 n2 c2 hl2.symm wr (HC2.out wr HB.out))
      have HST := Lib.hid (HI.out.step OK.out.k8 OK.out.all hl)
      have HSS := Lib.hid HI.out.s0
      obtain ⟨t, ht⟩ : ∃ t, sumZ l = t := ⟨_, rfl⟩
      rw [ht] at KT
      have HT := Lib.hid ht
      clear hl hl2 hcl2 hb2 e2 hpg ht
      go_wp2_with fail
      refine KT.out.mono ?_
      rintro e w2 ⟨rfl, hb⟩
      have B2 : Hid (Below g w w2) := Lib.hid (HB.out.trans (hb.mono (by have := HZ.out; omega)))
      have O2 := Lib.hid (HO.out.on hb)
      have X2 := Lib.hid (HX.out.on hb)
      have Z2 : Hid (g + 2 ≤ w2.heap.size) := Lib.hid (Nat.le_trans HZ.out hb.size)
      clear hb e3 KT
      rcases Int.lt_or_le s t with hst | hst
      rotate_left
      · have d0 : decide (t > s) = false := decide_eq_false (by omega)
        have d1 : decide (s < t) = false := decide_eq_false (by omega)
        have hgn : gon s l = l := by unfold gon; rw [HT.out, if_pos hst]
        have HP := Lib.hid HST.out
        rw [hgn, HT.out, less_self, sumZ_zeros, if_neg (by omega), List.append_nil] at HP
        have HLM : Hid (∀ z ∈ plusL O l, -9223372036854775808 ≤ z ∧ z ≤ 9223372036854775807) := Lib.hid fun z hz => by
          have h1 := HP.out.lim hz
          have h2 := OK.out.h2
          have h3 := HSH.out
          have hM : MM = 1099511627776 := rfl
          omega
        have KD := Lib.hid (p_add O l A2 n2 c2 g (g + 1) g w2 HI.out.len HL.out.2 OK.out.k8 HLM.out O2.out X2.out (by omega) (HC2.out _ B2.out) (fun b3 o3 e => by have := HA2.out b3 o3 e; omega))
        have ws : IntKind.i64.wrap (s - t) = s - t := Rw.wrap_id (by have h1 := HP.out.s0; have h2 := HI.out.sum; have h3 := sumZ_nonneg HI.out.nn; have h4 := HSH.out; have h5 := OK.out.h2; have hM : MM = 1099511627776 := rfl; have h6 := HSS.out; have h7 := PG.out.pos; rw [HT.out] at h7; omega)
        clear hst hgn
        go_wp2_with fail
        refine KD.out.mono ?_
        rintro e w3 ⟨rfl, ho, hf⟩
        have O3 := Lib.hid ho
        have F3 := Lib.hid hf
        have X3 := Lib.hid (X2.out.off F3.out (by omega))
        have B3 : Hid (Below g w w3) := Lib.hid (B2.out.trans (F3.out.below (by have := Z2.out; omega) (fun x e => by omega)))
        have Z3 : Hid (g + 2 ≤ w3.heap.size) := Lib.hid (Nat.le_trans Z2.out F3.out.size)
        clear ho hf d0 d1
        go_wp2_with fail
        go_roundw
        case rel => exact ⟨k + 1, s - t, plusL O l, HLT.out, by go_num, by first | rfl | trivial, HP.out, O3.out, X3.out, B3.out, Z3.out⟩
        case measure => have := HLT.out; simp [RowKit.intOf]; omega
      · have d0 : decide (t > s) = true := decide_eq_true (by omega)
        have d1 : decide (s < t) = true := decide_eq_true (by omega)
        have hst' : s < sumZ l := by rw [HT.out]; exact hst
        have hgn := gon_parts PG.out OK.out.k8 HSS.out hst'
        have hps := parts_sum (PG.out.ok OK.out.k8 HSS.out hst')
        have hpr := PG.out.ok OK.out.k8 HSS.out hst'
        have GL := Lib.hid (gon_lim (l := l) OK.out.k8 HSS.out PG.out)
        have HP := Lib.hid HST.out
        rw [hgn] at GL
        rw [hgn] at HP
        obtain ⟨p, hp⟩ : ∃ p, partsL s l = p := ⟨_, rfl⟩
        have HPL : Hid (p.length = n2) := Lib.hid (by rw [← hp, partsL_len]; exact HL.out.2)
        have KSP := Lib.hid fun (W : World) (h : Cl eI W A2 l) => q_split PG.out OK.out.k8 HSS.out hst' A2 n2 c2 HL.out.2 W h
        have HQS : Hid (sumZ (lessL l p) = t - s ∧ 0 < t - s) := Lib.hid ⟨by rw [Vec.sumZ_less (by rw [HPL.out, HL.out.2]), HT.out, ← hp, hps], by omega⟩
        rw [hp] at HP GL KSP hps
        rw [hps, Int.sub_self, if_pos (by rw [HQS.out.1]; exact HQS.out.2), List.nil_append] at HP
        have HPE : Hid (outP n2 S P = plusL O p ∧ rmnP S P = lessL l p :: P.drop (k + 1)) := Lib.hid (by
          have h1 := HP.out.out
          have h2 := HP.out.rmn
          rw [out_zero (drop_pgs OK.out.all _), plus_zero HP.out.len] at h1
          rw [rmn_zero (drop_pgs OK.out.all _)] at h2
          exact ⟨h1, h2⟩)
        have HLM : Hid (∀ z ∈ plusL O p, -9223372036854775808 ≤ z ∧ z ≤ 9223372036854775807) := Lib.hid fun z hz => by
          have h1 := HP.out.lim hz
          have h2 := OK.out.h2
          have h3 := HSH.out
          have hM : MM = 1099511627776 := rfl
          omega
        obtain ⟨q, hq⟩ : ∃ q, n - k = q := ⟨_, rfl⟩
        obtain ⟨cq, hcq⟩ : ∃ cq, c - k = cq := ⟨_, rfl⟩
        have hsl := fun W => slice_loP b off n c k (by omega) (by have := HC.out; omega) W
        rw [hq, hcq] at hsl
        have HD : Hid ((P.drop k).length = q ∧ P.drop k = l :: P.drop (k + 1)) := Lib.hid ⟨by rw [List.length_drop, HN.out, hq], drop_at HL.out.1⟩
        have KC := Lib.hid (p_copied (P.drop k) (some ⟨b, off + k, none⟩) q cq HD.out.1 (by have := HNN.out; omega) (fun x hx => by
          have h1 := (drop_pgs OK.out.all k x hx).len
          have h2 := OK.out.k1
          have h3 := OK.out.k8
          omega) w2 ((HA.out.on (GG.out ▸ B2.out)).drop k))
        unfold CpR at KC
        rw [HD.out.1] at KC
        clear hst hst' hgn hps hpr hp hq hcq HP HST
        go_wp2_with fail
        refine KC.out.mono ?_
        rintro e w3 ⟨rfl, ho, hcp, hsz, hb⟩
        obtain ⟨gs, hgs⟩ : ∃ x, w2.heap.size = x := ⟨_, rfl⟩
        rw [hgs] at ho hcp hsz hb ⊢
        have GS : Hid (g + 2 ≤ gs ∧ w2.heap.size = gs) := Lib.hid ⟨by have := Z2.out; omega, hgs⟩
        have O3 := Lib.hid (O2.out.on (hgs ▸ hb))
        have X3 := Lib.hid (X2.out.on (hgs ▸ hb))
        have R3 := Lib.hid ho
        have C3 := Lib.hid hcp
        have Z3 := Lib.hid hsz
        have B3 : Hid (Below g w w3) := Lib.hid (B2.out.trans (hb.mono (by have := GS.out; omega)))
        clear ho hcp hsz hb hgs hsl KC
        go_wp2_with fail
        refine (KSP.out w3 (HC2.out _ B3.out)).mono ?_
        rintro e w4 ⟨A4, c4, rfl, ho, hb⟩
        have R4 := Lib.hid (R3.out.on hb)
        have C4 := Lib.hid (C3.out.keep fun j hj => hb.block _ (by have := Z3.out; have := HD.out.1; omega))
        have O4 := Lib.hid (O3.out.on hb)
        have X4 := Lib.hid (X3.out.on hb)
        have P4 := Lib.hid (own_cl ho).2.2.1
        have L4 : Hid (∀ b3 o3, A4 = some ⟨b3, o3, none⟩ → gs + 1 + q ≤ b3 ∧ b3 < w4.heap.size) := Lib.hid fun b3 o3 e => by
          have := ho.lt b3 (by rw [e]; rfl)
          have := Z3.out
          omega
        have Z4 : Hid (gs + 1 + q ≤ w4.heap.size) := Lib.hid (by have := hb.size; have := Z3.out; omega)
        have B4 : Hid (Below g w w4) := Lib.hid (B3.out.trans (hb.mono (by have := Z3.out; have := GS.out; omega)))
        have HQ1 : Hid (1 ≤ q) := Lib.hid (by have h1 := HD.out.1; rw [HD.out.2, List.length_cons] at h1; omega)
        have KD := Lib.hid (p_add O p A4 n2 c4 g (g + 1) g w4 HI.out.len HPL.out OK.out.k8 HLM.out O4.out X4.out (by omega) P4.out (fun b3 o3 e => by have := L4.out b3 o3 e; have := GS.out; omega))
        clear ho hb
        go_wp2_with fail
        refine KD.out.mono ?_
        rintro e w5 ⟨rfl, ho, hf⟩
        have O5 := Lib.hid ho
        have F5 := Lib.hid hf
        have B5 : Hid (Below g w w5) := Lib.hid (B4.out.trans (F5.out.below (by have := Z4.out; have := GS.out; omega) (fun x e => by omega)))
        have R5 := Lib.hid (R4.out.keep fun x hx => by cases hx; exact F5.out.block gs (by have := Z4.out; omega) (by show ¬ gs = g; have := GS.out; omega))
        have C5 := Lib.hid (C4.out.keep fun j hj => F5.out.block _ (by have := Z4.out; have := HD.out.1; omega) (by have := GS.out; omega))
        have P5 : Hid (Cl eI w5 A4 p) := Lib.hid (cl_off P4.out F5.out (fun b3 o3 e h => by have := L4.out b3 o3 e; have := GS.out; omega))
        have Z5 : Hid (gs + 1 + q ≤ w5.heap.size) := Lib.hid (Nat.le_trans Z4.out F5.out.size)
        have L5 : Hid (∀ b3 o3, A4 = some ⟨b3, o3, none⟩ → gs + 1 + q ≤ b3) := Lib.hid fun b3 o3 e => (L4.out b3 o3 e).1
        have T5 : Hid (Own eI 3 gs w5 (.slice (some ⟨gs + 1, 0, none⟩) n2 n2) l) := Lib.hid (by
          have h1 := C5.out 0 l (by rw [HD.out.2]; rfl)
          rw [HL.out.2] at h1
          exact h1)
        have YR : Hid (w5.cell? ⟨gs, 0, none⟩ = some (.slice (some ⟨gs + 1, 0, none⟩) n2 n2)) := Lib.hid (by
          have h1 := R5.out.cell (rws_at (P := P.drop k) (s := gs + 1) (k := 0) (l := l) (by rw [HD.out.2]; rfl))
          rw [HL.out.2] at h1
          exact h1)
        have H8 := Lib.hid OK.out.k8
        have HQ0 : Hid ((0 : Int) < (q : Int) ∧ 0 < q) := Lib.hid (by have := HQ1.out; omega)
        clear ho hf d0 d1
        go_wp2_with fail
        go_loopw [54, 15] (fun iv _ wr2 => ∃ i : Nat, i ≤ n2 ∧ iv = .int .i64 i ∧ Own eI 3 gs wr2 (.slice (some ⟨gs + 1, 0, none⟩) n2 n2) (mixL i (lessL l p) l) ∧ Off (fun x => x = gs + 1) w5 wr2) (fun iv _ _ => n2 - (RowKit.intOf iv).toNat)
        case atStart => exact ⟨0, Nat.zero_le _, rfl, by rw [mix_zero]; exact T5.out, Off.refl _ _⟩
        case round =>
          obtain ⟨i, hi, rfl, ht2, hf2⟩ := hrel
          have HT5 := Lib.hid ht2
          have HF5 := Lib.hid hf2
          clear ht2 hf2
          rcases Nat.lt_or_ge i n2 with hli | hgi
          · obtain ⟨x, hx⟩ := get_lt (L := l) (k := i) (by rw [HL.out.2]; exact hli)
            obtain ⟨y, hy⟩ := get_lt (L := p) (k := i) (by rw [HPL.out]; exact hli)
            obtain ⟨b3, o3, hA3, hb3, e5⟩ := Fibre.cl_at (cl_off P5.out HF5.out (fun b3 o3 e h => by have h1 := L5.out b3 o3 e; have h2 := HQ1.out; have h3 : b3 = gs + 1 := h; omega)) hy
            subst hA3
            have y0 : wr.cell? ⟨gs, 0, none⟩ = some (.slice (some ⟨gs + 1, 0, none⟩) n2 n2) := (cell_off (i := 0) HF5.out (by have := Z5.out; omega) (by show ¬ gs = gs + 1; omega)).trans YR.out
            have hml : n2 = (mixL i (lessL l p) l).length := by rw [mix_len]; exact HL.out.2.symm
            have ci : wr.cell? ⟨gs + 1, i, none⟩ = some (.int .i64 x) := HT5.out.cell ((mix_at i (lessL l p) l).trans hx)
            have fi := HT5.out.warm hml i
            have hr := less_at hx hy
            obtain ⟨u, hu⟩ : ∃ u, x - y = u := ⟨_, rfl⟩
            rw [hu] at hr
            have hul := GL.out.2 u (List.mem_of_getElem? hr)
            have hMM : MM = 1099511627776 := rfl
            have ws : IntKind.i64.wrap u = u := Rw.wrap_id (by omega)
            have hi1 : IntKind.i64.wrap ((i : Int) + 1) = ((i + 1 : Nat) : Int) := Rw.wrap_id (by have := H8.out; omega)
            have HN5 : Hid (Own eI 3 gs (wr.setCell ⟨gs + 1, i, none⟩ (.int .i64 u)) (.slice (some ⟨gs + 1, 0, none⟩) n2 n2) (mixL (i + 1) (lessL l p) l)) := Lib.hid (by
              have h1 := HT5.out.set hml i u
              rw [mix_set i (lessL l p) l (less_len (by rw [HPL.out, HL.out.2])) hr] at h1
              exact h1)
            have HF6 : Hid (Off (fun x => x = gs + 1) w5 (wr.setCell ⟨gs + 1, i, none⟩ (.int .i64 u))) := Lib.hid (HF5.out.set (p := ⟨gs + 1, i, none⟩) (Or.inl rfl) _)
            have j1 : (i : Int) < (n2 : Int) := by omega
            have j2 : (0 : Int) ≤ (i : Int) := by omega
            have j3 : (0 : Int) < (q : Int) := HQ0.out.1
            have j4 : 0 < q := HQ0.out.2
            clear hx hy hb3 hml hr hul hMM
            go_wp2_with fail
            go_region
            all_goals
              go_wp2_with fail
              go_roundw
              case rel => exact ⟨i + 1, by omega, by go_num, HN5.out.drew, HF6.out.drew⟩
              case measure => simp [RowKit.intOf]; omega
          · obtain rfl : n2 = i := by omega
            have T6 : Hid (Own eI 3 gs wr (.slice (some ⟨gs + 1, 0, none⟩) n2 n2) (lessL l p)) := Lib.hid (by
              have h1 := HT5.out
              rw [mix_all n2 (lessL l p) l (less_len (by rw [HPL.out, HL.out.2])) (by rw [HL.out.2]; exact Nat.le_refl _)] at h1
              exact h1)
            have R6 := Lib.hid (R5.out.keep fun x hx => by cases hx; exact HF5.out.block gs (by have := Z5.out; omega) (by show ¬ gs = gs + 1; omega))
            have HLL : Hid ((lessL l p).length = l.length) := Lib.hid (less_len (by rw [HPL.out, HL.out.2]))
            have C6 : Hid (Cps wr gs (lessL l p :: P.drop (k + 1))) := Lib.hid (by
              have h1 := C5.out
              rw [HD.out.2] at h1
              refine h1.head HF5.out ?_
              rw [HLL.out, HL.out.2]
              exact T6.out)
            have E6 : Hid (rwsF (gs + 1) (P.drop k) = rwsF (gs + 1) (lessL l p :: P.drop (k + 1))) := Lib.hid (by rw [HD.out.2]; exact rws_same HLL.out)
            have O6 : Hid (Own eI 3 g wr (.slice (some ⟨g, 0, none⟩) n2 n2) (plusL O p)) := Lib.hid (O5.out.keep fun x hx => by cases hx; exact HF5.out.block g (by have := Z5.out; have := GS.out; omega) (by show ¬ g = gs + 1; have := GS.out; omega))
            have B6 : Hid (Below g w wr) := Lib.hid (B5.out.trans (HF5.out.below (by have := Z5.out; have := GS.out; omega) (fun x e => by have := GS.out; omega)))
            have Z6 : Hid (g + 2 ≤ wr.heap.size) := Lib.hid (by have h1 := HF5.out.size; have := Z5.out; have := GS.out; omega)
            go_wp2_with fail
            go_ret2
            rw [HPE.out.1, HPE.out.2, GG.out]
            have h1 := row_own (R6.out.less GS.out.1)
            rw [E6.out] at h1
            exact ⟨_, _, _, _, rfl, h1, C6.out.insO.less GS.out.1, O6.out, B6.out, Z6.out⟩
    · have HE : Hid (outP n1 S P = O ∧ rmnP S P = []) := Lib.hid (by
        obtain rfl : n = k := by omega
        have h1 := HI.out
        rw [← HN.out] at h1
        exact h1.end_)
      obtain rfl : n = k := by omega
      go_wp2_with fail
      go_ret2
      rw [HE.out.1, HE.out.2, GG.out]
      exact ⟨none, 0, 0, [], rfl, Rw.Row.nil _ _ _ _ _, InsO.nil _ _ _, HO.out, HB.out, HZ.out⟩
end Go.Proofs.Ytihklpkpcnahkaa.Pipe
