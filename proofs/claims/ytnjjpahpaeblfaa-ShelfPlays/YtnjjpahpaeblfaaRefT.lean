/- What Order of the document's shelf answers: the same as the program's. -/
import Derived.Test.YtnjjpahpaeblfaaRefS
import Derived.Test.YtnjjpahpaeblfaaNotes
namespace Go.Proofs.Ytnjjpahpaeblfaa
open Go.RowKit Go.Maps Go.Sort
set_option linter.unusedVariables false

theorem less_lt : ∀ (x y : List UInt8), Op.bytesLess x y = true → x < y
  | [], [], h => by simp [Op.bytesLess] at h
  | [], _ :: _, _ => by simp
  | _ :: _, [], h => by simp [Op.bytesLess] at h
  | a :: x, b :: y, h => by
    simp only [Op.bytesLess, Bool.or_eq_true, Bool.and_eq_true, decide_eq_true_eq, beq_iff_eq] at h
    rw [List.cons_lt_cons_iff]
    rcases h with h | ⟨h1, h2⟩
    · exact .inl h
    · exact .inr ⟨h1, less_lt x y h2⟩
theorem lt_less : ∀ (x y : List UInt8), x < y → Op.bytesLess x y = true
  | [], [], h => by simp at h
  | [], _ :: _, _ => by simp [Op.bytesLess]
  | _ :: _, [], h => by simp at h
  | a :: x, b :: y, h => by
    rw [List.cons_lt_cons_iff] at h
    simp only [Op.bytesLess, Bool.or_eq_true, Bool.and_eq_true, decide_eq_true_eq, beq_iff_eq]
    rcases h with h | ⟨h1, h2⟩
    · exact .inl h
    · exact .inr ⟨h1, lt_less x y h2⟩

theorem getNt_mem {S : List Nt} (hn : (S.map Nt.name).Nodup) {n : Nt} (h : n ∈ S) : getNt S n.name = n := by
  unfold getNt
  cases hf : S.find? (fun m => m.name == n.name) with
  | none => have := List.find?_eq_none.1 hf n h; simp at this
  | some m =>
    have h1 : m.name = n.name := by simpa using List.find?_some hf
    have h2 := List.mem_of_find?_eq_some hf
    obtain ⟨i, hi, rfl⟩ := List.mem_iff_getElem.1 h2
    obtain ⟨j, hj, rfl⟩ := List.mem_iff_getElem.1 h
    have := (List.getElem_inj (i := i) (j := j) (h₀ := by simpa using hi) (h₁ := by simpa using hj) hn).1 (by simpa using h1)
    subst this
    rfl

/-- The document's notes are the shelf's, in the order of their names. -/
structure Same (S : List Nt) (T : List Ne) : Prop where
  notes : T.map Ne.n = notesOf S
  nodup : (S.map Nt.name).Nodup

theorem Same.len {S : List Nt} {T : List Ne} (h : Same S T) : T.length = S.length := by
  have := congrArg List.length h.notes
  simpa [notesOf, namesOf_length] using this
theorem Same.at_ {S : List Nt} {T : List Ne} (h : Same S T) {k : Nat} (hk : k < T.length) : (T.getD k ne0).n ∈ S ∧ nmAt T k = (namesOf S).getD k [] ∧ leansOf S (nmAt T k) = (T.getD k ne0).n.leans := by
  have hk' : k < (namesOf S).length := by rw [namesOf_length, ← h.len]; exact hk
  have h1 : (T.getD k ne0).n = getNt S ((namesOf S).getD k []) := by
    have h2 : (T.map Ne.n)[k]? = (notesOf S)[k]? := by rw [h.notes]
    rw [List.getElem?_map, notesOf, List.getElem?_map, List.getElem?_eq_getElem hk, List.getElem?_eq_getElem hk'] at h2
    rw [List.getD, List.getD, List.getElem?_eq_getElem hk, List.getElem?_eq_getElem hk']
    simpa using h2
  have hx : (namesOf S).getD k [] ∈ S.map Nt.name := (List.mergeSort_perm _ _).mem_iff.1 (mem_getD hk')
  obtain ⟨n, hn, hnx⟩ := List.mem_map.1 hx
  rw [← hnx, getNt_mem h.nodup hn] at h1
  refine ⟨by rw [h1]; exact hn, by rw [nmAt, h1, hnx], ?_⟩
  rw [nmAt, h1, ← getNt_leans, getNt_mem h.nodup hn]
theorem Same.sorted {S : List Nt} {T : List Ne} (h : Same S T) {i j : Nat} (hij : i < j) (hj : j < T.length) : nmAt T i < nmAt T j := by
  have tr : ∀ a b c : List UInt8, leB a b = true → leB b c = true → leB a c = true := fun a b c h1 h2 => by simp only [leB, decide_eq_true_eq] at *; exact List.le_trans h1 h2
  have to : ∀ a b : List UInt8, (leB a b || leB b a) = true := fun a b => by simp only [leB, Bool.or_eq_true, decide_eq_true_eq]; exact List.le_total a b
  have hp : (namesOf S).Pairwise (fun a b => leB a b = true) := List.pairwise_mergeSort tr to (S.map Nt.name)
  have hn : (namesOf S).Nodup := (List.mergeSort_perm (S.map Nt.name) leB).nodup_iff.2 h.nodup
  have hj' : j < (namesOf S).length := by rw [namesOf_length, ← h.len]; exact hj
  have hi' : i < (namesOf S).length := by omega
  have h1 := List.pairwise_iff_getElem.1 hp i j hi' hj' hij
  rw [(h.at_ (by omega : i < T.length)).2.1, (h.at_ hj).2.1, List.getD, List.getD, List.getElem?_eq_getElem hj', List.getElem?_eq_getElem hi']
  simp only [leB, decide_eq_true_eq] at h1
  simp only [Option.getD_some]
  refine Classical.byContradiction fun hnl => ?_
  have e := List.le_antisymm h1 hnl
  have := (List.getElem_inj (h₀ := hi') (h₁ := hj') hn).1 e
  omega

/-- Find finds just the names that are there. -/
theorem Same.found {S : List Nt} {T : List Ne} (h : Same S T) {x : List UInt8} {k : Nat} (hk : FindAt T x k) : foundB T x k = (S.map Nt.name).contains x := by
  rw [Bool.eq_iff_iff, List.contains_iff_mem]
  unfold foundB
  rw [Bool.and_eq_true, decide_eq_true_eq, beq_iff_eq]
  constructor
  · rintro ⟨h1, h2⟩
    have := (h.at_ h1).1
    rw [← h2]
    exact List.mem_map_of_mem this
  · intro hx
    have hx' : x ∈ namesOf S := (List.mergeSort_perm _ _).mem_iff.2 hx
    obtain ⟨i, hi, hie⟩ := List.mem_iff_getElem.1 hx'
    have hiT : i < T.length := by rw [h.len, ← namesOf_length]; exact hi
    have hnm : nmAt T i = x := by rw [(h.at_ hiT).2.1, List.getD, List.getElem?_eq_getElem hi]; exact hie
    have hki : k ≤ i := Classical.byContradiction fun hc => by
      have := less_lt _ _ (hk.lt i (by omega))
      rw [hnm] at this
      exact List.lt_irrefl _ this
    have hik : i ≤ k := Classical.byContradiction fun hc => by
      have h1 := h.sorted (i := k) (j := i) (by omega) hiT
      rw [hnm] at h1
      have h2 := hk.ge (by omega)
      rw [lt_less _ _ h1] at h2
      cases h2
    obtain rfl : i = k := by omega
    exact ⟨hiT, hnm⟩

theorem Same.ready {S : List Nt} {T : List Ne} (h : Same S T) (o : List (List UInt8)) {k : Nat} (hk : k < T.length) : readyB S o ((namesOf S).getD k []) = readyN o (T.getD k ne0).n := by
  obtain ⟨h1, h2, h3⟩ := h.at_ hk
  unfold readyB readyN
  rw [← h2, h3]
  rfl

theorem Same.next {S : List Nt} {T : List Ne} (h : Same S T) {o : List (List UInt8)} {i : Int} (hi : nextI T o i) : (i = -1 ∧ nextOf S o = none) ∨ ∃ k : Nat, i = k ∧ k < T.length ∧ nextOf S o = some (nmAt T k) := by
  have hl : (namesOf S).length = T.length := by rw [namesOf_length, h.len]
  rcases hi with ⟨rfl, hno⟩ | ⟨k, rfl, hk, hyes, hno⟩
  · refine .inl ⟨rfl, find_no (fun j hj => ?_)⟩
    rw [h.ready o (by omega)]
    exact hno j (by omega)
  · refine .inr ⟨k, rfl, hk, ?_⟩
    rw [(h.at_ hk).2.1]
    refine find_take (by omega) (fun j hj => ?_) ?_
    · rw [h.ready o (by omega)]; exact hno j hj
    · rw [h.ready o hk]; exact hyes

/-- A slice value's length. -/
def lenOf (v : Value) : Nat := match v with | .slice _ n _ => n | _ => 0

set_option maxRecDepth 100000 in
set_option maxHeartbeats 4000000 in
theorem refOrder_any (w : World) (r : Nat) (T : List Ne) (h : RS w r T) (S : List Nt) (hS : Same S T) (h64 : T.length ≤ 64) :
    Calls Try.prog 35 #[.pointer (some ⟨r, 0, none⟩)] w fun e w' => ∃ v, e = .returned (.tuple #[v, .int .i64 (orderOf S).2]) ∧ w'.ownsRow w.heap.size 9 1 v (orderOf S).1.length ((orderOf S).1.map encStr) ∧ Below w.heap.size w w' := by
  have HH := hidR h
  have HSM := hidR hS
  have HLN := hidR hS.len
  obtain ⟨a, cap, hcell, hN⟩ := h
  have hr : r < w.heap.size := World.block_lt_of_cell? w _ hcell
  have HN := hidR hN
  have HC : Hid (∀ w', Below w.heap.size w w' → w'.cell? ⟨r, 0, none⟩ = some (.slice a T.length cap)) := fun w' hb => (hb.cell (p := ⟨r, 0, none⟩) hr).trans hcell
  clear hN hS
  go_enter Try.func35, Try.ntmps35
  go_wp2_with fail
  go_loopw [4] (fun i wr => ∃ k : Nat, k ≤ T.length ∧ i = .int .i64 k ∧ (∀ j, j < k → allIn S (T.getD j ne0).n = true) ∧ Below w.heap.size w wr) (fun i _ => T.length - (intOf i).toNat)
  case atStart => exact ⟨0, Nat.zero_le _, rfl, fun j hj => by omega, Below.refl _ _⟩
  case round =>
    obtain ⟨k, hk, rfl, hall, hnx⟩ := hrel
    have HA := hidR hall
    have hcr := HC.out wr hnx
    have HNX := hidR hnx
    have hszn := hnx.size
    clear hall
    by_cases hlt : k < T.length
    · rcases (HN.out.below hnx (Nat.le_refl _)).1 with ⟨h0, _⟩ | ⟨g, off, cap', hsl, hg, hcl⟩
      · rw [h0] at hlt; exact absurd hlt (by simp)
      cases hsl
      have hgw : g < w.heap.size := by
        rcases HN.out.1 with ⟨h0, _⟩ | ⟨g', off', cap'', hsl', hg', _⟩
        · rw [h0] at hlt; exact absurd hlt (by simp)
        · cases hsl'; exact hg'
      have HCE := hidR ((hcl k hlt).2.2.2)
      have HST := hidR (HN.out.2.2 _ (mem_getD1 hlt)).at_
      have HXS := hidR (HSM.out.at_ hlt).1
      have hll := (HN.out.2.2 _ (mem_getD1 hlt)).ok.leans.1
      have HN1 : Hid (allIn S (T.getD k ne0).n = true → ∀ j, j < k + 1 → allIn S (T.getD j ne0).n = true) := fun hx j hj => by
        by_cases e : j = k
        · subst e; exact hx
        · exact HA.out j (by omega)
      clear hcl hnx
      generalize T.getD k ne0 = x at *
      have HC3 : Hid (∀ w', Below wr.heap.size wr w' → w'.cell? ⟨r, 0, none⟩ = some (.slice (some ⟨g, off, none⟩) T.length cap) ∧ w'.cell? ⟨g, off + k * 4 + 3, none⟩ = some (.slice x.a x.n.leans.length x.cap)) := fun w' hb =>
        ⟨HC.out w' (HNX.out.trans (hb.mono hszn)), (hb.cell (p := ⟨g, off + k * 4 + 3, none⟩) (by omega)).trans HCE.out⟩
      go_wp2_with fail
      go_loopw [5] (fun i wq => ∃ q : Nat, q ≤ x.n.leans.length ∧ i = .int .i64 q ∧ (∀ j, j < q → (S.map Nt.name).contains (x.n.leans.getD j []) = true) ∧ Below wr.heap.size wr wq) (fun i _ => x.n.leans.length - (intOf i).toNat)
      case atStart => exact ⟨0, Nat.zero_le _, rfl, fun j hj => by omega, Below.refl _ _⟩
      case round =>
        obtain ⟨q, hq, rfl, hjs, hnq⟩ := hrel
        have HJ := hidR hjs
        have HNQ := hidR hnq
        obtain ⟨hcr2, hc3⟩ := HC3.out wr hnq
        clear hjs
        by_cases hql : q < x.n.leans.length
        · rcases HST.out.below (HNX.out.trans (hnq.mono hszn)) (Nat.le_refl _) with ⟨h0, _⟩ | ⟨gl, ol, cl, hsl, hgl, hcl⟩
          · rw [h0] at hql; exact absurd hql (by simp)
          rw [Value.slice.injEq] at hsl
          obtain ⟨hxa, _, _⟩ := hsl
          rw [hxa] at hc3
          have hcy : wr.cell? ⟨gl, ol + q, none⟩ = some (.string ⟨(x.n.leans.getD q []).toArray⟩) := hcl q hql
          have HFI := hidR (find_any (x.n.leans.getD q []) wr r T (HH.out.below (HNX.out.trans (hnq.mono hszn)) (Nat.le_refl _)))
          have HT : Hid ((S.map Nt.name).contains (x.n.leans.getD q []) = false → lacksB S = true) := fun hc => lacksB_true HXS.out hql hc
          have HJ2 : Hid ((S.map Nt.name).contains (x.n.leans.getD q []) = true → ∀ j, j < q + 1 → (S.map Nt.name).contains (x.n.leans.getD j []) = true) := fun hc j hj => by
            by_cases e : j = q
            · subst e; exact hc
            · exact HJ.out j (by omega)
          clear hcl hnq
          generalize x.n.leans.getD q [] = y at *
          go_wp2_with (go_at_call 33; refine HFI.out.mono ?_; rintro e w3 ⟨kf, hkf, rfl, hb3⟩; have HFB := hidR (HSM.out.found hkf); have HB3 := hidR hb3; clear hkf hb3; generalize foundB T y kf = fb at *)
          · have hfb : fb = false := by first | assumption | simpa using (show (!fb) = true by assumption)
            go_ret2
            have hO : orderOf S = ([], 12) := by simp [orderOf, HT.out (HFB.out.symm.trans hfb)]
            rw [hO]
            exact ⟨_, rfl, World.ownsRow_nil _ _ _ _, HNX.out.trans ((HNQ.out.trans (HB3.out.mono HNQ.out.size)).mono hszn)⟩
          · have hfb : fb = true := by first | assumption | simpa using (show (!fb) = false by assumption) | simpa using (show ¬ (!fb) = true by assumption)
            go_roundw
            case rel => exact ⟨q + 1, by omega, by go_num, HJ2.out (HFB.out.symm.trans hfb), HNQ.out.trans (HB3.out.mono HNQ.out.size)⟩
            case measure => simp [intOf]; omega
        · go_wp2
          have hqe : q = x.n.leans.length := by omega
          subst hqe
          go_roundw
          case rel => exact ⟨k + 1, by omega, by go_num, HN1.out (allIn_of HJ.out), HNX.out.trans (HNQ.out.mono hszn)⟩
          case measure => simp [intOf]; omega
    · have hkl : k = T.length := by omega
      have HL : Hid (lacksB S = false) := lacksB_false (fun n hn => by
        have hx' : n.name ∈ namesOf S := (List.mergeSort_perm _ _).mem_iff.2 (List.mem_map_of_mem hn)
        obtain ⟨i, hi, hie⟩ := List.mem_iff_getElem.1 hx'
        have hiT : i < T.length := by rw [HLN.out, ← namesOf_length]; exact hi
        obtain ⟨h1, h2, h3⟩ := HSM.out.at_ hiT
        have h4 := HA.out i (by omega)
        have h5 : (T.getD i ne0).n = n := by
          have e1 : (T.getD i ne0).n.name = n.name := by
            have : nmAt T i = n.name := by rw [h2, List.getD, List.getElem?_eq_getElem hi]; exact hie
            exact this
          rw [← getNt_mem HSM.out.nodup h1, e1, getNt_mem HSM.out.nodup hn]
        rw [h5] at h4
        exact h4)
      clear hkl hnx
      have HOn : Hid (orderTo S S.length = none → orderOf S = ([], 11)) := fun e => by simp [orderOf, HL.out, e]
      have HOs : Hid (∀ o, orderTo S S.length = some o → orderOf S = (o, 0)) := fun o e => by simp [orderOf, HL.out, e]
      obtain ⟨i9, hi9, hz0, hz1, hz2⟩ := info_parts Try.info9
      go_wp2_with fail
      go_loopw [8] (fun v wq => ∃ o : List (List UInt8), o.length ≤ T.length ∧ orderTo S o.length = some o ∧ wq.ownsRow w.heap.size 9 1 v o.length (o.map encStr) ∧ Below w.heap.size w wq) (fun v wq => T.length - lenOf v)
      case atStart => exact ⟨[], Nat.zero_le _, rfl, World.ownsRow_nil _ _ _ _, HNX.out⟩
      case round =>
        obtain ⟨o, hol, hoT, hrow, hnq⟩ := hrel
        have HOT := hidR hoT
        have HROW := hidR hrow
        have HNQ := hidR hnq
        have hszq := hnq.size
        have hcr2 := HC.out wr hnq
        obtain ⟨a5, c5, rfl⟩ := row_shape hrow
        clear hoT
        by_cases hlt2 : o.length < T.length
        · have HNX2 := hidR (refNext_any o (by omega) a5 c5 wr (StrsAt.of_row hrow) r T (HH.out.below hnq (Nat.le_refl _)))
          go_wp2_with fail
          refine HNX2.out.mono ?_
          rintro e w3 ⟨i, hi, rfl, rfl⟩
          rcases HSM.out.next hi with ⟨rfl, hnone⟩ | ⟨k3, rfl, hk3, hsome⟩
          · have HE : Hid (orderOf S = ([], 11)) := HOn.out (orderTo_none S (o.length + 1) S.length (orderTo_succ_none HOT.out hnone) (by have := HLN.out; omega))
            clear hi hnone hrow hnq
            go_wp2
            go_ret2
            rw [HE.out]
            exact ⟨_, rfl, World.ownsRow_nil _ _ _ _, HNQ.out⟩
          · have HE : Hid (orderTo S (o ++ [nmAt T k3]).length = some (o ++ [nmAt T k3])) := by
              show orderTo S _ = _
              rw [List.length_append, List.length_singleton]
              exact orderTo_succ_some HOT.out hsome
            rcases (HN.out.below hnq (Nat.le_refl _)).1 with ⟨h0, _⟩ | ⟨g, off, cap', hsl, hg, hcl⟩
            · rw [h0] at hk3; exact absurd hk3 (by simp)
            cases hsl
            have hcx : w3.cell? ⟨g, off + k3 * 4, none⟩ = some (.string ⟨(nmAt T k3).toArray⟩) := (hcl k3 hk3).1
            have hk3i : (k3 : Int) < T.length := by omega
            clear hcl hi hsome hrow hnq
            generalize nmAt T k3 = y at *
            go_wp2_with (first
              | (at_builtin; refine wpList_append_own _ rfl _ _ 27 rfl w.heap.size 9 i9 (.string ⟨#[]⟩) 1 16 Try.underlying27 hi9 hz0 hz1 hz2 rfl (by decide) _ _ _ rfl (HROW.out.alloc _) ⟨w3.heap.size, 0, none⟩ 1 1 [encStr y] rfl rfl (cell_one_new _ _ _) (by simp [Value.oneCell', encStr]) (by unfold maxLen; omega) (by omega) (by simp; omega) ?_; intro v' w5 hown5 hg5 hnil5; obtain ⟨a6, c6, rfl⟩ := row_shape hown5; clear hnil5)
              | go_in)
            go_roundw
            case rel =>
              refine ⟨o ++ [y], by simp; omega, HE.out, by simpa using hown5, (HNQ.out.alloc hszq _).grown hg5 (by simp; omega) (fun j hj => (HROW.out.lt j hj).1)⟩
            case measure => simp [lenOf]; omega
        · clear hrow hnq
          go_wp2
          go_ret2
          have hle : o.length = S.length := by have := HLN.out; omega
          rw [hle] at HOT
          rw [HOs.out o HOT.out]
          exact ⟨_, rfl, HROW.out, HNQ.out⟩
end Go.Proofs.Ytnjjpahpaeblfaa
