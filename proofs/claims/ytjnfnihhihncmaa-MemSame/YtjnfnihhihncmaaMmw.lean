/- The statements' own Segments. -/
import Derived.Test.YtjnfnihhihncmaaMmt
import Derived.Test.YtjnfnihhihncmaaHeldS
namespace Go.Proofs.Ytjnfnihhihncmaa
open Go.RowKit
set_option linter.unusedVariables false

/- cells of segments: their bytes lie in rows of their own, of bytes, at or above B -/
def SgC (B : Nat) (w : World) (xs : List Value) (L : List Sg) : Prop :=
  xs.length = L.length * 2 ∧ ∀ i (h : i < L.length), ∃ g n c cs, xs[i * 2]? = some (.int .i64 L[i].1) ∧ xs[i * 2 + 1]? = some (.slice (some ⟨g, 0, none⟩) n c) ∧ n = L[i].2.length ∧ B ≤ g ∧ w.heap[g]? = some (.cells cs (5 : TypeId) (0, 0)) ∧ ∀ j, j < n → cs[j]? = some (.int .u8 ((L[i].2.getD j 0).toNat : Int))
theorem Try.infoSg : (Try.prog.info? 72).map (fun i => (i.zero, i.size, i.bytes)) = some (some (.agg #[.int .i64 0, .slice none 0 0]), 2, 32) := by kernel_rfl
theorem Try.infoBy : (Try.prog.info? 5).map (fun i => (i.zero, i.size, i.bytes)) = some (some (.int .u8 0), 1, 1) := by kernel_rfl
/- the argument: as the program's own slices read, nil ones with no room -/
def SgsIn (w : World) (v : Value) (L : List Sg) : Prop :=
  ∃ va rc, v = .slice va L.length rc ∧ ∀ i (h : i < L.length), ∃ g o ba bc, va = some ⟨g, o, none⟩ ∧ g < w.heap.size ∧ w.cell? ⟨g, o + i * 2, none⟩ = some (.int .i64 L[i].1) ∧ w.cell? ⟨g, o + i * 2 + 1, none⟩ = some (.slice ba L[i].2.length bc) ∧ (ba = none → bc = 0) ∧
    ∀ j, j < L[i].2.length → ∃ g o, ba = some ⟨g, o, none⟩ ∧ g < w.heap.size ∧ w.cell? ⟨g, o + j, none⟩ = some (.int .u8 ((L[i].2.getD j 0).toNat : Int))
theorem own_blk {w : World} {base n gb : Nat} {e : TypeId} {s : Nat} {v : Value} {xs : List Value} (h : w.ownsRow base e s v n xs) (hb : v.ownBlock = some gb) : ∃ cur, w.heap[gb]? = some (.cells cur e (0, 0)) := by
  rcases h.2 with ⟨rfl, h0⟩ | ⟨g, cap, cur, rfl, hb', hg, _⟩
  · cases hb
  · cases hb; exact ⟨cur, hg⟩
theorem wp_append_none {w : World} {o : Oper} {a : Act} {K : Act → World → Prop} {Q : Exit → Act → World → Prop} (s x : Operand)
    (ho : o.op = .call { callee := .builtin .append, args := #[s, x], argTypes := #[69, 69] }) (base : Nat) (v : Value) (n : Nat) (xs : List Value) (hs : a.eval s = v) (hown : w.ownsRow base 5 1 v n xs) (hx : a.eval x = .slice none 0 0)
    (h : K (a.put o.dst v) w) : o.wp Try.prog a w K Q := by
  obtain ⟨i0, hi, hz0, hz1, hz2⟩ := info_parts Try.infoBy
  have hrun := run_append_owned_none (P := Try.prog) (w := w) base 69 o.type 5 i0 1 Try.underlying69 hi v n xs hown
  unfold Oper.wp
  simp [execOp, ho, resolve, invoke, builtin, hs, hx, hrun, Result.andThen]
  exact h
theorem wp_append_by {w : World} {o : Oper} {a : Act} {K : Act → World → Prop} {Q : Exit → Act → World → Prop} (s x : Operand)
    (ho : o.op = .call { callee := .builtin .append, args := #[s, x], argTypes := #[69, 69] }) (base : Nat) (v : Value) (hs : a.eval s = v) (hown : w.ownsRow base 5 1 v 0 []) (ad : Addr) (m c : Nat) (bs : List UInt8) (hm : m = bs.length) (hx : a.eval x = .slice (some ad) m c)
    (hc : ∀ j, j < bs.length → ∃ g o, ad = ⟨g, o, none⟩ ∧ w.cell? ⟨g, o + j, none⟩ = some (.int .u8 ((bs.getD j 0).toNat : Int))) (hl : bs.length ≤ 140737488351232) (hbase : base ≤ w.heap.size)
    (h : ∀ v' w', w'.ownsRow base 5 1 v' bs.length (bs.map encB) → w.grownBy w' v.ownBlock → (v' = .slice none 0 0 ↔ v = .slice none 0 0 ∧ m = 0) → K (a.put o.dst v') w') : o.wp Try.prog a w K Q := by
  obtain ⟨i0, hi, hz0, hz1, hz2⟩ := info_parts Try.infoBy
  subst hm
  refine wp_append_own w s x 69 ho base 5 i0 _ 1 1 Try.underlying69 hi hz0 hz1 hz2 rfl (by decide) v 0 [] hs hown ad bs.length c (bs.map encB) hx (by simp) (fun j u hu => ?_) (by intro u hu; obtain ⟨t, _, rfl⟩ := List.mem_map.1 hu; rfl) (by unfold maxLen; omega) (by omega) hbase fun v' w' h1 h2 h3 => h v' w' (by simpa using h1) h2 h3
  have hj : j < bs.length := by
    rcases Nat.lt_or_ge j bs.length with h1 | h1
    · exact h1
    · rw [List.getElem?_eq_none (by rw [List.length_map]; exact h1)] at hu; cases hu
  obtain ⟨g, o, rfl, hcell⟩ := hc j hj
  rw [show (⟨g, o, none⟩ : Addr).add j = ⟨g, o + j, none⟩ from Addr.add_lit .., hcell, ← hu, List.getElem?_map, List.getElem?_eq_getElem hj, List.getD_eq_getElem?_getD, List.getElem?_eq_getElem hj]
  rfl
theorem wp_append_sg {w : World} {o : Oper} {a : Act} {K : Act → World → Prop} {Q : Exit → Act → World → Prop} (s x : Operand)
    (ho : o.op = .call { callee := .builtin .append, args := #[s, x], argTypes := #[73, 73] }) (base : Nat) (v : Value) (n : Nat) (xs : List Value) (hs : a.eval s = v) (hown : w.ownsRow base 72 2 v n xs) (g : Nat) (u1 u2 : Value) (hx : a.eval x = .slice (some ⟨g, 0, none⟩) 1 1)
    (hg : w.heap[g]? = some (.cells #[u1, u2] 72 (0, 0))) (h1 : u1.oneCell' = true) (h2 : u2.oneCell' = true) (hl : n + 1 ≤ 4398046511104) (hbase : base ≤ w.heap.size)
    (h : ∀ v' w', w'.ownsRow base 72 2 v' (n + 1) (xs ++ [u1, u2]) → w.grownBy w' v.ownBlock → K (a.put o.dst v') w') : o.wp Try.prog a w K Q := by
  obtain ⟨i0, hi, hz0, hz1, hz2⟩ := info_parts Try.infoSg
  refine wp_append_own w s x 73 ho base 72 i0 _ 2 32 Try.underlying73 hi hz0 hz1 hz2 rfl (by decide) v n xs hs hown ⟨g, 0, none⟩ 1 1 [u1, u2] hx rfl (fun j u hu => ?_) (fun u hu => ?_) (by unfold maxLen; omega) (by omega) hbase fun v' w' h1 h2 _ => h v' w' h1 h2
  · rw [Go.WideShapes.add_plain, cell_of_row _ _ _ _ _ _ hg]
    match j, hu with
    | 0, hu => simpa using hu
    | 1, hu => simpa using hu
    | j + 2, hu => simp at hu
  · simp only [List.mem_cons, List.not_mem_nil, or_false] at hu
    rcases hu with rfl | rfl
    · exact h1
    · exact h2
/- one segment more behind the others -/
theorem SgC.more {B : Nat} {w w' : World} {xs : List Value} {L : List Sg} {s : Sg} {v : Value} (h : SgC B w xs L) (hg : w.grownBy w' v.ownBlock) (ht : ∀ gb, v.ownBlock = some gb → ∃ cur, w.heap[gb]? = some (.cells cur (72 : TypeId) (0, 0))) {g n c : Nat} {cs : Array Value} (hn : n = s.2.length) (hB : B ≤ g) (hc : w.heap[g]? = some (.cells cs (5 : TypeId) (0, 0))) (hb : ∀ j, j < n → cs[j]? = some (.int .u8 ((s.2.getD j 0).toNat : Int))) :
    SgC B w' (xs ++ [.int .i64 s.1, .slice (some ⟨g, 0, none⟩) n c]) (L ++ [s]) := by
  have keep : ∀ g' cs', w.heap[g']? = some (Obj.cells cs' (5 : TypeId) (0, 0)) → w'.heap[g']? = some (Obj.cells cs' (5 : TypeId) (0, 0)) := fun g' cs' hc' => by
    refine (hg.block g' (row_lt hc') fun e => ?_).trans hc'
    obtain ⟨cur, hcur⟩ := ht g' e.symm
    rw [hc'] at hcur
    cases hcur
  refine ⟨by rw [List.length_append, List.length_append, h.1]; simp; omega, fun i hi => ?_⟩
  rw [List.length_append, List.length_singleton] at hi
  by_cases hl : i < L.length
  · obtain ⟨g', n', c', cs', e1, e2, e3, e4, e5, e6⟩ := h.2 i hl
    have hx : (L ++ [s])[i]'(by rw [List.length_append, List.length_singleton]; exact hi) = L[i] := List.getElem_append_left hl
    rw [hx]
    exact ⟨g', n', c', cs', by rw [List.getElem?_append_left (by rw [h.1]; omega)]; exact e1, by rw [List.getElem?_append_left (by rw [h.1]; omega)]; exact e2, e3, e4, keep _ _ e5, e6⟩
  · obtain rfl : i = L.length := by omega
    have hx : (L ++ [s])[L.length]'(by rw [List.length_append, List.length_singleton]; exact hi) = s := by simp
    rw [hx]
    refine ⟨g, n, c, cs, ?_, ?_, hn, hB, keep _ _ hc, hb⟩
    · rw [List.getElem?_append_right (by rw [h.1]; omega), h.1, Nat.sub_self]; rfl
    · rw [List.getElem?_append_right (by rw [h.1]; omega), h.1, Nat.add_sub_cancel_left]; rfl
theorem SgC.below {B : Nat} {w w' : World} {xs : List Value} {L : List Sg} (h : SgC B w xs L) (hb : Below w.heap.size w w') : SgC B w' xs L :=
  ⟨h.1, fun i hi => by
    obtain ⟨g', n', c', cs', e1, e2, e3, e4, e5, e6⟩ := h.2 i hi
    exact ⟨g', n', c', cs', e1, e2, e3, e4, (hb.block _ (row_lt e5)).trans e5, e6⟩⟩
theorem own_emptyB (w : World) : (w.alloc (.cells #[] (5 : TypeId))).ownsRow w.heap.size 5 1 (.slice (some ⟨w.heap.size, 0, none⟩) 0 0) 0 [] :=
  ⟨rfl, .inr ⟨w.heap.size, 0, #[], rfl, Nat.le_refl _, heap_alloc_new _ _, Nat.le_refl _, Nat.zero_le _, rfl, rfl⟩⟩
set_option maxRecDepth 100000 in
set_option maxHeartbeats 6400000 in
theorem segs_any (L : List Sg) (hl : L.length ≤ 4398046511000) (hb : ∀ s ∈ L, s.2.length ≤ 140737488351232) (v : Value) (w : World) (hv : SgsIn w v L) :
    Calls Try.prog 27 #[v] w fun e w' => ∃ u, e = .returned u ∧ SgsAt (fun g => w.heap.size ≤ g) w' u L ∧ Below w.heap.size w w' := by
  have HLB := hidD hb
  obtain ⟨va, rc, rfl, hcv⟩ := hv
  have HCV := hidD hcv
  clear hb hcv
  go_enter Try.func27, Try.ntmps27
  go_wp2_with fail
  go_loopw [3, 4] (fun u i wr => ∃ (n : Nat) (xs : List Value), n ≤ L.length ∧ i = .int .i64 n ∧ wr.ownsRow w.heap.size 72 2 u n xs ∧ SgC w.heap.size wr xs (L.take n) ∧ Below w.heap.size w wr) (fun _ i _ => L.length - (intOf i).toNat)
  case atStart => exact ⟨0, [], Nat.zero_le _, rfl, World.ownsRow_nil _ _ _ _, ⟨rfl, fun i hi => absurd hi (by simp)⟩, Below.refl _ _⟩
  case round =>
    obtain ⟨n, xs, hn, rfl, how, hsg, hbel⟩ := hrel
    have HBW := hidD hbel
    have HOW := hidD how
    have HSG := hidD hsg
    clear hbel how hsg
    by_cases hlt : n < L.length
    · have hlti : (n : Int) < L.length := by omega
      obtain ⟨g, o, ba, bc, rfl, hg, k0, k1, hbn0, hbc⟩ := HCV.out n hlt
      have hbn := HLB.out _ (List.getElem_mem hlt)
      have HBC := hidD hbc
      have HNZ : Hid (ba = none → L[n].2.length = 0) := fun e => Nat.eq_zero_of_not_pos fun hp => by obtain ⟨g, o, e2, _⟩ := hbc 0 hp; rw [e] at e2; cases e2
      have HTK : Hid (L.take (n + 1) = L.take n ++ [L[n]]) := by show _ = _; rw [List.take_succ_eq_append_getElem hlt]
      clear hbc
      go_wp2_with fail
      have HBD : Hid (Below w.heap.size w wr.drew) := HBW.out.drew
      have HOD : Hid (wr.drew.ownsRow w.heap.size 72 2 u3 n xs) := HOW.out
      refine wp_region_held_drew (S := fun w' => w'.cell? ⟨g, o + n * 2, none⟩ = some (.int .i64 L[n].1) ∧ w'.cell? ⟨g, o + n * 2 + 1, none⟩ = some (.slice ba L[n].2.length bc)) (by kernel_rfl) ?_ (fun hHeld => ?_)
      · exact ⟨(HBD.out.cell (p := ⟨g, o + n * 2, none⟩) hg).trans k0, (HBD.out.cell (p := ⟨g, o + n * 2 + 1, none⟩) hg).trans k1⟩
      refine take_at 0 11 (v := ?_) rfl rfl (by kernel_rfl) (by kernel_rfl) (by kernel_rfl) (fun _ _ _ h => h) (by rfl) (by assumption) (fun w hSw => ?_) ?_
      rotate_left
      · obtain ⟨s0, s1⟩ := hSw; go_simp; first | done | with_reducible rfl
      try simp only [Act.put, List.setIfInBounds_toArray, List.set_cons_zero, List.set_cons_succ]
      refine take_at 1 12 (v := ?_) rfl rfl (by kernel_rfl) (by kernel_rfl) (by kernel_rfl) (fun _ _ _ h => h) (by rfl) (by assumption) (fun w hSw => ?_) ?_
      rotate_left
      · obtain ⟨s0, s1⟩ := hSw; go_simp; first | done | with_reducible rfl
      try simp only [Act.put, List.setIfInBounds_toArray, List.set_cons_zero, List.set_cons_succ]
      refine take_at 2 13 (v := ?_) rfl rfl (by kernel_rfl) (by kernel_rfl) (by kernel_rfl) (fun _ _ _ h => h) (by rfl) (by assumption) (fun w hSw => ?_) ?_
      rotate_left
      · obtain ⟨s0, s1⟩ := hSw; go_simp; first | done | with_reducible rfl
      try simp only [Act.put, List.setIfInBounds_toArray, List.set_cons_zero, List.set_cons_succ]
      refine take_at 3 14 (v := ?_) rfl rfl (by kernel_rfl) (by kernel_rfl) (by kernel_rfl) (fun _ _ _ h => h) (by rfl) (by assumption) (fun w hSw => ?_) ?_
      rotate_left
      · obtain ⟨s0, s1⟩ := hSw; go_simp; first | done | with_reducible rfl
      try simp only [Act.put, List.setIfInBounds_toArray, List.set_cons_zero, List.set_cons_succ]
      refine take_at 4 15 (v := ?_) rfl rfl (by kernel_rfl) (by kernel_rfl) (by kernel_rfl) (fun _ _ _ h => h) (by rfl) (by assumption) (fun w hSw => ?_) ?_
      rotate_left
      · obtain ⟨s0, s1⟩ := hSw; go_simp; first | done | with_reducible rfl
      try simp only [Act.put, List.setIfInBounds_toArray, List.set_cons_zero, List.set_cons_succ]
      refine take_at 5 16 (v := ?_) rfl rfl (by kernel_rfl) (by kernel_rfl) (by kernel_rfl) (fun _ _ _ h => h) (by rfl) (by assumption) (fun w hSw => ?_) ?_
      rotate_left
      · obtain ⟨s0, s1⟩ := hSw; go_simp; first | done | with_reducible rfl
      try simp only [Act.put, List.setIfInBounds_toArray, List.set_cons_zero, List.set_cons_succ]
      refine take_at 7 18 (v := ?_) rfl rfl (by kernel_rfl) (by kernel_rfl) (by kernel_rfl) (fun _ _ _ h => h) (by rfl) (by assumption) (fun w hSw => ?_) ?_
      rotate_left
      · obtain ⟨s0, s1⟩ := hSw; go_simp; first | done | with_reducible rfl
      try simp only [Act.put, List.setIfInBounds_toArray, List.set_cons_zero, List.set_cons_succ]
      refine take_at 8 19 (v := ?_) rfl rfl (by kernel_rfl) (by kernel_rfl) (by kernel_rfl) (fun _ _ _ h => h) (by rfl) (by assumption) (fun w hSw => ?_) ?_
      rotate_left
      · obtain ⟨s0, s1⟩ := hSw; go_simp; first | done | with_reducible rfl
      try simp only [Act.put, List.setIfInBounds_toArray, List.set_cons_zero, List.set_cons_succ]
      refine take_at 9 20 (v := ?_) rfl rfl (by kernel_rfl) (by kernel_rfl) (by kernel_rfl) (fun _ _ _ h => h) (by rfl) (by assumption) (fun w hSw => ?_) ?_
      rotate_left
      · obtain ⟨s0, s1⟩ := hSw; go_simp; first | done | with_reducible rfl
      try simp only [Act.put, List.setIfInBounds_toArray, List.set_cons_zero, List.set_cons_succ]
      refine take_at 10 21 (v := ?_) rfl rfl (by kernel_rfl) (by kernel_rfl) (by kernel_rfl) (fun _ _ _ h => h) (by rfl) (by assumption) (fun w hSw => ?_) ?_
      rotate_left
      · obtain ⟨s0, s1⟩ := hSw; go_simp; first | done | with_reducible rfl
      try simp only [Act.put, List.setIfInBounds_toArray, List.set_cons_zero, List.set_cons_succ]
      refine take_at 11 22 (v := ?_) rfl rfl (by kernel_rfl) (by kernel_rfl) (by kernel_rfl) (fun _ _ _ h => h) (by rfl) (by assumption) (fun w hSw => ?_) ?_
      rotate_left
      · obtain ⟨s0, s1⟩ := hSw; go_simp; first | done | with_reducible rfl
      try simp only [Act.put, List.setIfInBounds_toArray, List.set_cons_zero, List.set_cons_succ]
      refine move_at 6 rfl (by kernel_rfl) (by rfl) (fun K hK => ?_)
      go_simp
      have HBE := hidD (pin_map (w := wr.drew) (.cells #[] (5 : TypeId)))
      have HE := hidD (own_emptyB wr.drew)
      have HO4 := hidD (row_below HOD.out HBE.out)
      have HB4 := hidD (Below.next HBD.out HBE.out)
      refine hK.out _ _ ⟨(HBE.out.cell (p := ⟨g, o + n * 2, none⟩) (Nat.lt_of_lt_of_le hg HBD.out.size)).trans hHeld.1, (HBE.out.cell (p := ⟨g, o + n * 2 + 1, none⟩) (Nat.lt_of_lt_of_le hg HBD.out.size)).trans hHeld.2⟩ (fun hHeld2 => ?_)
      clear hK K
      try simp only [Act.put, List.setIfInBounds_toArray, List.set_cons_zero, List.set_cons_succ]
      have HK0 := hidD k0
      have HK1 := hidD k1
      clear k0 k1
      cases ba with
      | none =>
        have hz := HNZ.out rfl
        have hbz := hbn0 rfl
        subst hbz
        rw [hz] at hHeld hHeld2 ⊢
        refine move_at 12 rfl (by kernel_rfl) (by rfl) (fun K hK => ?_)
        refine wp_append_none _ _ rfl wr.drew.heap.size _ 0 [] rfl HE.out rfl ?_
        change K (Act.put _ (some 23) (.slice (some ⟨wr.heap.size, 0, none⟩) 0 0)) (wr.drew.alloc (.cells #[] (5 : TypeId)))
        obtain ⟨w5, hw5⟩ : ∃ w5, w5 = wr.drew.alloc (.cells #[] (5 : TypeId)) := ⟨_, rfl⟩
        rw [← hw5]
        have HB5 : Hid (Below wr.drew.heap.size wr.drew w5) := by rw [hw5]; exact HBE.out
        have HC5 : Hid (w5.heap[wr.heap.size]? = some (.cells #[] (5 : TypeId) (0, 0))) := by rw [hw5]; exact heap_alloc_last wr.drew _
        have HQ5 : Hid (0 = L[n].2.length ∧ w.heap.size ≤ wr.heap.size ∧ ∀ j, j < 0 → (#[] : Array Value)[j]? = some (.int .u8 ((L[n].2.getD j 0).toNat : Int))) := ⟨hz.symm, HBW.out.size, fun j hj => absurd hj (by omega)⟩
        have HO5 : Hid (w5.ownsRow w.heap.size 72 2 u3 n xs) := by rw [hw5]; exact HO4.out
        have HW5 : Hid (Below w.heap.size w w5) := by rw [hw5]; exact HB4.out
        refine hK.out _ _ (by rw [hw5]; exact hHeld2) (fun hHeld3 => ?_)
        clear hK K HO4 HB4 HBE HE
        clear hw5
        try simp only [Act.put, List.setIfInBounds_toArray, List.set_cons_zero, List.set_cons_succ]
        refine take_at 13 24 (v := ?_) rfl rfl (by kernel_rfl) (by kernel_rfl) (by kernel_rfl) (fun _ _ _ h => h) (by rfl) (by assumption) (fun w hSw => ?_) ?_
        rotate_left
        · obtain ⟨s0, s1⟩ := hSw; go_simp; first | done | with_reducible rfl
        try simp only [Act.put, List.setIfInBounds_toArray, List.set_cons_zero, List.set_cons_succ]
        refine move_at 14 rfl (by kernel_rfl) (by rfl) (fun K hK => ?_)
        go_simp
        have HB6 := hidD (pin_map (w := w5) (.cells #[.int .i64 L[n].1, .slice (some ⟨wr.heap.size, 0, none⟩) 0 0] (72 : TypeId)))
        have HR6 := hidD (heap_alloc_last w5 (.cells #[.int .i64 L[n].1, .slice (some ⟨wr.heap.size, 0, none⟩) 0 0] (72 : TypeId)))
        have HO6 := hidD (row_below HO5.out HB6.out)
        have HW6 := hidD (Below.next HW5.out HB6.out)
        have HC6 := hidD ((HB6.out.block _ (row_lt HC5.out)).trans HC5.out)
        have HS6 := hidD (SgC.below (SgC.below HSG.out ((Below.refl _ _).drew)) (HB5.out.trans (HB6.out.mono HB5.out.size)))
        refine hK.out _ _ ⟨(HB6.out.cell (p := ⟨g, o + n * 2, none⟩) (Nat.lt_of_lt_of_le hg HW5.out.size)).trans hHeld3.1, (HB6.out.cell (p := ⟨g, o + n * 2 + 1, none⟩) (Nat.lt_of_lt_of_le hg HW5.out.size)).trans hHeld3.2⟩ (fun hHeld4 => ?_)
        clear hK K
        try simp only [Act.put, List.setIfInBounds_toArray, List.set_cons_zero, List.set_cons_succ]
        refine move_at 15 rfl (by kernel_rfl) (by rfl) (fun K hK => ?_)
        refine wp_append_sg _ _ rfl w.heap.size u3 n xs rfl HO6.out w5.heap.size _ _ rfl HR6.out rfl rfl (by omega) HW6.out.size (fun v2 w7 h1 h2 => ?_)
        have HO7 := hidD h1
        have HW7 := hidD (row_grown HO6.out HW6.out h2 HW6.out.size)
        have HS7 := hidD (SgC.more (s := L[n]) (c := 0) HS6.out h2 (fun gb e => own_blk HO6.out e) HQ5.out.1 HQ5.out.2.1 HC6.out HQ5.out.2.2)
        change K (Act.put _ (some 26) _) _
        refine hK.out _ _ ⟨(HW7.out.cell (p := ⟨g, o + n * 2, none⟩) hg).trans HK0.out, (HW7.out.cell (p := ⟨g, o + n * 2 + 1, none⟩) hg).trans (by have := HK1.out; rw [hz] at this; exact this)⟩ (fun hHeld5 => ?_)
        clear hK K h1 h2
        try simp only [Act.put, List.setIfInBounds_toArray, List.set_cons_zero, List.set_cons_succ]
        refine take_at 16 3 (v := ?_) rfl rfl (by kernel_rfl) (by kernel_rfl) (by kernel_rfl) (fun _ _ _ h => h) (by rfl) (by assumption) (fun w hSw => ?_) ?_
        rotate_left
        · obtain ⟨s0, s1⟩ := hSw; go_simp; first | done | with_reducible rfl
        try simp only [Act.put, List.setIfInBounds_toArray, List.set_cons_zero, List.set_cons_succ]
        refine wpAnyH_done (by kernel_rfl) ?_ _
        go_wp2_with fail
        exact ⟨⟨n + 1, _, by omega, by simp, HO7.out, by rw [HTK.out]; exact HS7.out, HW7.out⟩, by simp [intOf]; omega⟩
      | some ad =>
        refine move_at 12 rfl (by kernel_rfl) (by rfl) (fun K hK => ?_)
        refine wp_append_by _ _ rfl wr.drew.heap.size _ rfl HE.out ad L[n].2.length bc L[n].2 rfl rfl (fun j hj => ?_) hbn HBE.out.size (fun v' w5 h1 h2 h3 => ?_)
        · obtain ⟨g', o', e, hg', hc'⟩ := HBC.out j hj
          cases e
          exact ⟨g', o', rfl, (HBE.out.cell (p := ⟨g', o' + j, none⟩) (Nat.lt_of_lt_of_le hg' HBD.out.size)).trans ((HBD.out.cell (p := ⟨g', o' + j, none⟩) hg').trans hc')⟩
        have hvn : v' ≠ .slice none 0 0 := fun e => by have := (h3.1 e).1; cases this
        rcases h1.2 with ⟨e, _⟩ | ⟨g2, cp2, cs2, rfl, hg2, hc2, q1, q2, q3, q4⟩
        · exact absurd e hvn
        have HB5 := hidD (row_grown HE.out HBE.out h2 HBE.out.size)
        have HC5 := hidD hc2
        have HQ5 : Hid (L[n].2.length = L[n].2.length ∧ w.heap.size ≤ g2 ∧ ∀ j, j < L[n].2.length → cs2[j]? = some (.int .u8 ((L[n].2.getD j 0).toNat : Int))) := by
          refine ⟨rfl, Nat.le_trans HBD.out.size hg2, fun j hj => ?_⟩
          have e1 : (cs2.toList.take (L[n].2.length * 1))[j]? = cs2[j]? := by rw [List.getElem?_take_of_lt (by omega), Array.getElem?_toList]
          rw [← e1, q4, List.getElem?_map, List.getElem?_eq_getElem hj, List.getD_eq_getElem?_getD, List.getElem?_eq_getElem hj]
          rfl
        have HO5 := hidD (row_below HOD.out HB5.out)
        have HW5 := hidD (Below.next HBD.out HB5.out)
        change K (Act.put _ (some 23) _) _
        refine hK.out _ _ ⟨(HB5.out.cell (p := ⟨g, o + n * 2, none⟩) (Nat.lt_of_lt_of_le hg HBD.out.size)).trans hHeld.1, (HB5.out.cell (p := ⟨g, o + n * 2 + 1, none⟩) (Nat.lt_of_lt_of_le hg HBD.out.size)).trans hHeld.2⟩ (fun hHeld3 => ?_)
        clear hK K h1 h2 h3 hvn hg2 hc2 q1 q2 q3 q4
        try simp only [Act.put, List.setIfInBounds_toArray, List.set_cons_zero, List.set_cons_succ]
        refine take_at 13 24 (v := ?_) rfl rfl (by kernel_rfl) (by kernel_rfl) (by kernel_rfl) (fun _ _ _ h => h) (by rfl) (by assumption) (fun w hSw => ?_) ?_
        rotate_left
        · obtain ⟨s0, s1⟩ := hSw; go_simp; first | done | with_reducible rfl
        try simp only [Act.put, List.setIfInBounds_toArray, List.set_cons_zero, List.set_cons_succ]
        refine move_at 14 rfl (by kernel_rfl) (by rfl) (fun K hK => ?_)
        go_simp
        have HB6 := hidD (pin_map (w := w5) (.cells #[.int .i64 L[n].1, .slice (some ⟨g2, 0, none⟩) L[n].2.length cp2] (72 : TypeId)))
        have HR6 := hidD (heap_alloc_last w5 (.cells #[.int .i64 L[n].1, .slice (some ⟨g2, 0, none⟩) L[n].2.length cp2] (72 : TypeId)))
        have HO6 := hidD (row_below HO5.out HB6.out)
        have HW6 := hidD (Below.next HW5.out HB6.out)
        have HC6 := hidD ((HB6.out.block _ (row_lt HC5.out)).trans HC5.out)
        have HS6 := hidD (SgC.below (SgC.below HSG.out ((Below.refl _ _).drew)) (HB5.out.trans (HB6.out.mono HB5.out.size)))
        refine hK.out _ _ ⟨(HB6.out.cell (p := ⟨g, o + n * 2, none⟩) (Nat.lt_of_lt_of_le hg HW5.out.size)).trans hHeld3.1, (HB6.out.cell (p := ⟨g, o + n * 2 + 1, none⟩) (Nat.lt_of_lt_of_le hg HW5.out.size)).trans hHeld3.2⟩ (fun hHeld4 => ?_)
        clear hK K
        try simp only [Act.put, List.setIfInBounds_toArray, List.set_cons_zero, List.set_cons_succ]
        refine move_at 15 rfl (by kernel_rfl) (by rfl) (fun K hK => ?_)
        refine wp_append_sg _ _ rfl w.heap.size u3 n xs rfl HO6.out w5.heap.size _ _ rfl HR6.out rfl rfl (by omega) HW6.out.size (fun v2 w7 h1 h2 => ?_)
        have HO7 := hidD h1
        have HW7 := hidD (row_grown HO6.out HW6.out h2 HW6.out.size)
        have HS7 := hidD (SgC.more (s := L[n]) (c := cp2) HS6.out h2 (fun gb e => own_blk HO6.out e) HQ5.out.1 HQ5.out.2.1 HC6.out HQ5.out.2.2)
        change K (Act.put _ (some 26) _) _
        refine hK.out _ _ ⟨(HW7.out.cell (p := ⟨g, o + n * 2, none⟩) hg).trans HK0.out, (HW7.out.cell (p := ⟨g, o + n * 2 + 1, none⟩) hg).trans HK1.out⟩ (fun hHeld5 => ?_)
        clear hK K h1 h2
        try simp only [Act.put, List.setIfInBounds_toArray, List.set_cons_zero, List.set_cons_succ]
        refine take_at 16 3 (v := ?_) rfl rfl (by kernel_rfl) (by kernel_rfl) (by kernel_rfl) (fun _ _ _ h => h) (by rfl) (by assumption) (fun w hSw => ?_) ?_
        rotate_left
        · obtain ⟨s0, s1⟩ := hSw; go_simp; first | done | with_reducible rfl
        try simp only [Act.put, List.setIfInBounds_toArray, List.set_cons_zero, List.set_cons_succ]
        refine wpAnyH_done (by kernel_rfl) ?_ _
        go_wp2_with fail
        exact ⟨⟨n + 1, _, by omega, by simp, HO7.out, by rw [HTK.out]; exact HS7.out, HW7.out⟩, by simp [intOf]; omega⟩
    · have hnl : n = L.length := by omega
      have hnni : ¬ (n : Int) < L.length := by omega
      go_wp2_with fail
      refine bodyPost_ret (v := u3) (by simp [results, Try.results27, go_sem]) rfl ?_
      refine ⟨u3, rfl, ?_, HBW.out⟩
      have hsg := HSG.out
      rw [hnl, List.take_length] at hsg
      have how := HOW.out
      rw [hnl] at how
      rcases how.2 with ⟨rfl, h0⟩ | ⟨g, cap, cur, rfl, hb', hg, h1, h2, h3, h4⟩
      · exact ⟨none, 0, by rw [h0], fun i hi => by omega⟩
      · refine ⟨some ⟨g, 0, none⟩, cap, rfl, fun i hi => ?_⟩
        obtain ⟨g', n', c', cs', e1, e2, e3, e4, e5, e6⟩ := hsg.2 i hi
        rw [← h4] at e1 e2
        rw [List.getElem?_take_of_lt (by omega)] at e1 e2
        refine ⟨g, 0, .slice (some ⟨g', 0, none⟩) n' c', rfl, row_lt hg, hb', ?_, ?_, ⟨some ⟨g', 0, none⟩, c', by rw [e3], fun j hj => ⟨g', 0, rfl, row_lt e5, e4, ?_⟩⟩⟩
        · rw [cell_of_row _ _ _ _ _ _ hg, ← Array.getElem?_toList, Nat.zero_add]; exact e1
        · rw [cell_of_row _ _ _ _ _ _ hg, ← Array.getElem?_toList, Nat.zero_add]; exact e2
        · rw [cell_of_row _ _ _ _ _ _ e5, Nat.zero_add]; exact e6 j (by omega)
end Go.Proofs.Ytjnfnihhihncmaa
