/- What Under of the document's shelf answers: the same as the program's. -/
import Derived.Test.YtnjjpahpaeblfaaSortR
import Derived.Test.YtnjjpahpaeblfaaUnd
namespace Go.Proofs.Ytnjjpahpaeblfaa
open Go.RowKit Go.Maps Go.Sort
set_option linter.unusedVariables false

/-- append([]string{}, l...): a row of one's own, l nil or not. -/
theorem wpList_append_strs {ops : Array Oper} {rest : List Oper} {o : Oper} {a : Act} {Q : Exit → Act → World → Prop} {w : World} (hgd : o.guard = none) (s x : Operand)
    (ho : o.op = .call { callee := .builtin .append, args := #[s, x], argTypes := #[27, 27] }) (base g : Nat) (ls : List (List UInt8)) (hl : ls.length ≤ 8796093022208)
    (hs : a.eval s = .slice (some ⟨g, 0, none⟩) 0 0) (hown : w.ownsRow base 9 1 (.slice (some ⟨g, 0, none⟩) 0 0) 0 []) (sl : Value) (hx : a.eval x = sl) (hsrc : StrsAt w sl ls) (hbase : base ≤ w.heap.size)
    (h : ∀ a' c' w', w'.ownsRow base 9 1 (.slice a' ls.length c') ls.length (ls.map encStr) → w.grownBy w' (some g) → wpList Try.prog ops Q rest (a.put o.dst (.slice a' ls.length c')) w') : wpList Try.prog ops Q (o :: rest) a w := by
  obtain ⟨i0, hi, hz0, hz1, hz2⟩ := info_parts Try.info9
  rcases hsrc.source with ⟨h1, h2⟩ | ⟨ad, cap', h1, hc⟩
  · subst h2
    refine wpList_append_own_none hgd s x 27 ho base 9 i0 1 Try.underlying27 hi _ 0 [] hs hown (hx.trans h1) ?_
    exact h (some ⟨g, 0, none⟩) 0 w hown ⟨rfl, rfl, rfl, Nat.le_refl _, fun _ _ _ => rfl⟩
  · refine wpList_append_own w hgd s x 27 ho base 9 i0 (.string ⟨#[]⟩) 1 16 Try.underlying27 hi hz0 hz1 hz2 rfl (by decide) _ 0 [] hs hown ad ls.length cap' (ls.map encStr) (hx.trans h1) (by simp) (hc w w.heap.size (Below.refl _ _) (Nat.le_refl _)) (strs_oneCell ls) (by unfold maxLen; omega) (by omega) hbase ?_
    intro v' w3 hown' hg3 hnil3
    obtain ⟨a', c', rfl⟩ := row_shape hown'
    have := h a' c' w3 (by simpa using hown') hg3
    simpa using this

theorem UnderTo.begin {S : List Nt} {x : List UInt8} (hn : (leansOf S x).Nodup) : UnderTo S x (leansOf S x) 0 :=
  ⟨hn, fun y hy => hy, fun j hj => by omega, fun P hP y hy => hP.1 y hy⟩
theorem leansOf_or (S : List Nt) (x : List UInt8) : leansOf S x = [] ∨ ∃ n ∈ S, leansOf S x = n.leans := by
  unfold leansOf
  split
  · rename_i n hn; exact .inr ⟨n, List.mem_of_find?_eq_some hn, rfl⟩
  · exact .inl rfl
theorem addL_take_le (U m : List (List UInt8)) (q : Nat) (hq : q ≤ m.length) : (addL U (m.take q)).length ≤ U.length + m.length := by
  have := addL_len U (m.take q)
  rw [List.length_take] at this
  omega
theorem Same.foundAt {S : List Nt} {T : List Ne} (h : Same S T) {x : List UInt8} {k : Nat} (hf : foundB T x k = true) : k < T.length ∧ leansOf S x = (T.getD k ne0).n.leans := by
  unfold foundB at hf
  rw [Bool.and_eq_true, decide_eq_true_eq, beq_iff_eq] at hf
  refine ⟨hf.1, ?_⟩
  rw [← hf.2]
  exact (h.at_ hf.1).2.2

/-- What the right notes of a shelf are, for the walk. -/
structure Few (S : List Nt) : Prop where
  few : S.length ≤ 64
  leans : ∀ n ∈ S, n.leans.length ≤ 8 ∧ n.leans.Nodup
theorem Few.leansOf8 {S : List Nt} (h : Few S) (x : List UInt8) : (leansOf S x).length ≤ 8 ∧ (leansOf S x).Nodup := by
  rcases leansOf_or S x with h0 | ⟨n, hn, h0⟩
  · rw [h0]; simp
  · rw [h0]; exact h.leans n hn
theorem Few.under {S : List Nt} (h : Few S) {x : List UInt8} {U : List (List UInt8)} {i : Nat} (hU : UnderTo S x U i) : U.length ≤ 512 := by
  have h1 := nodup_len hU.1 hU.all
  have h2 := flat_len (fun n hn => (h.leans n hn).1)
  have h3 := h.few
  omega

set_option maxRecDepth 100000 in
set_option maxHeartbeats 4000000 in
theorem refUnder_any (x : List UInt8) (w : World) (r : Nat) (T : List Ne) (h : RS w r T) (S : List Nt) (hS : Same S T) (hF : Few S) :
    Calls Try.prog 36 #[.pointer (some ⟨r, 0, none⟩), .string ⟨x.toArray⟩] w fun e w' => ∃ v U, e = .returned v ∧ IsUnder S x U ∧ U.length ≤ 512 ∧ w'.ownsRow w.heap.size 9 1 v U.length ((U.mergeSort leB).map encStr) ∧ Below w.heap.size w w' := by
  have HH := hidR h
  have HSM := hidR hS
  have HF := hidR hF
  obtain ⟨i9, hi9, hz0, hz1, hz2⟩ := info_parts Try.info9
  obtain ⟨a, cap, hcell, hN⟩ := h
  have hr : r < w.heap.size := World.block_lt_of_cell? w _ hcell
  have hTl := hN.2.1
  have HN := hidR hN
  have HC : Hid (∀ w', Below w.heap.size w w' → w'.cell? ⟨r, 0, none⟩ = some (.slice a T.length cap)) := fun w' hb => (hb.cell (p := ⟨r, 0, none⟩) hr).trans hcell
  have HFI := hidR (find_any x w r T HH.out)
  clear hN hS hF
  go_enter Try.func36, Try.ntmps36
  go_wp2_with fail
  refine HFI.out.mono ?_
  rintro e w1 ⟨kf, hkf, rfl, hb1⟩
  have HB1 := hidR hb1
  have hsz1 := hb1.size
  have HFB := hidR (HSM.out.found hkf)
  have HFA := hidR (fun h => HSM.out.foundAt (x := x) (k := kf) h)
  generalize foundB T x kf = fb at *
  clear hkf
  cases fb with
  | false =>
    have HL : Hid (leansOf S x = []) := leansOf_out (by rw [← List.contains_iff_mem, ← HFB.out]; simp)
    clear HFA HFB
    go_wp2
    go_ret
    refine ⟨_, [], rfl, ⟨List.nodup_nil, ⟨by rw [HL.out]; simp, by simp⟩, by simp⟩, by simp, by simpa using World.ownsRow_nil _ _ _ _, HB1.out⟩
  | true =>
    obtain ⟨hkl, hle⟩ := HFA.out rfl
    have HLE := hidR hle
    have h8 := (HF.out.leansOf8 x).1
    have HND := hidR (HF.out.leansOf8 x).2
    have HU0 := hidR (UnderTo.begin HND.out)
    rcases HN.out.1 with ⟨h0, _⟩ | ⟨g, off, cap', hsl, hg, hcl⟩
    · rw [h0] at hkl; exact absurd hkl (by simp)
    rw [Value.slice.injEq] at hsl
    obtain ⟨rfl, hq1, hq2⟩ := hsl
    clear hq1 hq2
    have hok := HN.out.2.2 _ (mem_getD1 hkl)
    have HCL := hidR hcl
    have HBA : Hid (∀ o, Below w.heap.size w (w1.alloc o)) := fun o => HB1.out.alloc hsz1 o
    have hc3 : ∀ o, (w1.alloc o).cell? ⟨g, off + kf * 4 + 3, none⟩ = some (.slice (T.getD kf ne0).a (T.getD kf ne0).n.leans.length (T.getD kf ne0).cap) := fun o => ((hcl kf hkl).below (HBA.out o) hg).2.2.2
    have hcr : ∀ o, (w1.alloc o).cell? ⟨r, 0, none⟩ = some (.slice (some ⟨g, off, none⟩) T.length cap) := fun o => HC.out _ (HBA.out o)
    have HST : Hid (∀ o, StrsAt (w1.alloc o) (.slice (T.getD kf ne0).a (T.getD kf ne0).n.leans.length (T.getD kf ne0).cap) (T.getD kf ne0).n.leans) := fun o => hok.at_.below (HBA.out o) (Nat.le_refl _)
    have HR : Hid ((w1.alloc (.cells #[] 9)).ownsRow w.heap.size 9 1 (.slice (some ⟨w1.heap.size, 0, none⟩) 0 0) 0 []) :=
      World.ownsRow_made (base := w.heap.size) (e := 9) (size := 1) w1 #[] 0 hsz1 (by decide) rfl
    have hki : (kf : Int) < T.length := by omega
    rw [hle] at h8 HU0
    clear hcl hok hle HND HFA HFB hcell hb1
    generalize (T.getD kf ne0).a = xa at *
    generalize (T.getD kf ne0).cap = xc at *
    generalize (T.getD kf ne0).n.leans = ls at *
    go_wp2_with (first
      | (at_builtin; refine wpList_append_strs rfl _ _ rfl w.heap.size w1.heap.size ls (by omega) rfl HR.out _ rfl (HST.out _) (by simp; omega) ?_; intro a3 c3 w3 hown3 hg3; have HR3 := hidR hown3; have HB3 : Hid (Below w.heap.size w w3) := (HBA.out _).grown hg3 (by simp; omega) (fun j hj => by simp at hj; omega); clear hown3 hg3)
      | go_in)
    clear HR HST HBA hc3 hcr
    go_loopw [7, 8] (fun v i wr => ∃ (U : List (List UInt8)) (k : Nat), k ≤ U.length ∧ i = .int .i64 k ∧ UnderTo S x U k ∧ wr.ownsRow w.heap.size 9 1 v U.length (U.map encStr) ∧ Below w.heap.size w wr) (fun _ i _ => 512 - (intOf i).toNat)
    case atStart => exact ⟨ls, 0, Nat.zero_le _, rfl, HU0.out, HR3.out, HB3.out⟩
    case round =>
      clear HU0 HR3 HB3 HLE
      obtain ⟨U, k, hk, rfl, hU, hrow, hnx⟩ := hrel
      have hU5 := HF.out.under hU
      have HU := hidR hU
      have HROW := hidR hrow
      have HNX := hidR hnx
      have hszn := hnx.size
      obtain ⟨a5, c5, rfl⟩ := row_shape hrow
      clear hU
      by_cases hlt : k < U.length
      · rcases StrsAt.of_row hrow with ⟨h0, _⟩ | ⟨g5, off5, cap5, hsl, hg5, hcl⟩
        · rw [h0] at hlt; exact absurd hlt (by simp)
        cases hsl
        have hcx : wr.cell? ⟨g5, off5 + k, none⟩ = some (.string ⟨(U.getD k []).toArray⟩) := hcl k hlt
        have HFI2 := hidR (find_any (U.getD k []) wr r T (HH.out.below hnx (Nat.le_refl _)))
        have HU1 := hidR (HU.out.step hlt)
        have hlen1 : k < (addL U (leansOf S (U.getD k []))).length := by
          obtain ⟨t, ht⟩ := addL_prefix U (leansOf S (U.getD k []))
          rw [ht, List.length_append]; omega
        have hm8 := (HF.out.leansOf8 (U.getD k [])).1
        have hlti : (k : Int) < U.length := by omega
        clear hcl hrow hnx
        generalize U.getD k [] = y at *
        go_wp2_with fail
        refine HFI2.out.mono ?_
        rintro e w4 ⟨k2, hk2, rfl, hb4⟩
        have HB4 := hidR hb4
        have hsz4 := hb4.size
        have HFB := hidR (HSM.out.found hk2)
        have HFA := hidR (fun h => HSM.out.foundAt (x := y) (k := k2) h)
        have HROW4 : Hid (w4.ownsRow w.heap.size 9 1 (.slice (some ⟨g5, off5, none⟩) U.length c5) U.length (U.map encStr)) := HROW.out.kept (row := none) ⟨hb4.os, hb4.tape, hb4.output, hb4.size, fun k hk _ => hb4.block k hk⟩ (.inr (by simp [Value.ownBlock]))
        generalize foundB T y k2 = fb at *
        clear hk2 hb4
        go_wp2_with fail
        cases fb with
        | false =>
          have HL : Hid (leansOf S y = []) := leansOf_out (by rw [← List.contains_iff_mem, ← HFB.out]; simp)
          have hU1 : addL U (leansOf S y) = U := by rw [HL.out]; rfl
          rw [hU1] at HU1
          clear hU1 hlen1 HL
          go_loop [7, 11] (fun v i => v = .slice (some ⟨g5, off5, none⟩) U.length c5 ∧ i = .int .i64 0) (fun _ _ => 0)
          case atStart => exact ⟨rfl, rfl⟩
          case round =>
            obtain ⟨rfl, rfl⟩ := hrel
            go_wp2
            go_roundw
            case rel => exact ⟨U, k + 1, by omega, by go_num, HU1.out, HROW4.out, HNX.out.trans (HB4.out.mono hszn)⟩
            case measure => simp [intOf]; omega
        | true =>
          obtain ⟨hkl2, hle2⟩ := HFA.out rfl
          rw [hle2] at HU1 hlen1 hm8
          have HST2 := hidR (HN.out.2.2 _ (mem_getD1 hkl2)).at_
          have hcl2 := HCL.out k2 hkl2
          have hk2i : (k2 : Int) < T.length := by omega
          clear hle2 HFA HFB hcx
          generalize T.getD k2 ne0 = z at *
          have HCZ := hidR hcl2
          clear hcl2
          go_loopw [7, 11] (fun v i wq => ∃ q : Nat, q ≤ z.n.leans.length ∧ i = .int .i64 q ∧ wq.ownsRow w.heap.size 9 1 v (addL U (z.n.leans.take q)).length ((addL U (z.n.leans.take q)).map encStr) ∧ Below w.heap.size w wq) (fun _ i _ => z.n.leans.length - (intOf i).toNat)
          case atStart => exact ⟨0, Nat.zero_le _, rfl, HROW4.out, HNX.out.trans (HB4.out.mono hszn)⟩
          case round =>
            clear HROW4
            obtain ⟨q, hq, rfl, hrq, hnq⟩ := hrel
            have HRQ := hidR hrq
            have HNQ := hidR hnq
            have hszq := hnq.size
            have hcr := HC.out _ hnq
            have hc3 := (HCZ.out.below hnq hg).2.2.2
            obtain ⟨a6, c6, rfl⟩ := row_shape hrq
            have hal := addL_take_le U z.n.leans q hq
            by_cases hql : q < z.n.leans.length
            · rcases HST2.out.below hnq (Nat.le_refl _) with ⟨h0, _⟩ | ⟨gl, ol, cl, hsl, hgl, hcl⟩
              · rw [h0] at hql; exact absurd hql (by simp)
              rw [Value.slice.injEq] at hsl
              obtain ⟨hxa, hq1, hq2⟩ := hsl
              clear hq1 hq2
              rw [hxa] at hc3
              have hcy : wr.cell? ⟨gl, ol + q, none⟩ = some (.string ⟨(z.n.leans.getD q []).toArray⟩) := hcl q hql
              have HTK := hidR (addL_take (l := U) hql)
              have HAM := hidR (among_any (addL U (z.n.leans.take q)) (by omega) (z.n.leans.getD q []) a6 c6 wr (StrsAt.of_row hrq))
              have hqi : (q : Int) < z.n.leans.length := by omega
              clear hcl hrq hnq
              obtain ⟨V2, hV2⟩ : ∃ V2, V2 = addL U (z.n.leans.take (q + 1)) := ⟨_, rfl⟩
              have HV2 := hidR hV2
              rw [← hV2] at HTK
              clear hV2
              generalize addL U (z.n.leans.take q) = V at *
              generalize z.n.leans.getD q [] = y2 at *
              go_wp2_with fail
              refine HAM.out.mono ?_
              rintro e w5 ⟨rfl, rfl⟩
              cases hcb : V.contains y2 with
              | true =>
                rw [hcb, if_pos rfl] at HTK
                go_wp2
                go_roundw
                case rel => exact ⟨q + 1, by omega, by go_num, by rw [← HV2.out, HTK.out]; exact HRQ.out, HNQ.out⟩
                case measure => simp [intOf]; omega
              | false =>
                rw [hcb, if_neg (by simp)] at HTK
                go_wp2_with (first
                  | (at_builtin; refine wpList_append_own _ rfl _ _ 27 rfl w.heap.size 9 i9 (.string ⟨#[]⟩) 1 16 Try.underlying27 hi9 hz0 hz1 hz2 rfl (by decide) _ _ _ rfl (HRQ.out.alloc _) ⟨w5.heap.size, 0, none⟩ 1 1 [encStr y2] rfl rfl (cell_one_new _ _ _) (by simp [Value.oneCell', encStr]) (by unfold maxLen; omega) (by omega) (by simp; omega) ?_; intro v' w6 hown6 hg6 hnil6; obtain ⟨a7, c7, rfl⟩ := row_shape hown6; clear hnil6)
                  | go_in)
                go_roundw
                case rel =>
                  refine ⟨q + 1, by omega, by go_num, ?_, (HNQ.out.alloc hszq _).grown hg6 (by simp; omega) (fun j hj => (HRQ.out.lt j hj).1)⟩
                  rw [← HV2.out, HTK.out]
                  simpa using hown6
                case measure => simp [intOf]; omega
            · have hqe : q = z.n.leans.length := by omega
              clear hrq hnq
              have HTL : Hid (addL U (z.n.leans.take q) = addL U z.n.leans) := by show _ = _; rw [hqe, List.take_length]
              rw [HTL.out] at HRQ hal ⊢
              go_wp2
              go_roundw
              case rel => exact ⟨addL U z.n.leans, k + 1, by omega, by go_num, HU1.out, HRQ.out, HNQ.out⟩
              case measure => simp [intOf]; omega
      · have hke : k = U.length := by omega
        subst hke
        have HIS := hidR HU.out.done
        have HSO := hidR (sorted_any U (by omega) a5 c5 wr (StrsAt.of_row hrow))
        clear hrow hnx
        go_wp2_with (go_at_call 45; refine HSO.out.mono ?_; rintro e w8 ⟨a8, c8, rfl, hr8, hb8⟩; have HR8 := hidR hr8; have HB8 := hidR hb8; clear hr8 hb8)
        go_ret
        exact ⟨_, U, rfl, HIS.out, hU5, row_mono HR8.out hszn, HNX.out.trans (HB8.out.mono hszn)⟩
end Go.Proofs.Ytnjjpahpaeblfaa
