/- What placesOf answers. -/
import Derived.Test.YtdpkeffkpecmjaaRsh
namespace Go.Proofs.Ytdpkeffkpecmjaa
open Go.RowKit
set_option linter.unusedVariables false

def encI (x : Int) : Value := .int .i64 x
theorem Try.info3 : (Try.prog.info? 3).map (fun i => (i.zero, i.size, i.bytes)) = some (some (.int .i64 0), 1, 8) := by kernel_rfl
/-- A number that is put behind a row of one's own. -/
theorem wpList_append_int {ops : Array Oper} {rest : List Oper} {o : Oper} {a : Act} {Q : Exit → Act → World → Prop} {w : World} (hgd : o.guard = none) (s x : Operand)
    (ho : o.op = .call { callee := .builtin .append, args := #[s, x], argTypes := #[38, 38] }) (base : Nat) (v : Value) (n : Nat) (xs : List Value)
    (hs : a.eval s = v) (hown : w.ownsRow base 3 1 v n xs) (g : Nat) (y : Int) (hx : a.eval x = .slice (some ⟨g, 0, none⟩) 1 1) (hc : w.cell? ⟨g, 0, none⟩ = some (.int .i64 y)) (hl : n ≤ 65536) (hbase : base ≤ w.heap.size)
    (h : ∀ v' w', w'.ownsRow base 3 1 v' (n + 1) (xs ++ [encI y]) → w.grownBy w' v.ownBlock → wpList Try.prog ops Q rest (a.put o.dst v') w') : wpList Try.prog ops Q (o :: rest) a w := by
  obtain ⟨i0, hi, hz0, hz1, hz2⟩ := info_parts Try.info3
  refine wpList_append_own w hgd s x 38 ho base 3 i0 (.int .i64 0) 1 8 Try.underlying38 hi hz0 hz1 hz2 rfl (by decide) v n xs hs hown ⟨g, 0, none⟩ 1 1 [encI y] hx (by simp) (fun j u hu => ?_) (by intro u hu; rw [List.mem_singleton] at hu; rw [hu]; rfl) (by unfold maxLen; omega) (by omega) hbase ?_
  · match j, hu with
    | 0, hu =>
      rw [Go.WideShapes.add_plain]
      simp at hu
      rw [← hu]; exact hc
    | j + 1, hu => simp at hu
  · intro v' w' h1 h2 _
    exact h v' w' h1 h2

/-- The places among the first k at which the locator is 0. -/
def placesTo (loc : List UInt8) (n : Nat) : Nat → List Int
  | 0 => []
  | k + 1 => if evalS 29 (pwI 29 2 ((k : Int) + 1 - (n : Int))) loc = 0 then placesTo loc n k ++ [(k : Int)] else placesTo loc n k
theorem places_len (loc : List UInt8) (n : Nat) : ∀ k, (placesTo loc n k).length ≤ k
  | 0 => by simp [placesTo]
  | k + 1 => by
    have := places_len loc n k
    rw [placesTo]; split
    · simp; omega
    · omega
theorem il_of_own {w : World} {base : Nat} {v : Value} {l : List Int} (h : w.ownsRow base 3 1 v l.length (l.map encI)) : IlAt w v l := by
  rcases h.2 with ⟨rfl, h0⟩ | ⟨g, cap, cur, rfl, hb, hg, hnc, hcm, _⟩
  · exact ⟨none, 0, by rw [h0], by omega, by omega, fun k hk => absurd hk (by omega)⟩
  · refine ⟨_, cap, rfl, hnc, by unfold maxLen at hcm; omega, fun k hk => ⟨g, 0, rfl, row_lt hg, ?_⟩⟩
    have := h.cells (g := g) rfl k (encI (l.getD k 0)) (by rw [List.getElem?_map, List.getElem?_eq_getElem hk, List.getD_eq_getElem?_getD, List.getElem?_eq_getElem hk]; rfl)
    rwa [show (⟨g, 0, none⟩ : Addr).add k = ⟨g, 0 + k, none⟩ from Addr.add_lit ..] at this

set_option maxRecDepth 100000 in
set_option maxHeartbeats 3200000 in
theorem placesOf_any {c p f : Nat} (loc : List UInt8) (hlo : loc.length ≤ 1000000) (n : Nat) (hn : n ≤ 255) (v : Value) (w : World) (hc : CdAt w c p f) (hv : SlAt w v loc) :
    Calls Try.prog 63 #[.pointer (some ⟨c, 0, none⟩), v, .int .i64 n] w fun e w' => ∃ u, e = .returned (.tuple #[u, .bool (((placesTo loc n n).length : Int) == (loc.length : Int) - 1)]) ∧ w'.ownsRow w.heap.size 3 1 u (placesTo loc n n).length ((placesTo loc n n).map encI) ∧ Below w.heap.size w w' := by
  have HV := hidD hv
  obtain ⟨gv, b, hg2, hg3, hg4, hg5⟩ := hc.rest
  have HCL := hidD hc.lt
  have HFD := hidD hg5
  have HPL := hidD (places_len loc n)
  have HEV : Hid (∀ (x : UInt8) (w' : World), Below w.heap.size w w' → Calls Try.prog 39 #[.pointer (some ⟨b, 0, none⟩), v, .int .u8 (x.toNat : Int)] w' fun e w2 => e = .returned (.int .u8 ((evalS 29 x loc).toNat : Int)) ∧ Below w'.heap.size w' w2) := fun x w' h => eval_any one_d loc x v w' (HFD.out.next h) (HV.out.next h)
  have HAL : Hid (∀ (w' : World) o, Below w'.heap.size w' (w'.alloc o)) := fun w' o => (Below.refl _ _).alloc (Nat.le_refl _) o
  obtain ⟨⟨al, cl, rfl, hcl1, hcl2⟩, _⟩ := hv
  have HDG := hidD (fun w' => degreeOf_any al loc.length cl (by omega) w')
  clear hg4 hg5 hg2 hc
  generalize hll : loc.length = ll at *
  clear hll
  go_enter Try.func63, Try.ntmps63
  go_wp2_with fail
  go_loopw [6, 8, 10] (fun o _ i wr => ∃ k : Nat, k ≤ n ∧ i = .int .i64 k ∧ wr.ownsRow w.heap.size 3 1 o (placesTo loc n k).length ((placesTo loc n k).map encI) ∧ Below w.heap.size w wr) (fun _ _ i _ => n - (intOf i).toNat)
  case atStart => exact ⟨0, Nat.zero_le _, rfl, World.ownsRow_nil _ _ _ _, Below.refl _ _⟩
  case round =>
    obtain ⟨k, hk, rfl, hown, hbel⟩ := hrel
    have HBW := hidD hbel
    have HOW := hidD hown
    clear hown hbel
    by_cases hlt : k < n
    · have hlti : (k : Int) < n := by omega
      have HL := hidD (HPL.out k)
      have HKK : Hid (∀ wB, Below wr.heap.size wr wB → ∃ i : KB wr [c], wB = i.v) := fun wB hb => ⟨⟨wB, fun x hx => by
        rw [show x = c by simpa using hx]
        exact hb.block _ (Nat.lt_of_lt_of_le HCL.out HBW.out.size)⟩, rfl⟩
      have f3 : ∀ i : KB wr [c], i.v.cell? ⟨c, 3, none⟩ = some (.pointer (some ⟨b, 0, none⟩)) := fun i => ((i.cell (b := c) (by simp) _).trans (HBW.out.cell (p := ⟨c, 3, none⟩) HCL.out)).trans hg3
      have HDR : Hid (Below wr.heap.size wr wr.drew) := (Below.refl _ _).drew
      have HE := hidD (HEV.out (pwI 29 2 ((k : Int) + 1 - (n : Int))))
      by_cases h0 : evalS 29 (pwI 29 2 ((k : Int) + 1 - (n : Int))) loc = 0
      · have HN : Hid (placesTo loc n (k + 1) = placesTo loc n k ++ [(k : Int)]) := by show _ = _; rw [placesTo, if_pos h0]
        rw [h0] at HE
        generalize placesTo loc n k = PL at *
        clear h0
        go_wp2_with fail
        refine wp_region_seg [0, 0, 0, 0, 0, 0, 0, 0, 0, 0, 0, 0, 0, 1, 3, 4] 2 16 [c] (by kernel_rfl) (by kernel_rfl) (by kernel_rfl) (by kernel_rfl) (by kernel_rfl) (by kernel_rfl) (by kernel_rfl) (by kernel_rfl) (fun _ _ _ _ _ h => h) ?_
        simp only [SegW, pk, Nat.reduceMul, Nat.reduceAdd, Nat.reduceBEq, cond_true, cond_false]
        repeat (go_big_quiet_step (fail))
        refine wpQuiet_nil ?_
        go_wp2_with (go_at_call 40; refine (exp_any (P := 29) (g := 2) ((k : Int) + 1 - (n : Int)) _ (HFD.out.next (Below.next HBW.out HDR.out))).mono ?_; rintro e w5 ⟨rfl, hb5⟩)
        have HB5 : Hid (Below wr.heap.size wr w5) := HDR.out.trans hb5
        clear hb5
        refine ⟨HKK.out _ HB5.out, ?_⟩
        refine wpQuiet_nil ?_
        go_wp2_with (go_at_call 39; refine (HE.out _ (Below.next HBW.out HB5.out)).mono ?_; rintro e w6 ⟨rfl, hb6⟩)
        have HB6 := hidD (Below.next HB5.out hb6)
        clear hb6
        refine ⟨HKK.out _ HB6.out, ?_⟩
        repeat (go_big_quiet_step (fail))
        refine wpQuiet_nil ?_
        have HO6 := hidD (row_below HOW.out HB6.out)
        have HB6w := hidD (Below.next HBW.out HB6.out)
        go_wp2_with (at_builtin; refine wpList_append_int rfl _ _ rfl w.heap.size u6 PL.length (PL.map encI) rfl (HO6.out.alloc _) w6.heap.size (k : Int) rfl (new_cell1 w6 (.int .i64 (k : Int)) 3 0 _ rfl) (by have := HL.out; omega) (by have := HB6w.out.size; simp; omega) ?_; intro v8 w8 hown8 hg8; have HO8 := hidD hown8; have HB8 := hidD (row_grown (HO6.out.alloc _) (Below.next HB6w.out (HAL.out _ _)) hg8 (by have := HB6w.out.size; simp; omega)); clear hown8 hg8)
        go_roundw
        case rel => exact ⟨k + 1, by omega, by go_num, by rw [HN.out, List.length_append, List.map_append]; exact HO8.out, HB8.out⟩
        case measure => simp [intOf]; omega
      · have HN : Hid (placesTo loc n (k + 1) = placesTo loc n k) := by show _ = _; rw [placesTo, if_neg h0]
        have hv0 := u8_ne h0
        have hvb := u8_bne h0
        generalize ((evalS 29 (pwI 29 2 ((k : Int) + 1 - (n : Int))) loc).toNat : Int) = ev at *
        clear h0
        go_wp2_with fail
        refine wp_region_seg [0, 0, 0, 0, 0, 0, 0, 0, 0, 0, 0, 0, 0, 1, 3, 4] 2 16 [c] (by kernel_rfl) (by kernel_rfl) (by kernel_rfl) (by kernel_rfl) (by kernel_rfl) (by kernel_rfl) (by kernel_rfl) (by kernel_rfl) (fun _ _ _ _ _ h => h) ?_
        simp only [SegW, pk, Nat.reduceMul, Nat.reduceAdd, Nat.reduceBEq, cond_true, cond_false]
        repeat (go_big_quiet_step (fail))
        refine wpQuiet_nil ?_
        go_wp2_with (go_at_call 40; refine (exp_any (P := 29) (g := 2) ((k : Int) + 1 - (n : Int)) _ (HFD.out.next (Below.next HBW.out HDR.out))).mono ?_; rintro e w5 ⟨rfl, hb5⟩)
        have HB5 : Hid (Below wr.heap.size wr w5) := HDR.out.trans hb5
        clear hb5
        refine ⟨HKK.out _ HB5.out, ?_⟩
        refine wpQuiet_nil ?_
        go_wp2_with (go_at_call 39; refine (HE.out _ (Below.next HBW.out HB5.out)).mono ?_; rintro e w6 ⟨rfl, hb6⟩)
        have HB6 := hidD (Below.next HB5.out hb6)
        clear hb6
        refine ⟨HKK.out _ HB6.out, ?_⟩
        repeat (go_big_quiet_step (fail))
        refine wpQuiet_nil ?_
        go_wp2_with fail
        go_roundw
        case rel => exact ⟨k + 1, by omega, by go_num, by rw [HN.out]; exact row_below HOW.out HB6.out, Below.next HBW.out HB6.out⟩
        case measure => simp [intOf]; omega
    · obtain rfl : k = n := by omega
      obtain ⟨a6, c6, hu6⟩ := row_shape HOW.out
      subst hu6
      have HL := hidD (HPL.out k)
      generalize hPP : placesTo loc k k = PL at *
      have HPP := hidD hPP
      clear hPP
      go_wp2_with (go_at_call 75; refine (HDG.out _).mono ?_; rintro e w5 ⟨rfl, hb5⟩)
      refine bodyPost_ret (v := .tuple #[.slice a6 PL.length c6, .bool ((PL.length : Int) == (ll : Int) - 1)]) (by simp [results, Try.results63, go_sem]) rfl ?_
      exact ⟨_, by rw [HPP.out], by rw [HPP.out]; exact row_below HOW.out hb5, Below.next HBW.out hb5⟩
end Go.Proofs.Ytdpkeffkpecmjaa
