/- What the program's Steps answers. -/
import Derived.Test.YtgefampdfhbmbaaMl
namespace Go.Proofs.Ytgefampdfhbmbaa
open Go.RowKit
set_option linter.unusedVariables false

/-- A slice of slices of bytes. -/
def RowsBy (w : World) (v : Value) (L : List (List UInt8)) : Prop := ∃ g off cap, v = .slice (some ⟨g, off, none⟩) L.length cap ∧ g < w.heap.size ∧ ∀ j, j < L.length → ∃ u, w.cell? ⟨g, off + j, none⟩ = some u ∧ ByAt w u (L.getD j [])
theorem RowsBy.next {w w' : World} {v : Value} {L : List (List UInt8)} (h : RowsBy w v L) (hb : Below w.heap.size w w') : RowsBy w' v L := by
  obtain ⟨g, off, cap, h1, h2, h3⟩ := h
  refine ⟨g, off, cap, h1, Nat.lt_of_lt_of_le h2 hb.size, fun j hj => ?_⟩
  obtain ⟨u, h4, h5⟩ := h3 j hj
  exact ⟨u, (hb.cell (p := ⟨g, off + j, none⟩) h2).trans h4, h5.next hb⟩
theorem pSteps_nil (v : Value) (w : World) : Calls Try.prog 20 #[.pointer none, v] w fun e w' => ∃ a c, e = .returned (.tuple #[.slice a 0 c, .int .i64 2]) ∧ Below w.heap.size w w' := by
  have HR := hidD (fun w => pRefused_nil v w)
  go_enter Try.func20, Try.ntmps20
  go_wp2_with (go_at_call 41; refine (HR.out _).mono ?_; rintro e w1 ⟨rfl, rfl⟩)
  refine bodyPost_ret (v := .tuple #[.slice none 0 0, .int .i64 2]) (by simp [results, Try.results20, go_sem]) rfl ?_
  exact ⟨_, _, rfl, Below.refl _ _⟩
theorem pSteps_no (l : List UInt8) (hl : l.length ≠ 16) (n B p : Nat) (key : Nat → UInt8) (v : Value) (w : World) (h : AcAt w B p n key) (hv : ByAt w v l) : Calls Try.prog 20 #[.pointer (some ⟨p, 0, none⟩), v] w fun e w' => ∃ a c, e = .returned (.tuple #[.slice a 0 c, .int .i64 91]) ∧ Below w.heap.size w w' := by
  obtain ⟨a, cap, rfl⟩ := hv.len
  have HR := hidD (fun w => pRefused_no p l.length cap a hl w)
  clear hv h hl
  go_enter Try.func20, Try.ntmps20
  go_wp2_with (go_at_call 41; refine (HR.out _).mono ?_; rintro e w1 ⟨rfl, rfl⟩)
  refine bodyPost_ret (v := .tuple #[.slice none 0 0, .int .i64 91]) (by simp [results, Try.results20, go_sem]) rfl ?_
  exact ⟨_, _, rfl, Below.refl _ _⟩
theorem Try.info22s : (Try.prog.info? 22).map (fun i => (i.zero, i.size, i.bytes)) = some (some (.slice none 0 0), 1, 24) := by kernel_rfl
/-- Slices that are made. -/
theorem wpList_makeS (w : World) {ops : Array Oper} {rest : List Oper} {o : Oper} {a : Act} {Q : Exit → Act → World → Prop}
    (hg : o.guard = none) (l c : Operand) (hop : o.op = Op.makeSlice 42 l c) (kl kc : IntKind) (L C : Int) (n : Nat) (hl : a.eval l = .int kl L) (hc : a.eval c = .int kc C) (hL : L = (n : Int)) (hC : C = (n : Int)) (hn : n ≤ 1000)
    (hK : ∀ w', Hid (∃ xs : List Value, xs.length = n ∧ w'.heap[w.heap.size]? = some (.cells xs.toArray (22 : TypeId) (0, 0))) → Below w.heap.size w w' → wpList Try.prog ops Q rest (a.put o.dst (.slice (some ⟨w.heap.size, 0, none⟩) n n)) w') :
    wpList Try.prog ops Q (o :: rest) a w := by
  obtain ⟨i0, hi, hz0, hz1, hz2⟩ := info_parts Try.info22s
  refine wpList_make_full w hg l c 42 hop w.heap.size 22 i0 (.slice none 0 0) 1 Try.underlying42 hi hz0 hz1 kl kc L C n hl hc hL hC (by rw [hz2]; omega) (by unfold maxLen; omega) (Nat.le_refl _) fun w' hown hgr => ?_
  refine hK w' ?_ ((Below.refl w.heap.size w).grown hgr (Nat.le_refl _) (fun k hk => by cases hk))
  have hr := row_full hown
  exact ⟨_, by have := hown.1; simpa using this, hr⟩
set_option maxRecDepth 100000 in
set_option maxHeartbeats 3200000 in
theorem pSteps_any (l : List UInt8) (hl : l.length = 16) (n B p : Nat) (hn : n ≤ 8) (key : Nat → UInt8) (v : Value) (w : World) (h : AcAt w B p n key) (hv : ByAt w v l) : Calls Try.prog 20 #[.pointer (some ⟨p, 0, none⟩), v] w fun e w' => ∃ vo, e = .returned (.tuple #[vo, .int .i64 0]) ∧ RowsBy w' vo ((List.range (n + 7)).map fun r => toL (enTo (n + 6) (rkS n key) (blk l) r)) ∧ Below w.heap.size w w' := by
  have HBO := hidD (pBlockOf16_any l hl v w hv)
  obtain ⟨a, cap, rfl⟩ := hv.len
  rw [hl] at *
  have HA := hidD h
  have HR := hidD (fun w => pRefused_ok p cap a w)
  have HBH := hidD (fun r hr (b : Nat → UInt8) (w : World) h => pBehind_any n B p hn key r hr b w h)
  have HBY := hidD (fun (b : Nat → UInt8) w => pBytes_any b w)
  obtain ⟨hz, hsz⟩ := zero_of_info Try.zero59
  have hz0 : (rowZ .u8 16 (fun _ => 0)) = bR (fun _ => 0) := rfl
  rw [hz0] at hz
  have hbs : ∀ c : Nat → UInt8, (bR c).size = 16 := fun c => rowZ_size _ _ _
  have HIB : Hid (∀ c : Nat → UInt8, (Try.prog.info? 59).map (·.size) = some (bR c).size) := fun c => by rw [hsz, hbs]
  have HON : Hid (∀ c : Nat → UInt8, (bR c).all (·.oneCell') = true) := fun c => rowZ_one _ _ _
  have HSB : Hid (∀ c d : Nat → UInt8, (bR c).size = (bR d).size) := fun c d => by rw [hbs, hbs]
  have h7 : ((n + 6 : Nat) : Int) + 1 = ((n + 7 : Nat) : Int) := by omega
  have HEN : Hid (∀ k, enK (n + 6) (rkS n key) (blk l) (k + 1) = enTo (n + 6) (rkS n key) (blk l) k) := fun k => enK_to _ _ _ k
  clear hv h hl hbs hsz hz0
  generalize hN : n + 7 = N at *
  generalize hM : n + 6 = M at *
  have HNM : Hid (N = M + 1 ∧ M ≤ 14) := ⟨by omega, by omega⟩
  have HM6 := hidD hM
  have hN15 : N ≤ 15 := by omega
  have hM14 : M ≤ 14 := by omega
  clear hN hM
  go_enter Try.func20, Try.ntmps20
  go_wp2_with (first
    | (go_at_call 41; refine (HR.out _).mono ?_; rintro e w1 ⟨rfl, hw1⟩; subst w1)
    | (go_at_call 43; refine HBO.out.mono ?_; rintro e w2 ⟨rfl, hb2⟩; have HB2 := hidD hb2; have HN2 : Hid (RowZ (w2.alloc (.cells (bR (fun _ => 0)) (59 : TypeId))) w2.heap.size .u8 16 59 (fun i => (((fun _ => 0 : Nat → UInt8) i).toNat : Int))) := RowZ.new w2 .u8 16 59 _; clear hb2)
    | (refine wpList_store_row rfl 59 _ _ rfl w2.heap.size (bR (blk l)) rfl rfl 59 (bR (fun _ => 0)) HN2.out (HIB.out _) (HSB.out _ _) (HON.out _) ?_; have R4 : Hid (RowZ ((w2.alloc (.cells (bR (fun _ => 0)) (59 : TypeId))).setRow w2.heap.size (bR (blk l))) w2.heap.size .u8 16 59 (fun i => ((blk l i).toNat : Int))) := row_new HN2.out; have B4 : Hid (Below w2.heap.size w2 ((w2.alloc (.cells (bR (fun _ => 0)) (59 : TypeId))).setRow w2.heap.size (bR (blk l)))) := below_setRow ((Below.refl _ _).alloc (Nat.le_refl _) _) (Nat.le_refl _) _; generalize (w2.alloc (.cells (bR (fun _ => 0)) (59 : TypeId))).setRow w2.heap.size (bR (blk l)) = w4 at *; have BW4 : Hid (Below w.heap.size w w4) := Below.next HB2.out B4.out; have c4 : w4.cell? ⟨p, 0, none⟩ = some (.int .i64 (M : Int)) := (by rw [← HM6.out]; exact (HA.out.next BW4.out).2.2.1); have HS2 : Hid (w.heap.size ≤ w2.heap.size) := HB2.out.size; clear B4 HN2 HB2)
    | (at_make; refine wpList_makeS w4 rfl _ _ rfl .i64 .i64 (N : Int) (N : Int) N rfl rfl rfl rfl (by omega) ?_; intro w5 hr5 hb5; have HR5 := hidD hr5.out; have HB5 := hidD hb5; clear hr5 hb5))
  have R5 := hidD (R4.out.next HB5.out)
  have BW5 : Hid (Below w.heap.size w w5) := Below.next BW4.out HB5.out
  have HGL : Hid (w2.heap.size < w4.heap.size) := R4.out.lt
  clear R4 BW4 c4 HB5
  generalize w4.heap.size = gl at *
  generalize w2.heap.size = gs at *
  go_loopw [26] (fun u wr => ∃ k : Nat, k ≤ N ∧ u = .int .i64 k ∧ RowZ wr gs .u8 16 59 (fun i => ((enK M (rkS n key) (blk l) k i).toNat : Int)) ∧ (∃ xs : List Value, xs.length = N ∧ wr.heap[gl]? = some (.cells xs.toArray (22 : TypeId) (0, 0)) ∧ ∀ j, j < k → ∃ gj, xs[j]? = some (.slice (some ⟨gj, 0, none⟩) 16 16) ∧ gl < gj ∧ RowZ wr gj .u8 16 5 (fun i => ((enTo M (rkS n key) (blk l) j i).toNat : Int))) ∧ Below w.heap.size w wr) (fun u _ => N - (intOf u).toNat)
  case atStart =>
    obtain ⟨xs, hx1, hx2⟩ := HR5.out
    exact ⟨0, Nat.zero_le _, rfl, R5.out, ⟨xs, hx1, hx2, fun j hj => absurd hj (by omega)⟩, BW5.out⟩
  case round =>
    obtain ⟨k, hk, rfl, hrow, hlist, hbel⟩ := hrel
    have HRW := hidD hrow
    have HLS := hidD hlist
    have HBL := hidD hbel
    clear hrow hlist hbel
    by_cases hlt : k < N
    · have hlti : (k : Int) < (N : Int) := by omega
      have HCK := hidD (fun w h => HBH.out k (by have := HNM.out; omega) (enK M (rkS n key) (blk l) k) w h)
      have HE : Hid (bhS M (rkS n key) k (enK M (rkS n key) (blk l) k) = enK M (rkS n key) (blk l) (k + 1)) := rfl
      rw [HE.out] at HCK
      obtain ⟨xs, hx1, hx2, hx3⟩ := HLS.out
      have HX1 := hidD hx1
      have HX2 := hidD hx2
      have HX3 := hidD hx3
      have HES := hidD (HEN.out k)
      clear hx1 hx2 hx3 HE
      generalize hC1 : enK M (rkS n key) (blk l) (k + 1) = s1 at *
      have HS1 := hidD hC1
      generalize enK M (rkS n key) (blk l) k = s0 at *
      clear hC1
      have HBYS := hidD (fun w => HBY.out s1 w)
      go_wp2_with (first
        | (refine wpList_load_row rfl 59 _ rfl gs rfl 59 (bR s0) (0, 0) _ HRW.out Try.underlying59 rfl (HIB.out _) ?_)
        | (go_at_call 48; refine (HCK.out _ (HA.out.next HBL.out)).mono ?_; rintro e w6 ⟨rfl, hb6⟩; have R6 := hidD (HRW.out.next hb6); have B6 : Hid (Below w.heap.size w w6) := Below.next HBL.out hb6; have X6 : Hid (w6.heap[gl]? = some (.cells xs.toArray (22 : TypeId) (0, 0))) := (hb6.block _ (row_lt HX2.out)).trans HX2.out; have Y6 : Hid (∀ j, j < k → ∃ gj, xs[j]? = some (.slice (some ⟨gj, 0, none⟩) 16 16) ∧ gl < gj ∧ RowZ w6 gj .u8 16 5 (fun i => ((enTo M (rkS n key) (blk l) j i).toNat : Int))) := (fun j hj => by obtain ⟨gj, h1, h2, h3⟩ := HX3.out j hj; exact ⟨gj, h1, h2, h3.next hb6⟩); clear hb6)
        | (refine wpList_store_row rfl 59 _ _ rfl gs (bR s1) rfl rfl 59 (bR s0) R6.out (HIB.out _) (HSB.out _ _) (HON.out _) ?_; have R7 : Hid (RowZ (w6.setRow gs (bR s1)) gs .u8 16 59 (fun i => ((s1 i).toNat : Int))) := row_new R6.out; have B7 : Hid (Below w.heap.size w (w6.setRow gs (bR s1))) := below_setRow B6.out HS2.out _; have X7 : Hid ((w6.setRow gs (bR s1)).heap[gl]? = some (.cells xs.toArray (22 : TypeId) (0, 0))) := (setRow_other _ _ _ _ (by have := HGL.out; omega)).trans X6.out; have Y7 : Hid (∀ j, j < k → ∃ gj, xs[j]? = some (.slice (some ⟨gj, 0, none⟩) 16 16) ∧ gl < gj ∧ RowZ (w6.setRow gs (bR s1)) gj .u8 16 5 (fun i => ((enTo M (rkS n key) (blk l) j i).toNat : Int))) := (fun j hj => by obtain ⟨gj, h1, h2, h3⟩ := Y6.out j hj; exact ⟨gj, h1, h2, (setRow_other _ _ _ _ (by have := HGL.out; omega)).trans h3⟩); clear R6 B6 X6 Y6; generalize w6.setRow gs (bR s1) = u7 at *)
        | (refine wpList_load_row rfl 59 _ rfl gs rfl 59 (bR s1) (0, 0) _ R7.out Try.underlying59 rfl (HIB.out _) ?_)
        | (go_at_call 40; refine (HBYS.out _).mono ?_; rintro e w8 ⟨g8, rfl, hg8, hr8, hb8⟩; have G8 : Hid (gl < g8) := Nat.lt_of_lt_of_le (row_lt X7.out) hg8; have N8 := hidD hr8; have R8 := hidD (R7.out.next hb8); have B8 : Hid (Below w.heap.size w w8) := Below.next B7.out hb8; have X8 : Hid (w8.heap[gl]? = some (.cells xs.toArray (22 : TypeId) (0, 0))) := (hb8.block _ (row_lt X7.out)).trans X7.out; have Y8 : Hid (∀ j, j < k → ∃ gj, xs[j]? = some (.slice (some ⟨gj, 0, none⟩) 16 16) ∧ gl < gj ∧ RowZ w8 gj .u8 16 5 (fun i => ((enTo M (rkS n key) (blk l) j i).toNat : Int))) := (fun j hj => by obtain ⟨gj, h1, h2, h3⟩ := Y7.out j hj; exact ⟨gj, h1, h2, h3.next hb8⟩); obtain ⟨xk, hxk⟩ : ∃ xk, xs[k]? = some xk := ⟨xs[k]'(by rw [HX1.out]; exact hlt), List.getElem?_eq_getElem _⟩; have d8 : w8.cell? ⟨gl, k, none⟩ = some xk := (by rw [cell_of_row _ _ _ _ _ _ X8.out, List.getElem?_toArray]; exact hxk); have f8 : w8.frozen? ⟨gl, k, none⟩ = false := frozen_of_row _ _ _ _ _ X8.out; clear hg8 hr8 hb8 R7 B7 X7 Y7 hxk))
      go_roundw
      case rel =>
        refine ⟨k + 1, by omega, by go_num, ?_, ⟨xs.set k (.slice (some ⟨g8, 0, none⟩) 16 16), by rw [List.length_set]; exact HX1.out, ?_, fun j hj => ?_⟩, below_setCell B8.out (by have := HGL.out; have := HS2.out; omega) _ _⟩
        · rw [HS1.out]; exact R8.out.other (by have := HGL.out; omega) _ _
        · have h1 : (w8.setCell ⟨gl, k, none⟩ (.slice (some ⟨g8, 0, none⟩) 16 16)).heap[gl]? = some (.cells (xs.toArray.setIfInBounds k (.slice (some ⟨g8, 0, none⟩) 16 16)) (22 : TypeId) (0, 0)) := heap_setCell_same w8 gl k _ _ _ X8.out
          rw [List.setIfInBounds_toArray] at h1
          exact h1
        · by_cases he : j = k
          · subst he
            refine ⟨g8, List.getElem?_set_self (by rw [HX1.out]; exact hlt), G8.out, ?_⟩
            rw [← HES.out]; exact N8.out.other (by have := G8.out; omega) _ _
          · obtain ⟨gj, h1, h2, h3⟩ := Y8.out j (by omega)
            exact ⟨gj, by rw [List.getElem?_set_ne (fun h => he h.symm)]; exact h1, h2, h3.other (by omega) _ _⟩
      case measure => simp [intOf]; omega
    · obtain rfl : k = N := by omega
      go_wp2_with fail
      refine bodyPost_ret (v := .tuple #[.slice (some ⟨gl, 0, none⟩) k k, .int .i64 0]) (by simp [results, Try.results20, go_sem]) rfl ?_
      obtain ⟨xs, hx1, hx2, hx3⟩ := HLS.out
      refine ⟨_, rfl, ⟨gl, 0, k, by rw [List.length_map, List.length_range], row_lt hx2, fun j hj => ?_⟩, HBL.out⟩
      rw [List.length_map, List.length_range] at hj
      obtain ⟨gj, h1, h2, h3⟩ := hx3 j hj
      refine ⟨_, by rw [Nat.zero_add, cell_of_row _ _ _ _ _ _ hx2, List.getElem?_toArray]; exact h1, ?_⟩
      rw [List.getD_eq_getElem?_getD, List.getElem?_map, List.getElem?_range hj]
      exact (rowZ_sl h3 (by omega)).by'
end Go.Proofs.Ytgefampdfhbmbaa
