/- Texts of one proof, one behind the other. -/
import Derived.Test.YtgefampdfhbmbaaPxr
import Derived.Test.YtgefampdfhbmbaaAsi
/- Plain facts: the code of data as the program works it out. -/
namespace Go.Proofs.Ytgefampdfhbmbaa
open Go.RowKit
set_option linter.unusedVariables false

/-- The last block of a code, as the program has it. -/
def lmS (E : (Nat → UInt8) → Nat → UInt8) (r : List UInt8) : Nat → UInt8 := if r.length < 16 then xoB (putB (blk r) r.length 128) (dbB (dbB (E z0))) else xoB (blk r) (dbB (E z0))
/-- How much stands ahead of the last block. -/
def ahN (L : Nat) : Nat := (L - 1) / 16 * 16
theorem mac_same {E : (Nat → UInt8) → Nat → UInt8} (hE : ∀ {a b}, Same16 a b → Same16 (E a) (E b)) (d : List UInt8) : Same16 (E (xoB (lmS E (d.drop (ahN d.length))) (chP E z0 (d.take (ahN d.length)) (ahN d.length / 16)))) (macS E d) := by
  have hA : ahN d.length ≤ d.length ∧ ahN d.length = 16 * ((d.length - 1) / 16) := by unfold ahN; omega
  have hrl : (d.drop (ahN d.length)).length = d.length - ahN d.length := List.length_drop
  have hq : (mPad d).length = ahN d.length + 16 := by
    unfold mPad
    split
    · rw [List.length_append, List.length_cons, List.length_replicate]; omega
    · omega
  have hq1 : (mPad d).length / 16 = ahN d.length / 16 + 1 := by omega
  have hm : ahN d.length / 16 * 16 = ahN d.length := by omega
  unfold macS
  rw [hq1]
  show Same16 _ (E (xoB (bkA (mEnd (mPad d) (mKey E d)) (ahN d.length / 16)) (chTo E z0 (mEnd (mPad d) (mKey E d)) (ahN d.length / 16))))
  -- a byte of the data that is no longer in the last block
  have hpre : ∀ j, j < ahN d.length → (mPad d).getD j 0 = d.getD j 0 := fun j hj => by
    unfold mPad
    split
    · rw [List.getD_eq_getElem?_getD, List.getElem?_append_left (by omega), ← List.getD_eq_getElem?_getD]
    · rfl
  have hend : ∀ j, j < ahN d.length → (mEnd (mPad d) (mKey E d)).getD j 0 = d.getD j 0 := fun j hj => by
    unfold mEnd
    rw [List.getD_eq_getElem?_getD, List.getElem?_append_left (by rw [List.length_take]; omega), List.getElem?_take_of_lt (by omega), ← List.getD_eq_getElem?_getD, hpre j hj]
  have hlast : Same16 (bkA (mEnd (mPad d) (mKey E d)) (ahN d.length / 16)) (xoB (bkA (mPad d) (ahN d.length / 16)) (mKey E d)) := fun j hj => by
    unfold bkA mEnd
    rw [List.getD_eq_getElem?_getD, List.getElem?_append_right (by rw [List.length_take]; omega), List.length_take, show 16 * (ahN d.length / 16) + j - min ((mPad d).length - 16) (mPad d).length = j by omega, ← List.getD_eq_getElem?_getD]
    rw [show (mPad d).length / 16 - 1 = ahN d.length / 16 by omega]
    exact blk_toL hj
  refine hE (xo_same (Same16.trans ?_ hlast.symm) ?_)
  · -- the last block
    by_cases hc : d.length = 0 ∨ d.length % 16 ≠ 0
    · have hr : d.length - ahN d.length = d.length % 16 := by unfold ahN; omega
      have hr16 : d.length % 16 < 16 := Nat.mod_lt _ (by omega)
      intro j hj
      unfold lmS
      rw [if_pos (by omega)]
      unfold xoB
      have hk : mKey E d = dbB (dbB (E z0)) := by unfold mKey; rw [if_pos hc]
      rw [hk]
      congr 1
      unfold putB bkA mPad
      rw [if_pos hc, hrl, hr]
      unfold blk
      by_cases h1 : j < d.length % 16
      · rw [if_neg (by omega), List.getD_eq_getElem?_getD, List.getD_eq_getElem?_getD, List.getElem?_drop, List.getElem?_append_left (by omega), show 16 * (ahN d.length / 16) = ahN d.length by omega]
      · by_cases h2 : j = d.length % 16
        · rw [if_pos h2, List.getD_eq_getElem?_getD, List.getElem?_append_right (by omega), show 16 * (ahN d.length / 16) + j - d.length = 0 by omega]; rfl
        · rw [if_neg h2, List.getD_eq_getElem?_getD, List.getD_eq_getElem?_getD, List.getElem?_eq_none (by rw [List.length_drop]; omega), List.getElem?_append_right (by omega)]
          rw [show 16 * (ahN d.length / 16) + j - d.length = (j - d.length % 16 - 1) + 1 by omega, List.getElem?_cons_succ, List.getElem?_replicate, if_pos (by omega)]; rfl
    · have hr : d.length - ahN d.length = 16 := by unfold ahN; omega
      intro j hj
      unfold lmS
      rw [if_neg (by omega)]
      unfold xoB
      have hk : mKey E d = dbB (E z0) := by unfold mKey; rw [if_neg hc]
      have hM : mPad d = d := by unfold mPad; rw [if_neg hc]
      rw [hk, hM]
      congr 1
      unfold blk bkA
      rw [List.getD_eq_getElem?_getD, List.getD_eq_getElem?_getD, List.getElem?_drop, show 16 * (ahN d.length / 16) = ahN d.length by omega]
  · -- the chain ahead of it
    refine Same16.trans (chP_same hE _ _ _) (ch_alike hE fun i hi j hj => ?_)
    unfold bkA
    rw [hend _ (by omega), List.getD_eq_getElem?_getD, List.getElem?_take_of_lt (by omega), ← List.getD_eq_getElem?_getD]
theorem run_hi22 (g o A len cap : Nat) (hA : A ≤ cap) (w : World) : (Instr.slice 22 (.slice (some ⟨g, o, none⟩) len cap) none (some (.int .i64 (A : Int))) none).run Try.prog w = .ok (.slice (some ⟨g, o, none⟩) A cap) w := by
  have hu : Try.prog.underlying 22 = some (.slice (Try.prog.elem 22)) := by kernel_rfl
  have he : Try.prog.elem 22 = 5 := by kernel_rfl
  obtain ⟨i0, hin, _, hz1, _⟩ := info_parts Try.info5
  rw [run_slice_h w 22 _ len cap hu .i64 (A : Int) (by omega) (by omega), he, run_sizeOf w hin, Result.andThen_ok]
  simp only [sliced, Int.toNat_natCast, Nat.zero_mul]
  simp [Addr.add_mid]
theorem run_hiAt22 (g o A len cap : Nat) (hA : A ≤ cap) (w : World) : (Instr.sliceAt 22 (.slice (some ⟨g, o, none⟩) len cap) none (some (.int .i64 (A : Int))) none).run Try.prog w = .ok (.slice (some ⟨g, o, none⟩) A cap) w := by
  rw [run_sliceAt_slice w 22 _ _ _ _ (by kernel_rfl)]
  exact run_hi22 g o A len cap hA w
end Go.Proofs.Ytgefampdfhbmbaa
/- What the program's Mac answers. -/
namespace Go.Proofs.Ytgefampdfhbmbaa
open Go.RowKit
set_option linter.unusedVariables false

set_option maxRecDepth 100000 in
set_option maxHeartbeats 1000000 in
theorem pLast_full (r : List UInt8) (hr : r.length = 16) (n B p : Nat) (hn : n ≤ 8) (key : Nat → UInt8) (v : Value) (w : World) (h : AcAt w B p n key) (hv : ByAt w v r) : Calls Try.prog 57 #[.pointer (some ⟨p, 0, none⟩), v] w fun e w' => e = .returned (.agg (bR (xoB (blk r) (dbB (enS (n + 6) (rkS n key) z0))))) ∧ Below w.heap.size w w' := by
  obtain ⟨a, cap, rfl⟩ := hv.len
  have HSRC := hidD (fun h0 => hv.src h0)
  have HA := hidD h
  have hi5 := Try.size5
  obtain ⟨hz, hsz⟩ := zero_of_info Try.zero59
  have hz0 : (rowZ .u8 16 (fun _ => 0)) = bR (fun _ => 0) := rfl
  rw [hz0] at hz
  have hbs : ∀ c : Nat → UInt8, (bR c).size = 16 := fun c => rowZ_size _ _ _
  have HIB : Hid (∀ c : Nat → UInt8, (Try.prog.info? 59).map (·.size) = some (bR c).size) := fun c => by rw [hsz, hbs]
  have HON : Hid (∀ c : Nat → UInt8, (bR c).all (·.oneCell') = true) := fun c => rowZ_one _ _ _
  have HSB : Hid (∀ c d : Nat → UInt8, (bR c).size = (bR d).size) := fun c d => by rw [hbs, hbs]
  have HEN := hidD (fun (w : World) h => pEncrypted_any n B p hn key z0 w h)
  rw [show bR z0 = bR (fun _ => 0) from rfl] at HEN
  have HD1 := hidD (fun w => pDoubled_any (enS (n + 6) (rkS n key) z0) w)
  have HD2 := hidD (fun w => pDoubled_any (dbB (enS (n + 6) (rkS n key) z0)) w)
  obtain ⟨b1, b2, b3, b4⟩ := two_blocks w (bR (fun _ => 0)) (bR (fun _ => 0)) 59
  have R0 : Hid (RowZ ((w.alloc (.cells (bR (fun _ => 0)) (59 : TypeId))).alloc (.cells (bR (fun _ => 0)) (59 : TypeId))) w.heap.size .u8 16 59 (fun i => (((fun _ => 0 : Nat → UInt8) i).toNat : Int))) := b1
  have L0 : Hid (RowZ ((w.alloc (.cells (bR (fun _ => 0)) (59 : TypeId))).alloc (.cells (bR (fun _ => 0)) (59 : TypeId))) (w.heap.size + 1) .u8 16 59 (fun i => (((fun _ => 0 : Nat → UInt8) i).toNat : Int))) := b2
  have B0 := hidD b3
  have HRES : Hid (∀ i, i < 16 → (if 0 ≤ i ∧ i < 0 + r.length then ((r.getD (i - 0) 0).toNat : Int) else (((fun _ => 0 : Nat → UInt8) i).toNat : Int)) = ((blk r i).toNat : Int)) := fun i hi => by
    unfold blk
    by_cases h1 : i < r.length
    · rw [if_pos ⟨Nat.zero_le _, by omega⟩, Nat.sub_zero]
    · rw [if_neg (by omega), List.getD_eq_getElem?_getD, List.getElem?_eq_none (by omega)]; rfl
  have HRM : Hid (r.length = Nat.min r.length 16 ∧ r.length ≤ 16) := ⟨by show _ = min _ _; omega, by omega⟩
  have hlt : ¬ (r.length : Int) < 16 := by omega
  clear b1 b2 b3 b4 h hv hbs hsz hz0 hn
  generalize hX1 : enS (n + 6) (rkS n key) z0 = e1 at *
  have HX1 := hidD hX1
  generalize hX2 : dbB e1 = e2 at *
  have HX2 := hidD hX2
  generalize hX3 : dbB e2 = e3 at *
  have HX3 := hidD hX3
  clear hX1 hX2 hX3
  have HW1 := hidD (fun w => pWith_any (blk r) e2 w)
  have HW2 := hidD (fun w => pWith_any (putB (blk r) r.length 128) e3 w)
  rw [hr] at *
  generalize hb : blk r = br at *
  have HBR := hidD hb
  clear hb hr
  go_enter Try.func57, Try.ntmps57
  go_wp2_with (first
    | (go_at_call 42; refine (HEN.out _ (HA.out.next B0.out)).mono ?_; rintro e w2 ⟨rfl, hb2⟩; have R2 := hidD (R0.out.next hb2); have L2 := hidD (L0.out.next hb2); have B2 : Hid (Below w.heap.size w w2) := Below.next B0.out hb2; clear hb2 R0 L0 HEN)
    | (go_at_call 72; refine (HD1.out _).mono ?_; rintro e w3 ⟨rfl, hb3⟩; have R3 := hidD (R2.out.next hb3); have L3 := hidD (L2.out.next hb3); have B3 : Hid (Below w.heap.size w w3) := Below.next B2.out hb3; have N3 : Hid (RowZ (w3.alloc (.cells (bR (fun _ => 0)) (59 : TypeId))) w3.heap.size .u8 16 59 (fun i => (((fun _ => 0 : Nat → UInt8) i).toNat : Int))) := RowZ.new w3 .u8 16 59 _; clear hb3 R2 L2 HD1)
    | (refine wpList_store_row rfl 59 _ _ rfl w3.heap.size (bR e2) rfl rfl 59 (bR (fun _ => 0)) N3.out (HIB.out _) (HSB.out _ _) (HON.out _) ?_; have U4 : Hid (Below w3.heap.size w3 ((w3.alloc (.cells (bR (fun _ => 0)) (59 : TypeId))).setRow w3.heap.size (bR e2))) := below_setRow ((Below.refl _ _).alloc (Nat.le_refl _) _) (Nat.le_refl _) _; have K4 : Hid (RowZ ((w3.alloc (.cells (bR (fun _ => 0)) (59 : TypeId))).setRow w3.heap.size (bR e2)) w3.heap.size .u8 16 59 (fun i => ((e2 i).toNat : Int))) := row_new N3.out; generalize (w3.alloc (.cells (bR (fun _ => 0)) (59 : TypeId))).setRow w3.heap.size (bR e2) = u4 at *; have R4 := hidD (R3.out.next U4.out); have L4 := hidD (L3.out.next U4.out); have B4 : Hid (Below w.heap.size w u4) := Below.next B3.out U4.out; have G4 : Hid (w.heap.size + 1 < w3.heap.size) := L3.out.lt; clear R3 L3 U4 N3)
    | (refine wpList_copy_Z rfl _ _ 22 22 rfl 5 Try.underlying22 hi5 (some ⟨w.heap.size + 1, 0, none⟩) a 16 16 16 cap rfl rfl .u8 (w.heap.size + 1) 0 16 16 (fun i => (((fun _ => 0 : Nat → UInt8) i).toNat : Int)) (fun i => ((r.getD i 0).toNat : Int)) 59 L4.out HRM.out.1 (fun h0 => ⟨rfl, by obtain ⟨g', o', x1, x2, x3⟩ := HSRC.out h0; exact ⟨g', o', x1, fun j hj => (B4.out.cell (p := ⟨g', o' + j, none⟩) x2).trans (x3 j hj)⟩⟩) (by have := HRM.out.2; omega) ?_; intro w5 hr5 hb5; have L5 : Hid (RowZ w5 (w.heap.size + 1) .u8 16 59 (fun i => ((br i).toNat : Int))) := hr5.out.congr HRES.out; have R5 := hidD (R4.out.but hb5 (by omega)); have K5 := hidD (K4.out.but hb5 (by have := G4.out; omega)); have B5 : Hid (Below w.heap.size w w5) := B4.out.trans (hb5.bel.mono (by omega)); clear hr5 hb5 R4 L4 K4 B4)
    | (refine wpList_load_row rfl 59 _ rfl (w.heap.size + 1) rfl 59 (bR br) (0, 0) _ L5.out Try.underlying59 rfl (HIB.out _) ?_)
    | (refine wpList_load_row rfl 59 _ rfl w3.heap.size rfl 59 (bR e2) (0, 0) _ K5.out Try.underlying59 rfl (HIB.out _) ?_)
    | (go_at_call 51; refine (HW1.out _).mono ?_; rintro e w7 ⟨rfl, hb7⟩; have R7 := hidD (R5.out.next hb7); have B7 : Hid (Below w.heap.size w w7) := Below.next B5.out hb7; clear hb7)
    | (refine wpList_store_row rfl 59 _ _ rfl w.heap.size (bR (xoB br e2)) rfl rfl 59 (bR (fun _ => 0)) R7.out (HIB.out _) (HSB.out _ _) (HON.out _) ?_))
  refine bodyPost_ret (results_cell_row (P := Try.prog) (p := 4) (ty := 59) (by kernel_rfl) _ _ w.heap.size 59 (bR (xoB br e2)) (0, 0) _ rfl (setRow_heap _ _ (bR (fun _ => 0)) (bR (xoB br e2)) 59 (0, 0) R7.out) Try.underlying59 rfl (HIB.out _)) rfl ?_
  exact ⟨rfl, below_setRow B7.out (Nat.le_refl _) _⟩
set_option maxRecDepth 100000 in
set_option maxHeartbeats 1000000 in
theorem pLast_part (r : List UInt8) (hr : r.length < 16) (n B p : Nat) (hn : n ≤ 8) (key : Nat → UInt8) (v : Value) (w : World) (h : AcAt w B p n key) (hv : ByAt w v r) : Calls Try.prog 57 #[.pointer (some ⟨p, 0, none⟩), v] w fun e w' => e = .returned (.agg (bR (xoB (putB (blk r) r.length 128) (dbB (dbB (enS (n + 6) (rkS n key) z0)))))) ∧ Below w.heap.size w w' := by
  obtain ⟨a, cap, rfl⟩ := hv.len
  have HSRC := hidD (fun h0 => hv.src h0)
  have HA := hidD h
  have hi5 := Try.size5
  obtain ⟨hz, hsz⟩ := zero_of_info Try.zero59
  have hz0 : (rowZ .u8 16 (fun _ => 0)) = bR (fun _ => 0) := rfl
  rw [hz0] at hz
  have hbs : ∀ c : Nat → UInt8, (bR c).size = 16 := fun c => rowZ_size _ _ _
  have HIB : Hid (∀ c : Nat → UInt8, (Try.prog.info? 59).map (·.size) = some (bR c).size) := fun c => by rw [hsz, hbs]
  have HON : Hid (∀ c : Nat → UInt8, (bR c).all (·.oneCell') = true) := fun c => rowZ_one _ _ _
  have HSB : Hid (∀ c d : Nat → UInt8, (bR c).size = (bR d).size) := fun c d => by rw [hbs, hbs]
  have HEN := hidD (fun (w : World) h => pEncrypted_any n B p hn key z0 w h)
  rw [show bR z0 = bR (fun _ => 0) from rfl] at HEN
  have HD1 := hidD (fun w => pDoubled_any (enS (n + 6) (rkS n key) z0) w)
  have HD2 := hidD (fun w => pDoubled_any (dbB (enS (n + 6) (rkS n key) z0)) w)
  obtain ⟨b1, b2, b3, b4⟩ := two_blocks w (bR (fun _ => 0)) (bR (fun _ => 0)) 59
  have R0 : Hid (RowZ ((w.alloc (.cells (bR (fun _ => 0)) (59 : TypeId))).alloc (.cells (bR (fun _ => 0)) (59 : TypeId))) w.heap.size .u8 16 59 (fun i => (((fun _ => 0 : Nat → UInt8) i).toNat : Int))) := b1
  have L0 : Hid (RowZ ((w.alloc (.cells (bR (fun _ => 0)) (59 : TypeId))).alloc (.cells (bR (fun _ => 0)) (59 : TypeId))) (w.heap.size + 1) .u8 16 59 (fun i => (((fun _ => 0 : Nat → UInt8) i).toNat : Int))) := b2
  have B0 := hidD b3
  have HRES : Hid (∀ i, i < 16 → (if 0 ≤ i ∧ i < 0 + r.length then ((r.getD (i - 0) 0).toNat : Int) else (((fun _ => 0 : Nat → UInt8) i).toNat : Int)) = ((blk r i).toNat : Int)) := fun i hi => by
    unfold blk
    by_cases h1 : i < r.length
    · rw [if_pos ⟨Nat.zero_le _, by omega⟩, Nat.sub_zero]
    · rw [if_neg (by omega), List.getD_eq_getElem?_getD, List.getElem?_eq_none (by omega)]; rfl
  have HRM : Hid (r.length = Nat.min r.length 16 ∧ r.length ≤ 16) := ⟨by show _ = min _ _; omega, by omega⟩
  have hlt : (r.length : Int) < 16 := by omega
  have HRL := hidD hr
  clear b1 b2 b3 b4 h hv hbs hsz hz0 hn
  generalize hX1 : enS (n + 6) (rkS n key) z0 = e1 at *
  have HX1 := hidD hX1
  generalize hX2 : dbB e1 = e2 at *
  have HX2 := hidD hX2
  generalize hX3 : dbB e2 = e3 at *
  have HX3 := hidD hX3
  clear hX1 hX2 hX3
  have HW1 := hidD (fun w => pWith_any (blk r) e2 w)
  have HW2 := hidD (fun w => pWith_any (putB (blk r) r.length 128) e3 w)
  generalize hb : blk r = br at *
  have HBR := hidD hb
  clear hb hr
  generalize hm : r.length = m at *
  have HM := hidD hm
  clear hm
  go_enter Try.func57, Try.ntmps57
  go_wp2_with (first
    | (go_at_call 42; refine (HEN.out _ (HA.out.next B0.out)).mono ?_; rintro e w2 ⟨rfl, hb2⟩; have R2 := hidD (R0.out.next hb2); have L2 := hidD (L0.out.next hb2); have B2 : Hid (Below w.heap.size w w2) := Below.next B0.out hb2; clear hb2 R0 L0 HEN)
    | (go_at_call 72; refine (HD1.out _).mono ?_; rintro e w3 ⟨rfl, hb3⟩; have R3 := hidD (R2.out.next hb3); have L3 := hidD (L2.out.next hb3); have B3 : Hid (Below w.heap.size w w3) := Below.next B2.out hb3; have N3 : Hid (RowZ (w3.alloc (.cells (bR (fun _ => 0)) (59 : TypeId))) w3.heap.size .u8 16 59 (fun i => (((fun _ => 0 : Nat → UInt8) i).toNat : Int))) := RowZ.new w3 .u8 16 59 _; clear hb3 R2 L2 HD1)
    | (refine wpList_store_row rfl 59 _ _ rfl w3.heap.size (bR e2) rfl rfl 59 (bR (fun _ => 0)) N3.out (HIB.out _) (HSB.out _ _) (HON.out _) ?_; have U4 : Hid (Below w3.heap.size w3 ((w3.alloc (.cells (bR (fun _ => 0)) (59 : TypeId))).setRow w3.heap.size (bR e2))) := below_setRow ((Below.refl _ _).alloc (Nat.le_refl _) _) (Nat.le_refl _) _; have K4 : Hid (RowZ ((w3.alloc (.cells (bR (fun _ => 0)) (59 : TypeId))).setRow w3.heap.size (bR e2)) w3.heap.size .u8 16 59 (fun i => ((e2 i).toNat : Int))) := row_new N3.out; generalize (w3.alloc (.cells (bR (fun _ => 0)) (59 : TypeId))).setRow w3.heap.size (bR e2) = u4 at *; have R4 := hidD (R3.out.next U4.out); have L4 := hidD (L3.out.next U4.out); have B4 : Hid (Below w.heap.size w u4) := Below.next B3.out U4.out; have G4 : Hid (w.heap.size + 1 < w3.heap.size) := L3.out.lt; clear R3 L3 U4 N3)
    | (refine wpList_copy_Z rfl _ _ 22 22 rfl 5 Try.underlying22 hi5 (some ⟨w.heap.size + 1, 0, none⟩) a 16 16 m cap rfl rfl .u8 (w.heap.size + 1) 0 16 m (fun i => (((fun _ => 0 : Nat → UInt8) i).toNat : Int)) (fun i => ((r.getD i 0).toNat : Int)) 59 L4.out HRM.out.1 (fun h0 => ⟨rfl, by obtain ⟨g', o', x1, x2, x3⟩ := HSRC.out h0; exact ⟨g', o', x1, fun j hj => (B4.out.cell (p := ⟨g', o' + j, none⟩) x2).trans (x3 j hj)⟩⟩) (by have := HRM.out.2; omega) ?_; intro w5 hr5 hb5; have L5 : Hid (RowZ w5 (w.heap.size + 1) .u8 16 59 (fun i => ((br i).toNat : Int))) := hr5.out.congr HRES.out; have R5 := hidD (R4.out.but hb5 (by omega)); have K5 := hidD (K4.out.but hb5 (by have := G4.out; omega)); have B5 : Hid (Below w.heap.size w w5) := B4.out.trans (hb5.bel.mono (by omega)); have c5 := L5.out.cell HRL.out; have f5 := L5.out.frozen m; have R6 : Hid (∀ v, RowZ (w5.setCell ⟨w.heap.size + 1, m, none⟩ v) w.heap.size .u8 16 59 (fun i => (((fun _ => 0 : Nat → UInt8) i).toNat : Int))) := (fun v => R5.out.other (by omega) _ v); have K6 : Hid (∀ v, RowZ (w5.setCell ⟨w.heap.size + 1, m, none⟩ v) w3.heap.size .u8 16 59 (fun i => ((e2 i).toNat : Int))) := (fun v => K5.out.other (by have := G4.out; omega) _ v); have L6 : Hid (RowZ (w5.setCell ⟨w.heap.size + 1, m, none⟩ (.int .u8 128)) (w.heap.size + 1) .u8 16 59 (fun i => ((putB br m 128 i).toNat : Int))) := row_put L5.out HRL.out 128; have B6 : Hid (∀ v, Below w.heap.size w (w5.setCell ⟨w.heap.size + 1, m, none⟩ v)) := (fun v => below_setCell B5.out (by omega) _ v); clear hr5 hb5 R4 L4 K4 B4)
    | (refine wpList_load_row rfl 59 _ rfl w3.heap.size rfl 59 (bR e2) (0, 0) _ (K6.out _) Try.underlying59 rfl (HIB.out _) ?_; generalize hW6 : w5.setCell ⟨w.heap.size + 1, m, none⟩ (.int .u8 128) = w6 at *; have R6' : Hid (RowZ w6 w.heap.size .u8 16 59 (fun i => (((fun _ => 0 : Nat → UInt8) i).toNat : Int))) := (by rw [← hW6]; exact R6.out _); have K6' : Hid (RowZ w6 w3.heap.size .u8 16 59 (fun i => ((e2 i).toNat : Int))) := (by rw [← hW6]; exact K6.out _); have B6' : Hid (Below w.heap.size w w6) := (by rw [← hW6]; exact B6.out _); clear hW6 R6 K6 B6 R5 K5 B5 L5 c5 f5)
    | (go_at_call 72; refine (HD2.out _).mono ?_; rintro e w7 ⟨rfl, hb7⟩; have R7 := hidD (R6'.out.next hb7); have K7 := hidD (K6'.out.next hb7); have L7 := hidD (L6.out.next hb7); have B7 : Hid (Below w.heap.size w w7) := Below.next B6'.out hb7; clear hb7)
    | (refine wpList_store_row rfl 59 _ _ rfl w3.heap.size (bR e3) rfl rfl 59 (bR e2) K7.out (HIB.out _) (HSB.out _ _) (HON.out _) ?_; have K8 : Hid (RowZ (w7.setRow w3.heap.size (bR e3)) w3.heap.size .u8 16 59 (fun i => ((e3 i).toNat : Int))) := row_new K7.out; have L8 : Hid (RowZ (w7.setRow w3.heap.size (bR e3)) (w.heap.size + 1) .u8 16 59 (fun i => ((putB br m 128 i).toNat : Int))) := (setRow_other _ _ _ _ (by have := G4.out; omega)).trans L7.out; have R8 : Hid (RowZ (w7.setRow w3.heap.size (bR e3)) w.heap.size .u8 16 59 (fun i => (((fun _ => 0 : Nat → UInt8) i).toNat : Int))) := (setRow_other _ _ _ _ (by have := G4.out; omega)).trans R7.out; have B8 : Hid (Below w.heap.size w (w7.setRow w3.heap.size (bR e3))) := below_setRow B7.out (by have := G4.out; omega) _; generalize w7.setRow w3.heap.size (bR e3) = w8 at *)
    | (refine wpList_load_row rfl 59 _ rfl (w.heap.size + 1) rfl 59 (bR (putB br m 128)) (0, 0) _ L8.out Try.underlying59 rfl (HIB.out _) ?_)
    | (refine wpList_load_row rfl 59 _ rfl w3.heap.size rfl 59 (bR e3) (0, 0) _ K8.out Try.underlying59 rfl (HIB.out _) ?_)
    | (go_at_call 51; refine (HW2.out _).mono ?_; rintro e w9 ⟨rfl, hb9⟩; have R9 := hidD (R8.out.next hb9); have B9 : Hid (Below w.heap.size w w9) := Below.next B8.out hb9; clear hb9)
    | (refine wpList_store_row rfl 59 _ _ rfl w.heap.size (bR (xoB (putB br m 128) e3)) rfl rfl 59 (bR (fun _ => 0)) R9.out (HIB.out _) (HSB.out _ _) (HON.out _) ?_))
  refine bodyPost_ret (results_cell_row (P := Try.prog) (p := 4) (ty := 59) (by kernel_rfl) _ _ w.heap.size 59 (bR (xoB (putB br m 128) e3)) (0, 0) _ rfl (setRow_heap _ _ (bR (fun _ => 0)) (bR (xoB (putB br m 128) e3)) 59 (0, 0) R9.out) Try.underlying59 rfl (HIB.out _)) rfl ?_
  exact ⟨rfl, below_setRow B9.out (Nat.le_refl _) _⟩
theorem pLast_any (r : List UInt8) (hr : r.length ≤ 16) (n B p : Nat) (hn : n ≤ 8) (key : Nat → UInt8) (v : Value) (w : World) (h : AcAt w B p n key) (hv : ByAt w v r) : Calls Try.prog 57 #[.pointer (some ⟨p, 0, none⟩), v] w fun e w' => e = .returned (.agg (bR (lmS (enS (n + 6) (rkS n key)) r))) ∧ Below w.heap.size w w' := by
  unfold lmS
  by_cases h1 : r.length < 16
  · rw [if_pos h1]; exact pLast_part r h1 n B p hn key v w h hv
  · rw [if_neg h1]; exact pLast_full r (by omega) n B p hn key v w h hv
end Go.Proofs.Ytgefampdfhbmbaa
/- What the program's Mac answers. -/
namespace Go.Proofs.Ytgefampdfhbmbaa
open Go.RowKit
set_option linter.unusedVariables false

theorem pMac_nil (v : Value) (w : World) : Calls Try.prog 28 #[.pointer none, v] w fun e w' => ∃ vo, e = .returned (.tuple #[vo, .int .i64 2]) ∧ SlAt w' vo [] ∧ Below w.heap.size w w' := by
  go_enter Try.func28, Try.ntmps28
  go_wp2_with fail
  refine bodyPost_ret (v := .tuple #[.slice none 0 0, .int .i64 2]) (by simp [results, Try.results28, go_sem]) rfl ?_
  exact ⟨_, rfl, sl_nil _, Below.refl _ _⟩
set_option maxRecDepth 100000 in
set_option maxHeartbeats 1000000 in
theorem pMac_none (d : List UInt8) (hd : d.length ≤ 140737488355100) (h0 : d.length = 0) (n B p : Nat) (hn : n ≤ 8) (key : Nat → UInt8) (u : Value) (w : World) (h : AcAt w B p n key) (hu : SlAt w u d) : Calls Try.prog 28 #[.pointer (some ⟨p, 0, none⟩), u] w fun e w' => ∃ vo, e = .returned (.tuple #[vo, .int .i64 0]) ∧ SlAt w' vo (toL (macS (enS (n + 6) (rkS n key)) d)) ∧ Below w.heap.size w w' := by
  have HA := hidD h
  have HFIN : Hid (toL (enS (n + 6) (rkS n key) (xoB (lmS (enS (n + 6) (rkS n key)) (d.drop (ahN d.length))) (chP (enS (n + 6) (rkS n key)) z0 (d.take (ahN d.length)) (ahN d.length / 16)))) = toL (macS (enS (n + 6) (rkS n key)) d)) := toL_congr (mac_same (fun h => enS_same h) d)
  have HCH := hidD (fun w h => pChaining_any n B p key z0 w h)
  rw [show bR z0 = bR (fun _ => 0) from rfl] at HCH
  have HBY := hidD (fun w => pBytes_any (enS (n + 6) (rkS n key) (xoB (lmS (enS (n + 6) (rkS n key)) (d.drop (ahN d.length))) (chP (enS (n + 6) (rkS n key)) z0 (d.take (ahN d.length)) (ahN d.length / 16)))) w)
  have HLM := hidD (fun (v : Value) (w : World) h hv => pLast_any (d.drop (ahN d.length)) (by rw [List.length_drop]; unfold ahN; omega) n B p hn key v w h hv)
  have HCL := hidD (fun cb cn (w : World) h => pChn_any n B p hn key cb cn (chP (enS (n + 6) (rkS n key)) z0 (d.take (ahN d.length)) (ahN d.length / 16)) (lmS (enS (n + 6) (rkS n key)) (d.drop (ahN d.length))) w h)
  have hAl : ahN d.length ≤ d.length := by unfold ahN; omega
  have HTL : Hid ((d.take (ahN d.length)).length = ahN d.length ∧ (ahN d.length + 15) / 16 = ahN d.length / 16) := ⟨by rw [List.length_take]; omega, by unfold ahN; omega⟩
  obtain ⟨hz, hsz⟩ := zero_of_info Try.zero59
  have hz0 : (rowZ .u8 16 (fun _ => 0)) = bR (fun _ => 0) := rfl
  rw [hz0] at hz
  obtain ⟨⟨ub, uc, rfl, hc2, hc3⟩, hby⟩ := hu
  have HWK : Hid (∀ (w4 : World) (cb cn : Nat) (v1 : Value), SlAt w4 v1 (d.take (ahN d.length)) → (0 < (d.take (ahN d.length)).length → Off v1 cn) → CsAt w4 B p n key cb cn z0 → Calls Try.prog 49 #[v1, .func (.func 71) #[] #[.pointer (some ⟨cb, 0, none⟩), .pointer (some ⟨cn, 0, none⟩)]] w4 fun e w' => ∃ vo, e = .returned vo ∧ CsAt w' B p n key cb cn (chP (enS (n + 6) (rkS n key)) z0 (d.take (ahN d.length)) (ahN d.length / 16)) ∧ But cn w4 w') := fun w4 cb cn v1 hs ho hcs => by
    have hw := pWalk71_any (d.take (ahN d.length)) (by rw [HTL.out.1]; omega) cb cn (fun a k => CsAt a B p n key cb cn (chP (enS (n + 6) (rkS n key)) z0 (d.take (ahN d.length)) k)) (fun k => chP (enS (n + 6) (rkS n key)) z0 (d.take (ahN d.length)) (k + 1)) v1 w4 hs hcs.row.lt ho
      (fun k a b ha hs hk hle => ha.same hcs.ac.lt hcs.cbl hcs.row.lt hk hle) hcs (fun k hk a ha => pChn_any n B p hn key cb cn _ _ a ha)
    refine hw.mono ?_
    rintro e w' ⟨vo, rfl, _, hcs', hbu⟩
    rw [HTL.out.1, HTL.out.2] at hcs'
    exact ⟨vo, rfl, hcs', hbu⟩
  have hd0 : d = [] := List.eq_nil_of_length_eq_zero h0
  have hA0 : ahN d.length = 0 := by rw [h0]; rfl
  have HN1 : Hid (∀ (w' : World) (a : Option Addr) (c : Nat), (a = none → c = 0) → 0 ≤ c → c ≤ 9223372036854775807 → SlAt w' (.slice a 0 c) (d.take (ahN d.length))) := fun w' a c h1 h2 h3 => by
    rw [hA0, List.take_zero]; exact ⟨⟨a, c, rfl, h2, h3⟩, .inl ⟨rfl, a, c, rfl, h1⟩⟩
  have HN2 : Hid (∀ (w' : World) (a : Option Addr) (c : Nat), (a = none → c = 0) → ByAt w' (.slice a 0 c) (d.drop (ahN d.length))) := fun w' a c h1 => by
    rw [hA0, List.drop_zero, hd0]; exact .inl ⟨rfl, a, c, rfl, h1⟩
  have hau : ub = none → uc = 0 := by
    intro hn
    rcases hby with ⟨_, a, c, h1, h2⟩ | ⟨g, o, c, h1, _, _⟩
    · rw [h0] at h1; cases h1; exact h2 hn
    · rw [h0] at h1; cases h1; cases hn
  have hu22 : Try.prog.underlying 22 = some (.slice (Try.prog.elem 22)) := by kernel_rfl
  obtain ⟨i0, hin, _, _, _⟩ := info_parts Try.info5
  have he5 : Try.prog.elem 22 = 5 := by kernel_rfl
  have ro : ∀ w' : World, (Instr.slice 22 (.slice ub 0 uc) none (some (.int .i64 0)) none).run Try.prog w' = .ok (.slice (if uc = 0 then ub else ub.map (·.add 0)) 0 uc) w' := fun w' => by
    rw [run_slice_h w' 22 _ 0 uc hu22 .i64 0 (by omega) (by omega), he5, run_sizeOf w' hin, Result.andThen_ok]
    simp [sliced]
  have rl : ∀ w' : World, (Instr.slice 22 (.slice ub 0 uc) (some (.int .i64 0)) none none).run Try.prog w' = .ok (.slice (if uc = 0 then ub else ub.map (·.add 0)) 0 uc) w' := fun w' => by
    rw [run_slice_l w' 22 _ 0 uc hu22 .i64 0 (by omega) (by omega), he5, run_sizeOf w' hin, Result.andThen_ok]
    simp [sliced]
  have roA : ∀ w' : World, (Instr.sliceAt 22 (.slice ub 0 uc) none (some (.int .i64 0)) none).run Try.prog w' = .ok (.slice (if uc = 0 then ub else ub.map (·.add 0)) 0 uc) w' := fun w' => by rw [run_sliceAt_slice w' 22 _ _ _ _ (by kernel_rfl)]; exact ro w'
  have rlA : ∀ w' : World, (Instr.sliceAt 22 (.slice ub 0 uc) (some (.int .i64 0)) none none).run Try.prog w' = .ok (.slice (if uc = 0 then ub else ub.map (·.add 0)) 0 uc) w' := fun w' => by rw [run_sliceAt_slice w' 22 _ _ _ _ (by kernel_rfl)]; exact rl w'
  have HAU : Hid ((if uc = 0 then ub else ub.map (·.add 0)) = none → uc = 0) := by
    intro hn
    by_cases hz' : uc = 0
    · exact hz'
    · rw [if_neg hz'] at hn
      cases ub with
      | none => exact hau rfl
      | some x => cases hn
  generalize (if uc = 0 then ub else ub.map (·.add 0)) = a1 at *
  have HO1 : Hid (∀ (v : Value) (cn : Nat), 0 < (d.take (ahN d.length)).length → Off v cn) := fun v cn hh => absurd hh (by rw [HTL.out.1, hA0]; omega)
  have HC3 := hidD hc3
  rw [h0] at *
  clear h hd hby hau hd0 hsz hz0 hn h0 hu22 hin he5 hAl
  generalize hFm : enS (n + 6) (rkS n key) (xoB (lmS (enS (n + 6) (rkS n key)) (d.drop (ahN d.length))) (chP (enS (n + 6) (rkS n key)) z0 (d.take (ahN d.length)) (ahN d.length / 16))) = fm at *
  generalize lmS (enS (n + 6) (rkS n key)) (d.drop (ahN d.length)) = lm at *
  generalize chP (enS (n + 6) (rkS n key)) z0 (d.take (ahN d.length)) (ahN d.length / 16) = cp at *
  clear hFm
  go_enter Try.func28, Try.ntmps28
  go_wp2_with (first
    | (go_at_call 54; refine (HCH.out _ HA.out).mono ?_; rintro e w3 ⟨rfl, hcs3, hb3⟩; have C3 := hidD hcs3; have B3 := hidD hb3; clear hcs3 hb3)
    | (go_at_call 49; refine (HWK.out _ _ _ _ (HN1.out _ _ _ HAU.out (Nat.zero_le _) HC3.out) (HO1.out _ _) C3.out).mono ?_; rintro e w4 ⟨v4, rfl, hcs4, hu4⟩; have C4 := hidD hcs4; have HU4 := hidD hu4; have B4 : Hid (Below w.heap.size w w4) := B3.out.trans (hu4.bel.mono (Nat.le_succ _)); clear hcs4 hu4)
    | (go_at_call 57; refine (HLM.out _ _ C4.out.ac (HN2.out _ _ _ HAU.out)).mono ?_; rintro e w5 ⟨rfl, hb5⟩; have C5 := hidD (C4.out.next hb5); have B5 : Hid (Below w.heap.size w w5) := Below.next B4.out hb5; clear hb5)
    | (go_at_call 71; refine (HCL.out _ _ _ C5.out).mono ?_; rintro e w6 ⟨rfl, _, hu6⟩; have B6 : Hid (Below w.heap.size w w6) := B5.out.trans (hu6.bel.mono (Nat.le_succ _)); clear hu6)
    | (go_at_call 40; refine (HBY.out _).mono ?_; rintro e w7 ⟨g7, rfl, hg7, hr7, hb7⟩; have R7 := hidD hr7; have B7 : Hid (Below w.heap.size w w7) := Below.next B6.out hb7; clear hg7 hr7 hb7))
  refine bodyPost_ret (v := .tuple #[.slice (some ⟨g7, 0, none⟩) 16 16, .int .i64 0]) (by simp [results, Try.results28, go_sem]) rfl ?_
  refine ⟨_, rfl, ?_, B7.out⟩
  rw [← HFIN.out]; exact rowZ_sl R7.out (by omega)
set_option maxRecDepth 100000 in
set_option maxHeartbeats 1000000 in
theorem pMac_some (d : List UInt8) (hd : d.length ≤ 140737488355100) (h0 : 0 < d.length) (n B p : Nat) (hn : n ≤ 8) (key : Nat → UInt8) (u : Value) (w : World) (h : AcAt w B p n key) (hu : SlAt w u d) : Calls Try.prog 28 #[.pointer (some ⟨p, 0, none⟩), u] w fun e w' => ∃ vo, e = .returned (.tuple #[vo, .int .i64 0]) ∧ SlAt w' vo (toL (macS (enS (n + 6) (rkS n key)) d)) ∧ Below w.heap.size w w' := by
  have HA := hidD h
  have HFIN : Hid (toL (enS (n + 6) (rkS n key) (xoB (lmS (enS (n + 6) (rkS n key)) (d.drop (ahN d.length))) (chP (enS (n + 6) (rkS n key)) z0 (d.take (ahN d.length)) (ahN d.length / 16)))) = toL (macS (enS (n + 6) (rkS n key)) d)) := toL_congr (mac_same (fun h => enS_same h) d)
  have HCH := hidD (fun w h => pChaining_any n B p key z0 w h)
  rw [show bR z0 = bR (fun _ => 0) from rfl] at HCH
  have HBY := hidD (fun w => pBytes_any (enS (n + 6) (rkS n key) (xoB (lmS (enS (n + 6) (rkS n key)) (d.drop (ahN d.length))) (chP (enS (n + 6) (rkS n key)) z0 (d.take (ahN d.length)) (ahN d.length / 16)))) w)
  have HLM := hidD (fun (v : Value) (w : World) h hv => pLast_any (d.drop (ahN d.length)) (by rw [List.length_drop]; unfold ahN; omega) n B p hn key v w h hv)
  have HCL := hidD (fun cb cn (w : World) h => pChn_any n B p hn key cb cn (chP (enS (n + 6) (rkS n key)) z0 (d.take (ahN d.length)) (ahN d.length / 16)) (lmS (enS (n + 6) (rkS n key)) (d.drop (ahN d.length))) w h)
  have hAl : ahN d.length ≤ d.length := by unfold ahN; omega
  have HTL : Hid ((d.take (ahN d.length)).length = ahN d.length ∧ (ahN d.length + 15) / 16 = ahN d.length / 16) := ⟨by rw [List.length_take]; omega, by unfold ahN; omega⟩
  obtain ⟨hz, hsz⟩ := zero_of_info Try.zero59
  have hz0 : (rowZ .u8 16 (fun _ => 0)) = bR (fun _ => 0) := rfl
  rw [hz0] at hz
  obtain ⟨⟨ub, uc, rfl, hc2, hc3⟩, hby⟩ := hu
  have HWK : Hid (∀ (w4 : World) (cb cn : Nat) (v1 : Value), SlAt w4 v1 (d.take (ahN d.length)) → (0 < (d.take (ahN d.length)).length → Off v1 cn) → CsAt w4 B p n key cb cn z0 → Calls Try.prog 49 #[v1, .func (.func 71) #[] #[.pointer (some ⟨cb, 0, none⟩), .pointer (some ⟨cn, 0, none⟩)]] w4 fun e w' => ∃ vo, e = .returned vo ∧ CsAt w' B p n key cb cn (chP (enS (n + 6) (rkS n key)) z0 (d.take (ahN d.length)) (ahN d.length / 16)) ∧ But cn w4 w') := fun w4 cb cn v1 hs ho hcs => by
    have hw := pWalk71_any (d.take (ahN d.length)) (by rw [HTL.out.1]; omega) cb cn (fun a k => CsAt a B p n key cb cn (chP (enS (n + 6) (rkS n key)) z0 (d.take (ahN d.length)) k)) (fun k => chP (enS (n + 6) (rkS n key)) z0 (d.take (ahN d.length)) (k + 1)) v1 w4 hs hcs.row.lt ho
      (fun k a b ha hs hk hle => ha.same hcs.ac.lt hcs.cbl hcs.row.lt hk hle) hcs (fun k hk a ha => pChn_any n B p hn key cb cn _ _ a ha)
    refine hw.mono ?_
    rintro e w' ⟨vo, rfl, _, hcs', hbu⟩
    rw [HTL.out.1, HTL.out.2] at hcs'
    exact ⟨vo, rfl, hcs', hbu⟩
  obtain ⟨dg, dq, rfl, hdg, hdc⟩ := hby.src h0
  have HDG := hidD hdg
  have HDC := hidD hdc
  have hAlt : ahN d.length < d.length := by unfold ahN; omega
  have e1 : (d.length : Int) - 1 = ((d.length - 1 : Nat) : Int) := by omega
  have e2 : ((d.length - 1 : Nat) : Int).tdiv 16 = (((d.length - 1) / 16 : Nat) : Int) := by rw [Int.tdiv_eq_ediv_of_nonneg (by omega)]; omega
  have e3 : (((d.length - 1) / 16 : Nat) : Int) * 16 = ((ahN d.length : Nat) : Int) := by unfold ahN; omega
  have e4 : ¬ ((d.length - 1 : Nat) : Int) < 0 := by omega
  have e5 : max ((d.length - 1 : Nat) : Int) 0 = ((d.length - 1 : Nat) : Int) := by omega
  have r1 := fun w' => run_hi22 dg dq (ahN d.length) d.length uc (by omega) w'
  have r2 := fun w' => run_hiAt22 dg dq (ahN d.length) d.length uc (by omega) w'
  have r3 := fun w' => run_slice22 dg dq (ahN d.length) d.length uc hAlt (by omega) w'
  have r4 := fun w' => run_sliceAt22 dg dq (ahN d.length) d.length uc hAlt (by omega) w'
  have HS1 : Hid (∀ w', Below w.heap.size w w' → SlAt w' (.slice (some ⟨dg, dq, none⟩) (ahN d.length) uc) (d.take (ahN d.length))) := fun w' hb => by
    have h1 := (hby.next hb).take hAl
    exact ⟨⟨_, uc, by rw [HTL.out.1], by rw [HTL.out.1]; omega, hc3⟩, h1⟩
  have HS2 : Hid (∀ w', w.heap.size ≤ w'.heap.size → w'.heap[dg]? = w.heap[dg]? → ByAt w' (.slice (some ⟨dg, dq + ahN d.length, none⟩) (d.length - ahN d.length) (uc - ahN d.length)) (d.drop (ahN d.length))) := fun w' hs hk => by_drop (Nat.lt_of_lt_of_le hdg hs) (fun j hj => (World.cell?_of_block hk).trans (hdc j hj)) hAl
  have HO1 : Hid (∀ cn, w.heap.size ≤ cn → Off (.slice (some ⟨dg, dq, none⟩) (ahN d.length) uc) cn) := fun cn hcn g o n c he => by cases he; omega
  have hb1 : d.length - 1 ≤ 140737488355100 := by omega
  have hb2 : (d.length - 1) / 16 ≤ 140737488355100 := by omega
  have hb3 : ahN d.length ≤ 140737488355100 := by omega
  clear h hby hdg hdc hsz hz0 hn hAlt hAl
  generalize (d.length - 1) / 16 = Q1 at *
  generalize d.length - 1 = L1 at *
  generalize hFm : enS (n + 6) (rkS n key) (xoB (lmS (enS (n + 6) (rkS n key)) (d.drop (ahN d.length))) (chP (enS (n + 6) (rkS n key)) z0 (d.take (ahN d.length)) (ahN d.length / 16))) = fm at *
  generalize lmS (enS (n + 6) (rkS n key)) (d.drop (ahN d.length)) = lm at *
  generalize chP (enS (n + 6) (rkS n key)) z0 (d.take (ahN d.length)) (ahN d.length / 16) = cp at *
  clear hFm
  generalize ahN d.length = A at *
  generalize d.length = L at *
  go_enter Try.func28, Try.ntmps28
  go_wp2_with (first
    | (go_at_call 54; refine (HCH.out _ HA.out).mono ?_; rintro e w3 ⟨rfl, hcs3, hb3⟩; have C3 := hidD hcs3; have B3 := hidD hb3; clear hcs3 hb3)
    | (go_at_call 49; refine (HWK.out _ _ _ _ (HS1.out _ B3.out) (fun _ => HO1.out _ (Nat.le_succ _)) C3.out).mono ?_; rintro e w4 ⟨v4, rfl, hcs4, hu4⟩; have C4 := hidD hcs4; have HU4 := hidD hu4; have B4 : Hid (Below w.heap.size w w4) := B3.out.trans (hu4.bel.mono (Nat.le_succ _)); clear hcs4 hu4)
    | (go_at_call 57; refine (HLM.out _ _ C4.out.ac (HS2.out _ (Nat.le_trans B3.out.size HU4.out.size) ((HU4.out.rest _ (Nat.lt_of_lt_of_le HDG.out B3.out.size) (by have := HDG.out; omega)).trans (B3.out.block _ HDG.out)))).mono ?_; rintro e w5 ⟨rfl, hb5⟩; have C5 := hidD (C4.out.next hb5); have B5 : Hid (Below w.heap.size w w5) := Below.next B4.out hb5; clear hb5)
    | (go_at_call 71; refine (HCL.out _ _ _ C5.out).mono ?_; rintro e w6 ⟨rfl, _, hu6⟩; have B6 : Hid (Below w.heap.size w w6) := B5.out.trans (hu6.bel.mono (Nat.le_succ _)); clear hu6)
    | (go_at_call 40; refine (HBY.out _).mono ?_; rintro e w7 ⟨g7, rfl, hg7, hr7, hb7⟩; have R7 := hidD hr7; have B7 : Hid (Below w.heap.size w w7) := Below.next B6.out hb7; clear hg7 hr7 hb7))
  refine bodyPost_ret (v := .tuple #[.slice (some ⟨g7, 0, none⟩) 16 16, .int .i64 0]) (by simp [results, Try.results28, go_sem]) rfl ?_
  refine ⟨_, rfl, ?_, B7.out⟩
  rw [← HFIN.out]; exact rowZ_sl R7.out (by omega)
theorem pMac_any (d : List UInt8) (hd : d.length ≤ 140737488355100) (n B p : Nat) (hn : n ≤ 8) (key : Nat → UInt8) (u : Value) (w : World) (h : AcAt w B p n key) (hu : SlAt w u d) : Calls Try.prog 28 #[.pointer (some ⟨p, 0, none⟩), u] w fun e w' => ∃ vo, e = .returned (.tuple #[vo, .int .i64 0]) ∧ SlAt w' vo (toL (macS (enS (n + 6) (rkS n key)) d)) ∧ Below w.heap.size w w' := by
  by_cases h0 : d.length = 0
  · exact pMac_none d hd h0 n B p hn key u w h hu
  · exact pMac_some d hd (by omega) n B p hn key u w h hu
end Go.Proofs.Ytgefampdfhbmbaa
