/- Texts of one proof, one behind the other. -/
import Derived.Test.YtgefampdfhbmbaaMk
import Derived.Test.YtgefampdfhbmbaaPx5
/- What the program's words answer: xored, substituted, changed. -/
namespace Go.Proofs.Ytgefampdfhbmbaa
open Go.RowKit
set_option linter.unusedVariables false

theorem Try.zero64z : (Try.prog.info? 64).map (fun i => (i.zero, i.size)) = some (some (.agg (rowZ .u8 4 (fun _ => 0))), 4) := by kernel_rfl
def wxS (a b : Nat → UInt8) (i : Nat) : UInt8 := a i ^^^ b i
def wsS (a : Nat → UInt8) (i : Nat) : UInt8 := subS (a i)
set_option maxRecDepth 100000 in
set_option maxHeartbeats 800000 in
theorem pXored_any (a b : Nat → UInt8) (w : World) : Calls Try.prog 73 #[.agg (colR a), .agg (colR b)] w fun e w' => e = .returned (.agg (colR (wxS a b))) ∧ Below w.heap.size w w' := by
  obtain ⟨hz, hsz⟩ := zero_of_info Try.zero64z
  have HSZ := hidD hsz
  have hs2 : (colR b).size = 4 := rowZ_size _ _ _
  have hib : Hid ((Try.prog.info? 64).map (·.size) = some (colR b).size) := by show _ = _; rw [hsz, hs2]
  have HIX : Hid (∀ k : Nat, k < 4 → ∀ w, (Instr.index 64 (.agg (colR b)) (.int .i64 (k : Int))).run Try.prog w = .ok (.int .u8 ((b k).toNat : Int)) w) := fun k hk w => index4 _ k _ hk (rowZ_get .u8 4 _ k hk) w
  obtain ⟨b1, b2, b3, b4, b5⟩ := three_blocks w (colR a) (colR b) (rowZ .u8 4 (fun _ => 0)) 64
  have W1 := hidD b1
  have W2 := hidD b2
  have W3 := hidD b3
  have W4 := hidD b4
  clear b1 b2 b3 b4 b5 hs2 hsz
  go_enter Try.func73, Try.ntmps73
  go_wp2_with (refine wpList_load_row rfl 64 _ rfl (w.heap.size + 1) rfl 64 (colR b) (0, 0) _ W2.out Try.underlying64 rfl hib.out ?_)
  generalize hW : World.alloc _ (Obj.cells (rowZ .u8 4 (fun _ => 0)) (64 : TypeId)) = W
  have V1 : Hid (RowZ W w.heap.size .u8 4 64 (fun i => ((a i).toNat : Int))) := by rw [← hW]; exact W1.out
  have V3 : Hid (RowZ W (w.heap.size + 2) .u8 4 64 (fun _ => 0)) := by rw [← hW]; exact W3.out
  have V4 : Hid (Below w.heap.size w W) := by rw [← hW]; exact W4.out
  clear hW W1 W2 W3 W4
  rw [show w.heap.size + 1 + 1 = w.heap.size + 2 from rfl]
  generalize hg : w.heap.size = g at *
  have HG := hidD hg
  clear hg
  go_loopw [8] (fun i wr => ∃ k : Nat, k ≤ 4 ∧ i = .int .i64 k ∧ RowZ wr g .u8 4 64 (fun i => ((if i < k then wxS a b i else a i : UInt8).toNat : Int)) ∧ RowZ wr (g + 2) .u8 4 64 (fun _ => 0) ∧ Below g W wr) (fun i _ => 4 - (intOf i).toNat)
  case atStart => exact ⟨0, Nat.zero_le _, rfl, V1.out, V3.out, Below.refl _ _⟩
  case round =>
    obtain ⟨k, hk, rfl, hrow, hout, hbel⟩ := hrel
    by_cases hlt : k < 4
    · have hlti : (k : Int) < 4 := by omega
      have hix := fun w => HIX.out k hlt w
      have hcc : wr.cell? ⟨g, k, none⟩ = some (.int .u8 ((a k).toNat : Int)) := by have := hrow.cell hlt; rwa [if_neg (by omega)] at this
      have hfr := hrow.frozen k
      have hxr := u8_xor_nat (a k).toNat (b k).toNat (u8_lt _) (u8_lt _)
      rw [← UInt8.toNat_xor, show a k ^^^ b k = wxS a b k from rfl] at hxr
      have HST := hidD (row_step hrow hlt)
      have HSO : Hid (∀ v, RowZ (wr.setCell ⟨g, k, none⟩ v) (g + 2) .u8 4 64 (fun _ => 0)) := fun v => hout.other (by omega) k v
      have HSB : Hid (∀ v, Below g W (wr.setCell ⟨g, k, none⟩ v)) := fun v => below_setCell hbel (Nat.le_refl _) _ v
      generalize (wxS a b k).toNat = X at *
      generalize (a k).toNat = xa at *
      generalize (b k).toNat = xb at *
      clear hbel hrow hout
      go_wp2_with fail
      go_roundw
      case rel => exact ⟨k + 1, by omega, by go_num, HST.out, HSO.out _, HSB.out _⟩
      case measure => simp [intOf]; omega
    · obtain rfl : k = 4 := by omega
      have HL : Hid (wr.heap[g]? = some (.cells (colR (wxS a b)) (64 : TypeId) (0, 0))) := hrow.congr fun i hi => by rw [if_pos hi]
      have HO : Hid (wr.heap[g + 2]? = some (.cells (rowZ .u8 4 (fun _ => 0)) (64 : TypeId) (0, 0))) := hout
      have HONE : Hid ((colR (wxS a b)).all (·.oneCell') = true) := rowZ_one _ _ _
      have h4 : (colR (wxS a b)).size = 4 := rowZ_size _ _ _
      have h0 : (rowZ .u8 4 (fun _ => 0)).size = 4 := rowZ_size _ _ _
      have HBG : Hid (Below g w wr) := V4.out.trans hbel
      clear hrow hbel hout
      generalize hC : colR (wxS a b) = C at *
      have HCE := hidD hC
      clear hC
      generalize rowZ .u8 4 (fun _ => 0) = C0 at *
      have hi : Hid ((Try.prog.info? 64).map (·.size) = some C.size) := by show _ = _; rw [HSZ.out, h4]
      have HSS : Hid (C0.size = C.size) := by show _ = _; rw [h0, h4]
      clear h0 h4
      go_wp2_with (first | (refine wpList_load_row rfl 64 _ rfl (g) rfl 64 C (0, 0) _ HL.out Try.underlying64 rfl hi.out ?_) | (refine wpList_store_row rfl 64 _ _ rfl (g + 2) C rfl rfl 64 C0 HO.out hi.out HSS.out HONE.out ?_))
      refine bodyPost_ret (results_cell_row (P := Try.prog) (p := 4) (ty := 64) (by kernel_rfl) _ _ (g + 2) 64 C (0, 0) _ rfl (setRow_heap _ _ C0 C 64 (0, 0) HO.out) Try.underlying64 rfl hi.out) rfl ?_
      refine ⟨by rw [HCE.out], ?_⟩
      have hfin : Below g w (wr.setRow (g + 2) C) := below_setRow HBG.out (by omega) _
      rw [HG.out]; exact hfin
set_option maxRecDepth 100000 in
set_option maxHeartbeats 800000 in
theorem pSubst_any (b : Nat → UInt8) (w : World) : Calls Try.prog 83 #[.agg (colR b)] w fun e w' => e = .returned (.agg (colR (wsS b))) ∧ Below w.heap.size w w' := by
  obtain ⟨hz, hsz⟩ := zero_of_info Try.zero64z
  have HSZ := hidD hsz
  have hs2 : (colR b).size = 4 := rowZ_size _ _ _
  have hib : Hid ((Try.prog.info? 64).map (·.size) = some (colR b).size) := by show _ = _; rw [hsz, hs2]
  have HIX : Hid (∀ k : Nat, k < 4 → ∀ w, (Instr.index 64 (.agg (colR b)) (.int .i64 (k : Int))).run Try.prog w = .ok (.int .u8 ((b k).toNat : Int)) w) := fun k hk w => index4 _ k _ hk (rowZ_get .u8 4 _ k hk) w
  have HC : Hid (∀ k w, Calls Try.prog 68 #[.int .u8 ((b k).toNat : Int)] w fun e w' => e = .returned (.int .u8 ((wsS b k).toNat : Int)) ∧ Below w.heap.size w w') := fun k w => pSub_any (b k) w
  obtain ⟨b1, b2, b3, b4⟩ := two_blocks w (colR b) (rowZ .u8 4 (fun _ => 0)) 64
  have W1 := hidD b1
  have W2 := hidD b2
  have W3 := hidD b3
  clear b1 b2 b3 b4 hs2 hsz
  go_enter Try.func83, Try.ntmps83
  go_wp2_with (refine wpList_load_row rfl 64 _ rfl w.heap.size rfl 64 (colR b) (0, 0) _ W1.out Try.underlying64 rfl hib.out ?_)
  generalize hW : World.alloc _ (Obj.cells (rowZ .u8 4 (fun _ => 0)) (64 : TypeId)) = W
  have V1 : Hid (RowZ W w.heap.size .u8 4 64 (fun i => ((b i).toNat : Int))) := by rw [← hW]; exact W1.out
  have V3 : Hid (RowZ W (w.heap.size + 1) .u8 4 64 (fun _ => 0)) := by rw [← hW]; exact W2.out
  have V4 : Hid (Below w.heap.size w W) := by rw [← hW]; exact W3.out
  clear hW W1 W2 W3
  generalize hg : w.heap.size = g at *
  have HG := hidD hg
  clear hg
  go_loopw [6] (fun i wr => ∃ k : Nat, k ≤ 4 ∧ i = .int .i64 k ∧ RowZ wr g .u8 4 64 (fun i => ((if i < k then wsS b i else b i : UInt8).toNat : Int)) ∧ RowZ wr (g + 1) .u8 4 64 (fun _ => 0) ∧ Below g W wr) (fun i _ => 4 - (intOf i).toNat)
  case atStart => exact ⟨0, Nat.zero_le _, rfl, V1.out, V3.out, Below.refl _ _⟩
  case round =>
    obtain ⟨k, hk, rfl, hrow, hout, hbel⟩ := hrel
    by_cases hlt : k < 4
    · have hlti : (k : Int) < 4 := by omega
      have hix := fun w => HIX.out k hlt w
      have HCK := hidD (fun w => HC.out k w)
      have HRW := hidD hrow
      have HOT := hidD hout
      have HBL := hidD hbel
      have HK := hidD hlt
      generalize (b k).toNat = xb at *
      generalize hX : (wsS b k).toNat = X at *
      have HX := hidD hX
      clear hbel hrow hout hX
      go_wp2_with (go_at_call 68; refine (HCK.out _).mono ?_; rintro e w3 ⟨rfl, hb3⟩; have HR3 := hidD (HRW.out.next hb3); have HO3 := hidD (HOT.out.next hb3); have HB3 : Hid (Below g W w3) := HBL.out.trans (hb3.mono (Nat.le_of_lt HRW.out.lt)); have hcc := HR3.out.cell HK.out; have hfr := HR3.out.frozen k; clear hb3)
      go_roundw
      case rel => exact ⟨k + 1, by omega, by go_num, by rw [← HX.out]; exact row_step HR3.out HK.out, HO3.out.other (by omega) k _, below_setCell HB3.out (Nat.le_refl _) _ _⟩
      case measure => simp [intOf]; omega
    · obtain rfl : k = 4 := by omega
      have HL : Hid (wr.heap[g]? = some (.cells (colR (wsS b)) (64 : TypeId) (0, 0))) := hrow.congr fun i hi => by rw [if_pos hi]
      have HO : Hid (wr.heap[g + 1]? = some (.cells (rowZ .u8 4 (fun _ => 0)) (64 : TypeId) (0, 0))) := hout
      have HONE : Hid ((colR (wsS b)).all (·.oneCell') = true) := rowZ_one _ _ _
      have h4 : (colR (wsS b)).size = 4 := rowZ_size _ _ _
      have h0 : (rowZ .u8 4 (fun _ => 0)).size = 4 := rowZ_size _ _ _
      have HBG : Hid (Below g w wr) := V4.out.trans hbel
      clear hrow hbel hout
      generalize hC : colR (wsS b) = C at *
      have HCE := hidD hC
      clear hC
      generalize rowZ .u8 4 (fun _ => 0) = C0 at *
      have hi : Hid ((Try.prog.info? 64).map (·.size) = some C.size) := by show _ = _; rw [HSZ.out, h4]
      have HSS : Hid (C0.size = C.size) := by show _ = _; rw [h0, h4]
      clear h0 h4
      go_wp2_with (first | (refine wpList_load_row rfl 64 _ rfl (g) rfl 64 C (0, 0) _ HL.out Try.underlying64 rfl hi.out ?_) | (refine wpList_store_row rfl 64 _ _ rfl (g + 1) C rfl rfl 64 C0 HO.out hi.out HSS.out HONE.out ?_))
      refine bodyPost_ret (results_cell_row (P := Try.prog) (p := 2) (ty := 64) (by kernel_rfl) _ _ (g + 1) 64 C (0, 0) _ rfl (setRow_heap _ _ C0 C 64 (0, 0) HO.out) Try.underlying64 rfl hi.out) rfl ?_
      refine ⟨by rw [HCE.out], ?_⟩
      have hfin : Below g w (wr.setRow (g + 1) C) := below_setRow HBG.out (by omega) _
      rw [HG.out]; exact hfin
end Go.Proofs.Ytgefampdfhbmbaa
/- What the program's changed answers. -/
namespace Go.Proofs.Ytgefampdfhbmbaa
open Go.RowKit
set_option linter.unusedVariables false

def roS (a : Nat → UInt8) (k : Nat) : UInt8 := a ((k + 1) % 4)
/-- What of the word ahead goes into word i. -/
def cgS (n i : Nat) (a : Nat → UInt8) (k : Nat) : UInt8 := if i % n = 0 then subS (a ((k + 1) % 4)) ^^^ (if k = 0 then UInt8.ofNat (rndS ((i / n : Nat) : Int)) else 0) else if n = 8 ∧ i % 8 = 4 then subS (a k) else a k
theorem nw_cg (n : Nat) (T : Nat → Nat → UInt8) (i k : Nat) : nwS n T i k = cgS n i (T (i - 1)) k ^^^ T (i - n) k := rfl
theorem rnd_lt' (n : Int) : rndS n < 256 := by
  unfold rndS
  split
  · omega
  · exact u8_lt _
theorem col_new {w : World} {g : Nat} {b c : Nat → UInt8} (h : RowZ w g .u8 4 64 (fun i => ((b i).toNat : Int))) : RowZ (w.setRow g (colR c)) g .u8 4 64 (fun i => ((c i).toNat : Int)) := setRow_heap w g _ (colR c) 64 (0, 0) h
theorem col_congr {a b : Nat → UInt8} (h : ∀ i, i < 4 → a i = b i) : colR a = colR b := rowZ_congr .u8 fun i hi => by rw [h i hi]
set_option maxRecDepth 100000 in
set_option maxHeartbeats 1600000 in
theorem pChanged_c (n i : Nat) (hn : 0 < n) (hn8 : n ≤ 8) (hi : i < 60) (h0 : i % n ≠ 0) (h1 : ¬ (n = 8 ∧ i % n = 4)) (a : Nat → UInt8) (w : World) : Calls Try.prog 74 #[.agg (colR a), .int .i64 (i : Int), .int .i64 (n : Int)] w fun e w' => e = .returned (.agg (colR (a))) ∧ Below w.heap.size w w' := by
  obtain ⟨hz, hsz⟩ := zero_of_info Try.zero64z
  have hbs : ∀ c : Nat → UInt8, (colR c).size = 4 := fun c => rowZ_size _ _ _
  have HIB : Hid (∀ c : Nat → UInt8, (Try.prog.info? 64).map (·.size) = some (colR c).size) := fun c => by rw [hsz, hbs]
  have HON : Hid (∀ c : Nat → UInt8, (colR c).all (·.oneCell') = true) := fun c => rowZ_one _ _ _
  have HSB : Hid (∀ c d : Nat → UInt8, (colR c).size = (colR d).size) := fun c d => by rw [hbs, hbs]
  have hz0 : (rowZ .u8 4 (fun _ => 0)) = colR (fun _ => 0) := rfl
  rw [hz0] at hz
  obtain ⟨b1, b2, b3, b4⟩ := two_blocks w (colR a) (colR (fun _ => 0)) 64
  have hR0 : RowZ ((w.alloc (.cells (colR a) (64 : TypeId))).alloc (.cells (colR (fun _ => 0)) (64 : TypeId))) w.heap.size .u8 4 64 (fun i => ((a i).toNat : Int)) := b1
  have R0 := hidD hR0
  have O0 : Hid (RowZ ((w.alloc (.cells (colR a) (64 : TypeId))).alloc (.cells (colR (fun _ => 0)) (64 : TypeId))) (w.heap.size + 1) .u8 4 64 (fun i => (((fun _ => 0 : Nat → UInt8) i).toNat : Int))) := b2
  have B0 := hidD b3
  have hnz : ¬ (n : Int) = 0 := by omega
  have hnb : ((n : Int) == 0) = false := beq_eq_false_iff_ne.2 hnz
  have hnn : ¬ (n : Int) = -1 := by omega
  have hmd : (i : Int).tmod n = ((i % n : Nat) : Int) := by rw [Int.tmod_eq_emod_of_nonneg (by omega)]; omega
  have h0i : ¬ ((i % n : Nat) : Int) = 0 := by omega
  have h0b : (((i % n : Nat) : Int) == 0) = false := beq_eq_false_iff_ne.2 h0i
  clear b1 b2 b3 b4 hR0 hbs hz0 hsz h0
  by_cases h8 : n = 8
  · have h8i : (n : Int) = 8 := by omega
    have h8b : ((n : Int) == 8) = true := beq_iff_eq.2 h8i
    have h4i : ¬ ((i % n : Nat) : Int) = 4 := by omega
    have h4b : (((i % n : Nat) : Int) == 4) = false := beq_eq_false_iff_ne.2 h4i
    clear h1 h8 h8i
    generalize i % n = q at *
    go_enter Try.func74, Try.ntmps74
    go_wp2_with (first
    | (refine wpList_load_row rfl 64 _ rfl w.heap.size rfl 64 (colR a) (0, 0) _ R0.out Try.underlying64 rfl (HIB.out _) ?_)
    | (refine wpList_store_row rfl 64 _ _ rfl (w.heap.size + 1) (colR (a)) rfl rfl 64 (colR (fun _ => 0)) O0.out (HIB.out _) (HSB.out _ _) (HON.out _) ?_))
    refine bodyPost_ret (results_cell_row (P := Try.prog) (p := 6) (ty := 64) (by kernel_rfl) _ _ (w.heap.size + 1) 64 (colR (a)) (0, 0) _ rfl (setRow_heap _ _ (colR (fun _ => 0)) (colR (a)) 64 (0, 0) O0.out) Try.underlying64 rfl (HIB.out _)) rfl ?_
    exact ⟨rfl, below_setRow B0.out (by omega) _⟩
  · have h8i : ¬ (n : Int) = 8 := by omega
    have h8b : ((n : Int) == 8) = false := beq_eq_false_iff_ne.2 h8i
    clear h1 h8
    generalize i % n = q at *
    go_enter Try.func74, Try.ntmps74
    go_wp2_with (first
    | (refine wpList_load_row rfl 64 _ rfl w.heap.size rfl 64 (colR a) (0, 0) _ R0.out Try.underlying64 rfl (HIB.out _) ?_)
    | (refine wpList_store_row rfl 64 _ _ rfl (w.heap.size + 1) (colR (a)) rfl rfl 64 (colR (fun _ => 0)) O0.out (HIB.out _) (HSB.out _ _) (HON.out _) ?_))
    refine bodyPost_ret (results_cell_row (P := Try.prog) (p := 6) (ty := 64) (by kernel_rfl) _ _ (w.heap.size + 1) 64 (colR (a)) (0, 0) _ rfl (setRow_heap _ _ (colR (fun _ => 0)) (colR (a)) 64 (0, 0) O0.out) Try.underlying64 rfl (HIB.out _)) rfl ?_
    exact ⟨rfl, below_setRow B0.out (by omega) _⟩
set_option maxRecDepth 100000 in
set_option maxHeartbeats 1600000 in
theorem pChanged_b (n i : Nat) (hn : n = 8) (hi : i < 60) (h1 : i % n = 4) (a : Nat → UInt8) (w : World) : Calls Try.prog 74 #[.agg (colR a), .int .i64 (i : Int), .int .i64 (n : Int)] w fun e w' => e = .returned (.agg (colR (wsS a))) ∧ Below w.heap.size w w' := by
  obtain ⟨hz, hsz⟩ := zero_of_info Try.zero64z
  have hbs : ∀ c : Nat → UInt8, (colR c).size = 4 := fun c => rowZ_size _ _ _
  have HIB : Hid (∀ c : Nat → UInt8, (Try.prog.info? 64).map (·.size) = some (colR c).size) := fun c => by rw [hsz, hbs]
  have HON : Hid (∀ c : Nat → UInt8, (colR c).all (·.oneCell') = true) := fun c => rowZ_one _ _ _
  have HSB : Hid (∀ c d : Nat → UInt8, (colR c).size = (colR d).size) := fun c d => by rw [hbs, hbs]
  have hz0 : (rowZ .u8 4 (fun _ => 0)) = colR (fun _ => 0) := rfl
  rw [hz0] at hz
  obtain ⟨b1, b2, b3, b4⟩ := two_blocks w (colR a) (colR (fun _ => 0)) 64
  have hR0 : RowZ ((w.alloc (.cells (colR a) (64 : TypeId))).alloc (.cells (colR (fun _ => 0)) (64 : TypeId))) w.heap.size .u8 4 64 (fun i => ((a i).toNat : Int)) := b1
  have R0 := hidD hR0
  have O0 : Hid (RowZ ((w.alloc (.cells (colR a) (64 : TypeId))).alloc (.cells (colR (fun _ => 0)) (64 : TypeId))) (w.heap.size + 1) .u8 4 64 (fun i => (((fun _ => 0 : Nat → UInt8) i).toNat : Int))) := b2
  have B0 := hidD b3
  have hnz : ¬ (n : Int) = 0 := by omega
  have hnb : ((n : Int) == 0) = false := beq_eq_false_iff_ne.2 hnz
  have hnn : ¬ (n : Int) = -1 := by omega
  have hmd : (i : Int).tmod n = ((i % n : Nat) : Int) := by rw [Int.tmod_eq_emod_of_nonneg (by omega)]; omega
  have h0i : ¬ ((i % n : Nat) : Int) = 0 := by omega
  have h0b : (((i % n : Nat) : Int) == 0) = false := beq_eq_false_iff_ne.2 h0i
  have h8i : (n : Int) = 8 := by omega
  have h8b : ((n : Int) == 8) = true := beq_iff_eq.2 h8i
  have h4i : ((i % n : Nat) : Int) = 4 := by omega
  have h4b : (((i % n : Nat) : Int) == 4) = true := beq_iff_eq.2 h4i
  have HS := hidD (fun w => pSubst_any a w)
  clear b1 b2 b3 b4 hR0 hbs hz0 hsz h1 h8i h4i hn
  generalize i % n = q at *
  go_enter Try.func74, Try.ntmps74
  go_wp2_with (first
    | (refine wpList_load_row rfl 64 _ rfl w.heap.size rfl 64 (colR a) (0, 0) _ R0.out Try.underlying64 rfl (HIB.out _) ?_)
    | (go_at_call 83; refine (HS.out _).mono ?_; rintro e w1 ⟨rfl, hb1⟩; have B1 : Hid (Below w.heap.size w w1) := Below.next B0.out hb1; have R1 := hidD (R0.out.next hb1); have O1 := hidD (O0.out.next hb1); clear hb1 HS)
    | (refine wpList_store_row rfl 64 _ _ rfl w.heap.size (colR (wsS a)) rfl rfl 64 (colR a) R1.out (HIB.out _) (HSB.out _ _) (HON.out _) ?_; have R2 : Hid (RowZ (w1.setRow w.heap.size (colR (wsS a))) w.heap.size .u8 4 64 (fun i => ((wsS a i).toNat : Int))) := col_new R1.out; have O2 : Hid (RowZ (w1.setRow w.heap.size (colR (wsS a))) (w.heap.size + 1) .u8 4 64 (fun i => (((fun _ => 0 : Nat → UInt8) i).toNat : Int))) := (setRow_other _ _ _ _ (by omega)).trans O1.out; have B2 : Hid (Below w.heap.size w (w1.setRow w.heap.size (colR (wsS a)))) := below_setRow B1.out (Nat.le_refl _) _; generalize w1.setRow w.heap.size (colR (wsS a)) = u2 at *)
    | (refine wpList_load_row rfl 64 _ rfl w.heap.size rfl 64 (colR (wsS a)) (0, 0) _ R2.out Try.underlying64 rfl (HIB.out _) ?_)
    | (refine wpList_store_row rfl 64 _ _ rfl (w.heap.size + 1) (colR (wsS a)) rfl rfl 64 (colR (fun _ => 0)) O2.out (HIB.out _) (HSB.out _ _) (HON.out _) ?_))
  refine bodyPost_ret (results_cell_row (P := Try.prog) (p := 6) (ty := 64) (by kernel_rfl) _ _ (w.heap.size + 1) 64 (colR (wsS a)) (0, 0) _ rfl (setRow_heap _ _ (colR (fun _ => 0)) (colR (wsS a)) 64 (0, 0) O2.out) Try.underlying64 rfl (HIB.out _)) rfl ?_
  exact ⟨rfl, below_setRow B2.out (by omega) _⟩
def cgA (n i : Nat) (a : Nat → UInt8) (k : Nat) : UInt8 := wsS (roS a) k ^^^ (if k = 0 then UInt8.ofNat (rndS ((i / n : Nat) : Int)) else 0)
set_option maxRecDepth 100000 in
set_option maxHeartbeats 1600000 in
theorem pChanged_a (n i : Nat) (hn : 0 < n) (hn8 : n ≤ 8) (hi : i < 60) (h0 : i % n = 0) (a : Nat → UInt8) (w : World) : Calls Try.prog 74 #[.agg (colR a), .int .i64 (i : Int), .int .i64 (n : Int)] w fun e w' => e = .returned (.agg (colR (cgA n i a))) ∧ Below w.heap.size w w' := by
  obtain ⟨hz, hsz⟩ := zero_of_info Try.zero64z
  have hbs : ∀ c : Nat → UInt8, (colR c).size = 4 := fun c => rowZ_size _ _ _
  have HIB : Hid (∀ c : Nat → UInt8, (Try.prog.info? 64).map (·.size) = some (colR c).size) := fun c => by rw [hsz, hbs]
  have HON : Hid (∀ c : Nat → UInt8, (colR c).all (·.oneCell') = true) := fun c => rowZ_one _ _ _
  have HSB : Hid (∀ c d : Nat → UInt8, (colR c).size = (colR d).size) := fun c d => by rw [hbs, hbs]
  have hz0 : (rowZ .u8 4 (fun _ => 0)) = colR (fun _ => 0) := rfl
  rw [hz0] at hz
  obtain ⟨b1, b2, b3, b4⟩ := two_blocks w (colR a) (colR (fun _ => 0)) 64
  have hR0 : RowZ ((w.alloc (.cells (colR a) (64 : TypeId))).alloc (.cells (colR (fun _ => 0)) (64 : TypeId))) w.heap.size .u8 4 64 (fun i => ((a i).toNat : Int)) := b1
  have R0 := hidD hR0
  have O0 : Hid (RowZ ((w.alloc (.cells (colR a) (64 : TypeId))).alloc (.cells (colR (fun _ => 0)) (64 : TypeId))) (w.heap.size + 1) .u8 4 64 (fun i => (((fun _ => 0 : Nat → UInt8) i).toNat : Int))) := b2
  have B0 := hidD b3
  have hnz : ¬ (n : Int) = 0 := by omega
  have hnb : ((n : Int) == 0) = false := beq_eq_false_iff_ne.2 hnz
  have hnn : ¬ (n : Int) = -1 := by omega
  have hmd : (i : Int).tmod n = ((i % n : Nat) : Int) := by rw [Int.tmod_eq_emod_of_nonneg (by omega)]; omega
  have h0i : ((i % n : Nat) : Int) = 0 := by omega
  have h0b : (((i % n : Nat) : Int) == 0) = true := beq_iff_eq.2 h0i
  have hqu : (i : Int) / (n : Int) = ((i / n : Nat) : Int) := by rw [Int.natCast_ediv]
  have hqb' : i / n ≤ 60 := by have := Nat.div_le_self i n; omega
  have c0 := hR0.cell (k := 0) (by omega)
  have c1 := hR0.cell (k := 1) (by omega)
  have c2 := hR0.cell (k := 2) (by omega)
  have c3 := hR0.cell (k := 3) (by omega)
  have HS : Hid (∀ w, Calls Try.prog 83 #[.agg #[.int .u8 ((a 1).toNat : Int), .int .u8 ((a 2).toNat : Int), .int .u8 ((a 3).toNat : Int), .int .u8 ((a 0).toNat : Int)]] w fun e w' => e = .returned (.agg (colR (wsS (roS a)))) ∧ Below w.heap.size w w') := fun w => pSubst_any (roS a) w
  have hqb : ((i / n : Nat) : Int) < 9223372036854775808 := by have := Nat.div_le_self i n; omega
  have HRD : Hid (∀ w, Calls Try.prog 84 #[.int .i64 ((i / n : Nat) : Int)] w fun e w' => e = .returned (.int .u8 (rndS ((i / n : Nat) : Int) : Int)) ∧ Below w.heap.size w w') := fun w => pRound_any _ hqb w
  have hxr := u8_xor_nat (wsS (roS a) 0).toNat (rndS ((i / n : Nat) : Int)) (u8_lt _) (rnd_lt' _)
  have HX : Hid (((cgA n i a 0).toNat : Int) = (((wsS (roS a) 0).toNat ^^^ rndS ((i / n : Nat) : Int) : Nat) : Int)) := by
    show _ = _
    unfold cgA
    rw [if_pos rfl, UInt8.toNat_xor, u8_nat (rnd_lt' _)]
  have HY : Hid (∀ k, k < 4 → k ≠ 0 → cgA n i a k = wsS (roS a) k) := fun k hk h => by unfold cgA; rw [if_neg h]; simp
  clear b1 b2 b3 b4 hR0 hbs hz0 hsz h0 h0i hqb
  generalize hCG : cgA n i a = cg at *
  have HCG := hidD hCG
  clear hCG
  generalize rndS ((i / n : Nat) : Int) = rd at *
  generalize i / n = dv at *
  generalize i % n = q at *
  generalize hsr : wsS (roS a) = sr at *
  clear hsr
  generalize ((a 0).toNat : Int) = a0 at *
  generalize ((a 1).toNat : Int) = a1 at *
  generalize ((a 2).toNat : Int) = a2 at *
  generalize ((a 3).toNat : Int) = a3 at *
  go_enter Try.func74, Try.ntmps74
  go_wp2_with (first
    | (go_at_call 83; refine (HS.out _).mono ?_; rintro e w1 ⟨rfl, hb1⟩; have B1 : Hid (Below w.heap.size w w1) := Below.next B0.out hb1; have R1 := hidD (R0.out.next hb1); have O1 := hidD (O0.out.next hb1); clear hb1 HS c0 c1 c2 c3)
    | (refine wpList_store_row rfl 64 _ _ rfl w.heap.size (colR sr) rfl rfl 64 (colR a) R1.out (HIB.out _) (HSB.out _ _) (HON.out _) ?_; have R2 : Hid (RowZ (w1.setRow w.heap.size (colR sr)) w.heap.size .u8 4 64 (fun i => ((sr i).toNat : Int))) := col_new R1.out; have O2 : Hid (RowZ (w1.setRow w.heap.size (colR sr)) (w.heap.size + 1) .u8 4 64 (fun i => (((fun _ => 0 : Nat → UInt8) i).toNat : Int))) := (setRow_other _ _ _ _ (by omega)).trans O1.out; have B2 : Hid (Below w.heap.size w (w1.setRow w.heap.size (colR sr))) := below_setRow B1.out (Nat.le_refl _) _; generalize w1.setRow w.heap.size (colR sr) = u2 at *))
  have d0 : ∀ i : BW u2, i.v.cell? ⟨w.heap.size, 0, none⟩ = some (.int .u8 ((sr 0).toNat : Int)) := fun i => (R2.out.next i.below).cell (k := 0) (by omega)
  have f0 : ∀ i : BW u2, i.v.frozen? ⟨w.heap.size, 0, none⟩ = false := fun i => (R2.out.next i.below).frozen 0
  have HRD' : Hid (∀ i : BW u2, Calls Try.prog 84 #[.int .i64 (dv : Int)] i.v fun e w' => e = .returned (.int .u8 (rd : Int)) ∧ Below i.v.heap.size i.v w') := fun i => HRD.out i.v
  generalize hxx : (sr 0).toNat ^^^ rd = XX at *
  have HXX := hidD hxx
  clear hxx
  generalize (sr 0).toNat = s0 at *
  refine wp_region_put (by simp) (by kernel_rfl) rfl (by kernel_rfl) (by kernel_rfl) (by kernel_rfl) ?_
  simp only [List.dropLast_cons_cons, List.dropLast_singleton, List.getLast_cons_cons, List.getLast_singleton, List.cons_append, List.nil_append, mute]
  repeat (go_big_quiet_step ((go_at_call 84; exact Calls.below_of (HRD'.out _))))
  refine wpQuiet_nil ?_
  intro i
  have R3 : Hid (RowZ (i.v.setCell ⟨w.heap.size, 0, none⟩ (.int .u8 (XX : Int))) w.heap.size .u8 4 64 (fun i => ((cg i).toNat : Int))) := ((R2.out.next i.below).set (k := 0) (by omega) _).congr fun k hk => by
    by_cases h : k = 0
    · subst h; rw [if_pos rfl, HX.out]
    · rw [if_neg h, HY.out k hk h]
  have O3 : Hid (∀ v, RowZ (i.v.setCell ⟨w.heap.size, 0, none⟩ v) (w.heap.size + 1) .u8 4 64 (fun i => (((fun _ => 0 : Nat → UInt8) i).toNat : Int))) := fun v => (O2.out.next i.below).other (by omega) 0 v
  have B3 : Hid (∀ v, Below w.heap.size w (i.v.setCell ⟨w.heap.size, 0, none⟩ v)) := fun v => below_setCell (Below.next B2.out i.below) (Nat.le_refl _) _ v
  have d1 := d0 i
  have f1 := f0 i
  clear d0 f0
  go_wp2_with (first
    | (refine wpList_load_row rfl 64 _ rfl w.heap.size rfl 64 (colR cg) (0, 0) _ R3.out Try.underlying64 rfl (HIB.out _) ?_)
    | (refine wpList_store_row rfl 64 _ _ rfl (w.heap.size + 1) (colR (cg)) rfl rfl 64 (colR (fun _ => 0)) (O3.out _) (HIB.out _) (HSB.out _ _) (HON.out _) ?_))
  refine bodyPost_ret (results_cell_row (P := Try.prog) (p := 6) (ty := 64) (by kernel_rfl) _ _ (w.heap.size + 1) 64 (colR (cg)) (0, 0) _ rfl (setRow_heap _ _ (colR (fun _ => 0)) (colR (cg)) 64 (0, 0) (O3.out _)) Try.underlying64 rfl (HIB.out _)) rfl ?_
  exact ⟨rfl, below_setRow (B3.out _) (by omega) _⟩
theorem pChanged_any (n i : Nat) (hn : n = 4 ∨ n = 6 ∨ n = 8) (hi : i < 60) (a : Nat → UInt8) (w : World) : Calls Try.prog 74 #[.agg (colR a), .int .i64 (i : Int), .int .i64 (n : Int)] w fun e w' => e = .returned (.agg (colR (cgS n i a))) ∧ Below w.heap.size w w' := by
  by_cases h0 : i % n = 0
  · have := pChanged_a n i (by omega) (by omega) hi h0 a w
    rwa [show colR (cgA n i a) = colR (cgS n i a) from col_congr fun k _ => by unfold cgA cgS wsS roS; rw [if_pos h0]] at this
  · by_cases h1 : n = 8 ∧ i % n = 4
    · have := pChanged_b n i h1.1 hi h1.2 a w
      rwa [show colR (wsS a) = colR (cgS n i a) from col_congr fun k _ => by unfold cgS wsS; rw [if_neg h0, if_pos ⟨h1.1, by have := h1.1; have := h1.2; subst n; omega⟩]] at this
    · have := pChanged_c n i (by omega) (by omega) hi h0 h1 a w
      have e : colR a = colR (cgS n i a) := col_congr fun k _ => by unfold cgS; rw [if_neg h0]; rw [if_neg (fun h => h1 ⟨h.1, by have := h.1; have := h.2; subst n; omega⟩)]
      rw [← e]; exact this
end Go.Proofs.Ytgefampdfhbmbaa
/- The words of a key as the program lays them: plain facts, and laws for its rows. -/
namespace Go.Proofs.Ytgefampdfhbmbaa
open Go.RowKit
set_option linter.unusedVariables false

theorem wk_keep {n : Nat} {key : Nat → UInt8} {m i k : Nat} (h : i < n + m) : wkTo n key (m + 1) i k = wkTo n key m i k := by
  show (if i = n + m then _ else _) = _
  rw [if_neg (by omega)]
theorem wk_more {n : Nat} {key : Nat → UInt8} {m i k : Nat} (h : i < n + m) : ∀ d, wkTo n key (m + d) i k = wkTo n key m i k
  | 0 => rfl
  | d + 1 => by rw [show m + (d + 1) = (m + d) + 1 from rfl, wk_keep (by omega), wk_more h d]
theorem wk_key {n : Nat} {key : Nat → UInt8} {i k : Nat} (h : i < n) : wkS n key i k = key (4 * i + k) := by
  have := wk_more (n := n) (key := key) (m := 0) (i := i) (k := k) (by omega) (3 * n + 28)
  rw [Nat.zero_add] at this
  exact this
theorem wk_step {n : Nat} {key : Nat → UInt8} {i k : Nat} (h : n ≤ i) (hn : 0 < n) (hi : i < 4 * (n + 7)) : wkS n key i k = cgS n i (wkS n key (i - 1)) k ^^^ wkS n key (i - n) k := by
  obtain ⟨m, rfl⟩ : ∃ m, i = n + m := ⟨i - n, by omega⟩
  obtain ⟨d, hd⟩ : ∃ d, 3 * n + 28 = m + 1 + d := ⟨3 * n + 28 - m - 1, by omega⟩
  have hs : ∀ j k, j < n + m → wkS n key j k = wkTo n key m j k := fun j k hj => by
    unfold wkS
    rw [hd, Nat.add_assoc]
    exact wk_more hj _
  have e1 : wkS n key (n + m - 1) = wkTo n key m (n + m - 1) := funext fun k => hs _ k (by omega)
  rw [hs (n + m - n) k (by omega), e1]
  unfold wkS
  rw [hd, wk_more (by omega)]
  show (if n + m = n + m then _ else _) = _
  rw [if_pos rfl, nw_cg]
theorem lZ_cons (kd : IntKind) (m : Nat) (h : Nat → Int) : lZ kd (m + 1) h = .int kd (h 0) :: lZ kd m (fun i => h (i + 1)) := by
  unfold lZ
  rw [List.range_succ_eq_map, List.map_cons, List.map_map]
  rfl
theorem RowZ.sets {g n : Nat} {kd : IntKind} {ty : TypeId} : ∀ (m o : Nat) (w : World) (f h : Nat → Int), RowZ w g kd n ty f → o + m ≤ n → RowZ (w.setCells g o (lZ kd m h)) g kd n ty (fun i => if o ≤ i ∧ i < o + m then h (i - o) else f i)
  | 0, o, w, f, h, hr, hn => hr.congr fun i hi => by rw [if_neg (by omega)]
  | m + 1, o, w, f, h, hr, hn => by
    rw [lZ_cons]
    refine (RowZ.sets m (o + 1) _ _ (fun i => h (i + 1)) (hr.set (k := o) (by omega) (h 0)) (by omega)).congr fun i hi => ?_
    by_cases h1 : i = o
    · subst h1
      rw [if_neg (by omega), if_pos rfl, if_pos (by omega), Nat.sub_self]
    · by_cases h2 : o + 1 ≤ i ∧ i < o + 1 + m
      · rw [if_pos h2, if_pos (by omega), show i - (o + 1) + 1 = i - o by omega]
      · rw [if_neg h2, if_neg h1, if_neg (by omega)]
theorem But.sets {g : Nat} {a : World} : ∀ (vs : List Value) (o : Nat) {b : World}, But g a b → But g a (b.setCells g o vs)
  | [], _, _, h => h
  | v :: vs, o, b, h => But.sets vs (o + 1) (h.put o v)
theorem RowZ.there {w : World} {g n : Nat} {kd : IntKind} {ty : TypeId} {f : Nat → Int} (h : RowZ w g kd n ty f) {o m : Nat} (hm : o + m ≤ n) : w.there g o m := fun j hj => by
  refine ⟨?_, h.frozen _⟩
  rw [h.cell (k := o + j) (by omega)]; rfl
theorem splice_cons {α : Type} (x : α) (L : List α) (off : Nat) (cs : List α) : splice (x :: L) (1 + off) cs = x :: splice L off cs := by
  unfold splice
  rw [show 1 + off = off + 1 by omega, List.take_succ_cons, show off + 1 + cs.length = (off + cs.length) + 1 by omega, List.drop_succ_cons]; rfl
/-- A value of these parts. -/
theorem wpList_build {P : Program} {w : World} {ops : Array Oper} {rest : List Oper} {o : Oper} {a : Act} {Q : Exit → Act → World → Prop} (hgd : o.guard = none) (t : TypeId) (parts : Array (Nat × Operand)) (ho : o.op = .build t parts) (cells : Array Value)
    (hc : P.built t (parts.map fun (i, x) => (i, a.eval x)).toList = some cells) (h : wpList P ops Q rest (a.put o.dst (.agg cells)) w) : wpList P ops Q (o :: rest) a w :=
  wpList_plain hgd fun K hK => wp_build t parts ho (by rw [hc]; rfl) (by rw [hc]; exact hK _ _ h)
/-- The cells of a cipher. -/
def cpL (R : Nat) (f : Nat → Int) : List Value := .int .i64 (R : Int) :: lZ .u8 240 f
theorem built62 (R : Int) : Try.prog.built 62 [(0, .int .i64 R)] = some (Value.int .i64 R :: lZ .u8 240 (fun _ => 0)).toArray := by kernel_rfl
theorem Try.zero85 : (Try.prog.info? 85).map (fun i => (i.zero, i.size)) = some (some (.agg (rowZ .u8 240 (fun _ => 0))), 240) := by kernel_rfl
theorem run_slice22 (g o i len cap : Nat) (hi : i < len) (hc : i < cap) (w : World) : (Instr.slice 22 (.slice (some ⟨g, o, none⟩) len cap) (some (.int .i64 (i : Int))) none none).run Try.prog w = .ok (.slice (some ⟨g, o + i, none⟩) (len - i) (cap - i)) w := by
  have hu : Try.prog.underlying 22 = some (.slice (Try.prog.elem 22)) := by kernel_rfl
  have he : Try.prog.elem 22 = 5 := by kernel_rfl
  obtain ⟨i0, hin, _, hz1, _⟩ := info_parts Try.info5
  rw [run_slice_l w 22 _ len cap hu .i64 (i : Int) (by omega) (by omega), he, run_sizeOf w hin, Result.andThen_ok]
  simp only [sliced, Int.toNat_natCast]
  rw [show Try.prog.cellsOf 5 = 1 by kernel_rfl, Nat.mul_one]
  simp [show ¬ cap = i by omega, Addr.add_mid]
theorem run_sliceAt22 (g o i len cap : Nat) (hi : i < len) (hc : i < cap) (w : World) : (Instr.sliceAt 22 (.slice (some ⟨g, o, none⟩) len cap) (some (.int .i64 (i : Int))) none none).run Try.prog w = .ok (.slice (some ⟨g, o + i, none⟩) (len - i) (cap - i)) w := by
  rw [run_sliceAt_slice w 22 _ _ _ _ (by kernel_rfl)]
  exact run_slice22 g o i len cap hi hc w
end Go.Proofs.Ytgefampdfhbmbaa
/- What the program's expanded and New answer. -/
namespace Go.Proofs.Ytgefampdfhbmbaa
open Go.RowKit
set_option linter.unusedVariables false

theorem lZ_congr (kd : IntKind) {n : Nat} {f g : Nat → Int} (h : ∀ i, i < n → f i = g i) : lZ kd n f = lZ kd n g := List.map_congr_left fun i hi => by rw [h i (by simpa using hi)]
theorem wk_row (n : Nat) (key : Nat → UInt8) (k i : Nat) : (if k * 4 ≤ i ∧ i < k * 4 + 4 then ((wkS n key k (i - k * 4)).toNat : Int) else ((if i < 4 * k then wkS n key (i / 4) (i % 4) else 0 : UInt8).toNat : Int)) = ((if i < 4 * (k + 1) then wkS n key (i / 4) (i % 4) else 0 : UInt8).toNat : Int) := by
  by_cases h1 : k * 4 ≤ i ∧ i < k * 4 + 4
  · rw [if_pos h1, if_pos (by omega), show i / 4 = k by omega, show i % 4 = i - k * 4 by omega]
  · rw [if_neg h1]
    by_cases h2 : i < 4 * k
    · rw [if_pos h2, if_pos (by omega)]
    · rw [if_neg h2, if_neg (by omega)]
theorem zc62 (R : Nat) : Try.zeroCells62.setIfInBounds 0 (.int .i64 (R : Int)) = (cpL R (fun _ => 0)).toArray := by kernel_rfl
set_option maxRecDepth 100000 in
set_option maxHeartbeats 4000000 in
theorem pExpanded_any (l : List UInt8) (n : Nat) (hn : n = 4 ∨ n = 6 ∨ n = 8) (hl : l.length = 4 * n) (v : Value) (w : World) (hv : SlAt w v l) : Calls Try.prog 60 #[v] w fun e w' => ∃ p, e = .returned (.pointer (some ⟨p, 0, none⟩)) ∧ AcAt w' w.heap.size p n (blk l) ∧ Below w.heap.size w w' := by
  obtain ⟨⟨a, cap, rfl, hcap, hcm⟩, hby⟩ := hv
  obtain ⟨kg, ko, rfl, hkg, hkc⟩ := hby.src (by omega)
  have HKC : Hid (∀ wr, Below w.heap.size w wr → ∀ j, j < l.length → wr.cell? ⟨kg, ko + j, none⟩ = some (.int .u8 ((blk l j).toNat : Int))) := fun wr hb j hj => (hb.cell (p := ⟨kg, ko + j, none⟩) hkg).trans (hkc j hj)
  have HCAP : Hid (l.length ≤ cap) := hcap
  obtain ⟨hz, hsz⟩ := zero_of_info Try.zero85
  have hi5 := Try.size5
  have HN8 := hidD hn
  have HLL := hidD hl
  have hn8 : n ≤ 8 := by omega
  have hn4 : 4 ≤ n := by omega
  have hq4 : (l.length : Int).tdiv 4 = (n : Int) := by rw [Int.tdiv_eq_ediv_of_nonneg (by omega)]; omega
  have h6 : (n : Int) + 6 = ((n + 6 : Nat) : Int) := by omega
  have h7 : ((n + 6 : Nat) : Int) + 1 = ((n + 7 : Nat) : Int) := by omega
  have h8 : 4 * ((n + 7 : Nat) : Int) = ((4 * (n + 7) : Nat) : Int) := by omega
  have HCP : Hid (Try.zeroCells62.setIfInBounds 0 (.int .i64 ((n + 6 : Nat) : Int)) = (cpL (n + 6) (fun _ => 0)).toArray) := zc62 (n + 6)
  have sz : ∀ (w : World) o, (w.alloc o).heap.size = w.heap.size + 1 := fun w o => by simp
  have b1 : ((w.alloc (.cells (Try.zeroCells62.setIfInBounds 0 (.int .i64 ((n + 6 : Nat) : Int))) (62 : TypeId))).alloc (.cells (rowZ .u8 240 (fun _ => 0)) (85 : TypeId))).heap[w.heap.size]? = some (.cells (Try.zeroCells62.setIfInBounds 0 (.int .i64 ((n + 6 : Nat) : Int))) (62 : TypeId) (0, 0)) := by
    rw [Below.heap_alloc _ _ _ (by rw [sz]; omega)]; exact heap_alloc_last _ _
  have b2 : RowZ ((w.alloc (.cells (Try.zeroCells62.setIfInBounds 0 (.int .i64 ((n + 6 : Nat) : Int))) (62 : TypeId))).alloc (.cells (rowZ .u8 240 (fun _ => 0)) (85 : TypeId))) (w.heap.size + 1) .u8 240 85 (fun _ => 0) := by
    have := heap_alloc_last (w.alloc (.cells (Try.zeroCells62.setIfInBounds 0 (.int .i64 ((n + 6 : Nat) : Int))) (62 : TypeId))) (.cells (rowZ .u8 240 (fun _ => 0)) (85 : TypeId)); rw [sz] at this; exact this
  have b3 : Below w.heap.size w ((w.alloc (.cells (Try.zeroCells62.setIfInBounds 0 (.int .i64 ((n + 6 : Nat) : Int))) (62 : TypeId))).alloc (.cells (rowZ .u8 240 (fun _ => 0)) (85 : TypeId))) := ((Below.refl _ _).alloc (Nat.le_refl _) _).alloc (by rw [sz]; omega) _
  have c0 : ((w.alloc (.cells (Try.zeroCells62.setIfInBounds 0 (.int .i64 ((n + 6 : Nat) : Int))) (62 : TypeId))).alloc (.cells (rowZ .u8 240 (fun _ => 0)) (85 : TypeId))).cell? ⟨w.heap.size, 0, none⟩ = some (.int .i64 ((n + 6 : Nat) : Int)) := by rw [cell_of_row _ _ _ _ _ _ b1, zc62]; rfl
  have W1 := hidD b1
  have W2 := hidD b2
  have W3 := hidD b3
  have HN47 : Hid (4 * (n + 7) ≤ 60) := by show _ ≤ _; omega
  clear b1 b2 b3 sz hby hkc hcap hl hn hkg hsz
  generalize hNN : 4 * (n + 7) = N at *
  have HNN := hidD hNN
  generalize h77 : n + 7 = R7 at *
  generalize h66 : n + 6 = R at *
  have HR := hidD h66
  have hR14 : R ≤ 14 := by omega
  have hR7 : R7 ≤ 15 := by omega
  clear hNN h77 h66
  generalize hLL : l.length = L at *
  clear hLL
  have hL32 : L ≤ 32 := by have := HLL.out; omega
  go_enter Try.func60, Try.ntmps60
  go_wp2_with fail
  generalize hW : World.alloc _ (Obj.cells (rowZ .u8 240 (fun _ => 0)) (85 : TypeId)) = W at *
  clear hW c0
  have hWg : Hid (w.heap.size + 1 < W.heap.size) := W2.out.lt
  go_loopw [20] (fun u wr => ∃ k : Nat, k ≤ N ∧ u = .int .i64 k ∧ wr.heap[w.heap.size]? = some (.cells (cpL R (fun i => ((if i < 4 * k then wkS n (blk l) (i / 4) (i % 4) else 0 : UInt8).toNat : Int))).toArray (62 : TypeId) (0, 0)) ∧ RowZ wr (w.heap.size + 1) .u8 240 85 (fun i => ((if i < 4 * k then wkS n (blk l) (i / 4) (i % 4) else 0 : UInt8).toNat : Int)) ∧ Below w.heap.size w wr) (fun u _ => N - (intOf u).toNat)
  case atStart => exact ⟨0, Nat.zero_le _, rfl, by rw [W1.out, HCP.out]; rfl, W2.out, W3.out⟩
  case round =>
    obtain ⟨k, hk, rfl, hcp, hrow, hbel⟩ := hrel
    have HC0 := hidD hcp
    have HR0 := hidD hrow
    have HB0 := hidD hbel
    clear hcp hrow hbel
    have HN60 := hidD HN47.out
    by_cases hlt : k < N
    · have hlti : (k : Int) < (N : Int) := by omega
      have hk60 : k < 60 := by have := HN47.out; omega
      have hk60i : (k : Int) < 60 := by omega
      have em : IntKind.i64.wrap ((k : Int) * 4) = ((k * 4 : Nat) : Int) := by rw [IntKind.wrap_i64]; omega
      have q1 : (k : Int) / 4 = ((k / 4 : Nat) : Int) := by omega
      have q2 : (k : Int) % 4 = ((k % 4 : Nat) : Int) := by omega
      have q3 : IntKind.i64.wrap (((k % 4 : Nat) : Int) * 4) = ((k % 4 * 4 : Nat) : Int) := by rw [IntKind.wrap_i64]; omega
      have q4 : ((k / 4 : Nat) : Int) < 15 := by omega
      have hs59 := fun w' => run_slice59 w.heap.size (1 + k / 4 * 16) (k % 4 * 4) (by omega) w'
      have HOF : Hid (1 + k / 4 * 16 + k % 4 * 4 = 1 + 4 * k ∧ k * 4 = 4 * k ∧ k % 4 * 4 + 4 ≤ 16) := ⟨by omega, by omega, by omega⟩
      have HQ4 : Hid (k / 4 < 15 ∧ k % 4 * 4 ≤ 12) := ⟨by omega, by omega⟩
      have HK60 := hidD hk60
      have HCS : Hid (splice (cpL R (fun i => ((if i < 4 * k then wkS n (blk l) (i / 4) (i % 4) else 0 : UInt8).toNat : Int))) (1 + k / 4 * 16 + k % 4 * 4) (lZ .u8 4 (fun j => ((wkS n (blk l) k j).toNat : Int))) = cpL R (fun i => ((if i < 4 * (k + 1) then wkS n (blk l) (i / 4) (i % 4) else 0 : UInt8).toNat : Int))) := by
        show _ = _
        rw [show 1 + k / 4 * 16 + k % 4 * 4 = 1 + k * 4 by omega]
        unfold cpL
        rw [splice_cons, splice_lZ .u8 _ _ (by omega)]
        congr 1
        exact lZ_congr .u8 fun i hi => wk_row n (blk l) k i
      -- the row behind word k
      by_cases hkn : k < n
      · have hkni : (k : Int) < (n : Int) := by omega
        have hs22 := fun w' => run_slice22 kg ko (k * 4) L cap (by have := HLL.out; omega) (by have := HLL.out; have := HCAP.out; omega) w'
        have hs22' := fun w' => run_sliceAt22 kg ko (k * 4) L cap (by have := HLL.out; omega) (by have := HLL.out; have := HCAP.out; omega) w'
        have HWK : Hid (∀ j, j < 4 → wkS n (blk l) k j = blk l (k * 4 + j)) := fun j hj => by rw [wk_key hkn, Nat.mul_comm]
        have HLK : Hid (k * 4 + 4 ≤ L) := by show _ ≤ _; have := HLL.out; omega
        generalize hk4 : k * 4 = k4 at *
        have HK4 := hidD hk4
        clear hk4
        generalize k / 4 = kq at *
        generalize k % 4 = kr at *
        generalize kr * 4 = kr4 at *
        go_wp2_with fail
        refine wp_region_loud0 [true, true, true, true, true, true, true, false] [] (by kernel_rfl) (by kernel_rfl) (by kernel_rfl) (by kernel_rfl) (by kernel_rfl) (fun _ _ _ _ _ h => h) ?_
        simp only [qPick, lPick]
        rw [show k * 4 = k4 from HK4.out] at *
        repeat (go_big_quiet_step (fail))
        refine wpQuiet_nil ?_
        simp only [LoudW]
        have HDR : Hid (Below wr.heap.size wr wr.drew) := (Below.refl _ _).drew
        go_wp2_with (refine wpList_copy_Z rfl _ _ 22 22 rfl 5 Try.underlying22 hi5 (some ⟨w.heap.size + 1, k * 4, none⟩) (some ⟨kg, ko + k4, none⟩) 4 4 (L - k4) (cap - k4) rfl rfl .u8 (w.heap.size + 1) (k * 4) 240 4 (fun i => ((if i < 4 * k then wkS n (blk l) (i / 4) (i % 4) else 0 : UInt8).toNat : Int)) (fun j => ((wkS n (blk l) k j).toNat : Int)) 85 (HR0.out.next HDR.out) (by show 4 = min (L - k4) 4; have := HLK.out; omega) (fun _ => ⟨rfl, kg, ko + k4, rfl, fun j hj => (by rw [HWK.out j hj, Nat.add_assoc]; exact HKC.out _ (HB0.out.trans (HDR.out.mono HB0.out.size)) _ (by have := HLK.out; omega))⟩) (by have := HK60.out; omega) ?_; intro w6 hr6 hb6; have HR6' := hidD hr6.out; have HB6' := hidD hb6; clear hr6 hb6)
        refine ⟨⟨⟨w6, fun _ h => by cases h⟩, rfl⟩, ?_⟩
        have HR6 : Hid (RowZ w6 (w.heap.size + 1) .u8 240 85 (fun i => ((if i < 4 * (k + 1) then wkS n (blk l) (i / 4) (i % 4) else 0 : UInt8).toNat : Int))) := HR6'.out.congr fun i hi => wk_row n (blk l) k i
        have HC6 : Hid (w6.heap[w.heap.size]? = some (.cells (cpL R (fun i => ((if i < 4 * k then wkS n (blk l) (i / 4) (i % 4) else 0 : UInt8).toNat : Int))).toArray (62 : TypeId) (0, 0))) := (HB6'.out.rest _ (Nat.lt_of_lt_of_le (row_lt HC0.out) HDR.out.size) (by omega)).trans ((HDR.out.block _ (row_lt HC0.out)).trans HC0.out)
        have HB6 : Hid (Below w.heap.size w w6) := (HB0.out.trans (HDR.out.mono HB0.out.size)).trans (HB6'.out.bel.mono (by omega))
        clear HR6' HB6' HR0 HC0 HB0 HDR hs22 hs22'
        go_wp2_with fail
        refine wp_region_loud0 [true, true, true, true, true, true, true, true, true, true, true, true, true, false] [] (by kernel_rfl) (by kernel_rfl) (by kernel_rfl) (by kernel_rfl) (by kernel_rfl) (fun _ _ _ _ _ h => h) ?_
        simp only [qPick, lPick]
        repeat (go_big_quiet_step (fail))
        refine wpQuiet_nil ?_
        simp only [LoudW]
        have HDR : Hid (Below w6.heap.size w6 w6.drew) := (Below.refl _ _).drew
        go_wp2_with (refine wpList_copy_but rfl _ _ 22 22 rfl 5 Try.underlying22 hi5 (some ⟨w.heap.size, 1 + kq * 16 + kr4, none⟩) (some ⟨w.heap.size + 1, k * 4, none⟩) (16 - kr4) (16 - kr4) 4 4 rfl rfl w.heap.size (1 + kq * 16 + kr4) (cpL R (fun i => ((if i < 4 * k then wkS n (blk l) (i / 4) (i % 4) else 0 : UInt8).toNat : Int))) 62 ((HDR.out.block _ (row_lt HC6.out)).trans HC6.out) (lZ .u8 4 (fun j => ((wkS n (blk l) k j).toNat : Int))) (by rw [lZ_len]; show 4 = min 4 (16 - kr4); have := HQ4.out.2; omega) (fun _ => ⟨rfl, w.heap.size + 1, k * 4, rfl, lZ_range fun j hj => (by rw [(HR6.out.next HDR.out).cell (k := k * 4 + j) (by have := HK60.out; omega), if_pos (by omega), show (k * 4 + j) / 4 = k by omega, show (k * 4 + j) % 4 = j by omega])⟩) (by rw [lZ_len]; show _ ≤ (Value.int .i64 (R : Int) :: lZ .u8 240 _).length; rw [List.length_cons, lZ_len]; have := HQ4.out; omega) (lZ_one _ _ _) ?_; intro w8 hr8 hb8; have HR8 := hidD hr8.out; have HB8 := hidD hb8; clear hr8 hb8)
        rw [HCS.out] at HR8
        refine ⟨⟨⟨w8, fun _ h => by cases h⟩, rfl⟩, ?_⟩
        have HRF : Hid (RowZ w8 (w.heap.size + 1) .u8 240 85 (fun i => ((if i < 4 * (k + 1) then wkS n (blk l) (i / 4) (i % 4) else 0 : UInt8).toNat : Int))) := (HR6.out.next HDR.out).but HB8.out (by omega)
        have HBF : Hid (Below w.heap.size w w8) := (HB6.out.trans (HDR.out.mono HB6.out.size)).trans HB8.out.bel
        clear HB8 HDR
        go_wp2_with fail
        go_roundw
        case rel => exact ⟨k + 1, by omega, by go_num, HR8.out, HRF.out, HBF.out⟩
        case measure => simp [intOf]; omega
      · have hkni : ¬ (k : Int) < (n : Int) := by omega
        have s1 : IntKind.i64.wrap ((k : Int) - (n : Int)) = ((k - n : Nat) : Int) := by rw [IntKind.wrap_i64]; omega
        have s2 : IntKind.i64.wrap ((k : Int) - 1) = ((k - 1 : Nat) : Int) := by rw [IntKind.wrap_i64]; omega
        have s3 : ((k - n : Nat) : Int) < 60 := by omega
        have s4 : ((k - 1 : Nat) : Int) < 60 := by omega
        have ld : ∀ j, j < k → ∀ i : BW wr, (Instr.loadAt 64 (.pointer (some ⟨w.heap.size + 1, j * 4, none⟩))).run Try.prog i.v = .ok (.agg (colR (wkS n (blk l) j))) i.v := fun j hj i => by
          refine run_loadAt_mid (P := Try.prog) i.v (w.heap.size + 1) (j * 4) 64 (lZ .u8 4 (fun t => ((wkS n (blk l) j t).toNat : Int))) _ (lZ_range fun t ht => ?_) Try.underlying64 rfl (by rw [lZ_len]; exact (zero_of_info Try.zero64z).2)
          rw [(HR0.out.next i.below).cell (k := j * 4 + t) (by omega), if_pos (by omega), show (j * 4 + t) / 4 = j by omega, show (j * 4 + t) % 4 = t by omega]
        have l1 := ld (k - n) (by omega)
        have l2 := ld (k - 1) (by omega)
        have HCA : Hid (∀ i : BW wr, Calls Try.prog 74 #[.agg (colR (wkS n (blk l) (k - 1))), .int .i64 (k : Int), .int .i64 (n : Int)] i.v fun e w' => e = .returned (.agg (colR (cgS n k (wkS n (blk l) (k - 1))))) ∧ Below i.v.heap.size i.v w') := fun i => pChanged_any n k HN8.out hk60 _ i.v
        have HCB : Hid (∀ i : BW wr, Calls Try.prog 73 #[.agg (colR (wkS n (blk l) (k - n))), .agg (colR (cgS n k (wkS n (blk l) (k - 1))))] i.v fun e w' => e = .returned (.agg (colR (wkS n (blk l) k))) ∧ Below i.v.heap.size i.v w') := fun i => by
          have h := pXored_any (wkS n (blk l) (k - n)) (cgS n k (wkS n (blk l) (k - 1))) i.v
          rwa [show colR (wxS (wkS n (blk l) (k - n)) (cgS n k (wkS n (blk l) (k - 1)))) = colR (wkS n (blk l) k) from col_congr fun j hj => ((wk_step (n := n) (key := blk l) (i := k) (k := j) (by omega) (by omega) (by have := HNN.out; have := HR.out; omega)).trans (UInt8.xor_comm _ _)).symm] at h
        have HIW : Hid ((Try.prog.info? 64).map (·.size) = some (colR (wkS n (blk l) k)).size) := by show _ = _; rw [(zero_of_info Try.zero64z).2, show (colR (wkS n (blk l) k)).size = 4 from rowZ_size _ _ _]
        have HOW : Hid ((colR (wkS n (blk l) k)).all (·.oneCell') = true) := rowZ_one _ _ _
        have HTL : Hid ((colR (wkS n (blk l) k)).toList = lZ .u8 4 (fun j => ((wkS n (blk l) k j).toNat : Int))) := rfl
        have HSW : Hid ((colR (wkS n (blk l) k)).size = 4) := rowZ_size _ _ _
        clear ld
        generalize colR (wkS n (blk l) (k - n)) = wA at *
        generalize colR (wkS n (blk l) (k - 1)) = wB at *
        generalize colR (cgS n k (wkS n (blk l) (k - 1))) = wC at *
        generalize colR (wkS n (blk l) k) = wD at *
        generalize k - n = kA at *
        generalize k - 1 = kB at *
        generalize k / 4 = kq at *
        generalize k % 4 = kr at *
        generalize kr * 4 = kr4 at *
        go_wp2_with fail
        refine wp_region_put (by simp) (by kernel_rfl) rfl (by kernel_rfl) (by kernel_rfl) (by kernel_rfl) ?_
        simp only [List.dropLast_cons_cons, List.dropLast_singleton, List.getLast_cons_cons, List.getLast_singleton, List.cons_append, List.nil_append, mute]
        repeat (go_big_quiet_step (fail))
        refine quiet_load rfl 64 _ rfl ⟨w.heap.size + 1, kA * 4, none⟩ rfl _ (fun w' hw' => by obtain ⟨i, rfl⟩ := hw'; exact l1 i) ?_
        simp only [Act.put, List.setIfInBounds_toArray, List.set_cons_succ, List.set_cons_zero]
        repeat (go_big_quiet_step (fail))
        refine quiet_load rfl 64 _ rfl ⟨w.heap.size + 1, kB * 4, none⟩ rfl _ (fun w' hw' => by obtain ⟨i, rfl⟩ := hw'; exact l2 i) ?_
        simp only [Act.put, List.setIfInBounds_toArray, List.set_cons_succ, List.set_cons_zero]
        repeat (go_big_quiet_step (first | (go_at_call 74; exact Calls.below_of (HCA.out _)) | (go_at_call 73; exact Calls.below_of (HCB.out _))))
        refine wpQuiet_nil ?_
        intro i
        have HR5 := hidD (HR0.out.next i.below)
        have HC5 : Hid (i.v.heap[w.heap.size]? = some (.cells (cpL R (fun i => ((if i < 4 * k then wkS n (blk l) (i / 4) (i % 4) else 0 : UInt8).toNat : Int))).toArray (62 : TypeId) (0, 0))) := (i.below.block _ (row_lt HC0.out)).trans HC0.out
        have HB5 : Hid (Below w.heap.size w i.v) := Below.next HB0.out i.below
        clear l1 l2 HCA HCB
        go_wp2_with (refine wpList_store_mid rfl 64 _ _ rfl (w.heap.size + 1) (k * 4) wD rfl rfl (by rw [HSW.out]; exact HR5.out.there (by have := HK60.out; omega)) HIW.out HOW.out ?_)
        rw [HTL.out]
        have HR6 : Hid (RowZ (i.v.setCells (w.heap.size + 1) (k * 4) (lZ .u8 4 (fun j => ((wkS n (blk l) k j).toNat : Int)))) (w.heap.size + 1) .u8 240 85 (fun i => ((if i < 4 * (k + 1) then wkS n (blk l) (i / 4) (i % 4) else 0 : UInt8).toNat : Int))) := (RowZ.sets 4 (k * 4) i.v _ (fun j => ((wkS n (blk l) k j).toNat : Int)) HR5.out (by have := HK60.out; omega)).congr fun i hi => wk_row n (blk l) k i
        have HU6 : Hid (But (w.heap.size + 1) i.v (i.v.setCells (w.heap.size + 1) (k * 4) (lZ .u8 4 (fun j => ((wkS n (blk l) k j).toNat : Int))))) := But.sets _ _ (But.refl _ _)
        have HC6 : Hid ((i.v.setCells (w.heap.size + 1) (k * 4) (lZ .u8 4 (fun j => ((wkS n (blk l) k j).toNat : Int)))).heap[w.heap.size]? = some (.cells (cpL R (fun i => ((if i < 4 * k then wkS n (blk l) (i / 4) (i % 4) else 0 : UInt8).toNat : Int))).toArray (62 : TypeId) (0, 0))) := (HU6.out.rest _ (row_lt HC5.out) (by omega)).trans HC5.out
        have HB6 : Hid (Below w.heap.size w (i.v.setCells (w.heap.size + 1) (k * 4) (lZ .u8 4 (fun j => ((wkS n (blk l) k j).toNat : Int))))) := HB5.out.trans (HU6.out.bel.mono (by omega))
        clear HR5 HC5 HB5 HU6 HR0 HC0 HB0
        generalize i.v.setCells (w.heap.size + 1) (k * 4) (lZ .u8 4 (fun j => ((wkS n (blk l) k j).toNat : Int))) = w6 at *
        refine wp_region_loud0 [true, true, true, true, true, true, true, true, true, true, true, true, true, false] [] (by kernel_rfl) (by kernel_rfl) (by kernel_rfl) (by kernel_rfl) (by kernel_rfl) (fun _ _ _ _ _ h => h) ?_
        simp only [qPick, lPick, Act.put]
        repeat (go_big_quiet_step (fail))
        refine wpQuiet_nil ?_
        simp only [LoudW]
        have HDR : Hid (Below w6.heap.size w6 w6.drew) := (Below.refl _ _).drew
        go_wp2_with (refine wpList_copy_but rfl _ _ 22 22 rfl 5 Try.underlying22 hi5 (some ⟨w.heap.size, 1 + kq * 16 + kr4, none⟩) (some ⟨w.heap.size + 1, k * 4, none⟩) (16 - kr4) (16 - kr4) 4 4 rfl rfl w.heap.size (1 + kq * 16 + kr4) (cpL R (fun i => ((if i < 4 * k then wkS n (blk l) (i / 4) (i % 4) else 0 : UInt8).toNat : Int))) 62 ((HDR.out.block _ (row_lt HC6.out)).trans HC6.out) (lZ .u8 4 (fun j => ((wkS n (blk l) k j).toNat : Int))) (by rw [lZ_len]; show 4 = min 4 (16 - kr4); have := HQ4.out.2; omega) (fun _ => ⟨rfl, w.heap.size + 1, k * 4, rfl, lZ_range fun j hj => (by rw [(HR6.out.next HDR.out).cell (k := k * 4 + j) (by have := HK60.out; omega), if_pos (by omega), show (k * 4 + j) / 4 = k by omega, show (k * 4 + j) % 4 = j by omega])⟩) (by rw [lZ_len]; show _ ≤ (Value.int .i64 (R : Int) :: lZ .u8 240 _).length; rw [List.length_cons, lZ_len]; have := HQ4.out; omega) (lZ_one _ _ _) ?_; intro w8 hr8 hb8; have HR8 := hidD hr8.out; have HB8 := hidD hb8; clear hr8 hb8)
        rw [HCS.out] at HR8
        refine ⟨⟨⟨w8, fun _ h => by cases h⟩, rfl⟩, ?_⟩
        have HRF : Hid (RowZ w8 (w.heap.size + 1) .u8 240 85 (fun i => ((if i < 4 * (k + 1) then wkS n (blk l) (i / 4) (i % 4) else 0 : UInt8).toNat : Int))) := (HR6.out.next HDR.out).but HB8.out (by omega)
        have HBF : Hid (Below w.heap.size w w8) := (HB6.out.trans (HDR.out.mono HB6.out.size)).trans HB8.out.bel
        clear HB8 HDR
        go_wp2_with fail
        go_roundw
        case rel => exact ⟨k + 1, by omega, by go_num, HR8.out, HRF.out, HBF.out⟩
        case measure => simp [intOf]; omega
    · obtain rfl : k = N := by omega
      go_wp2_with fail
      refine bodyPost_ret (v := .pointer (some ⟨w.heap.size, 0, none⟩)) (by simp [results, Try.results60, go_sem]) rfl ?_
      refine ⟨_, rfl, ⟨Nat.le_refl _, row_lt HC0.out, ?_, fun r hr j hj => ?_⟩, HB0.out⟩
      · rw [cell_of_row _ _ _ _ _ _ HC0.out, HR.out]; rfl
      · rw [cell_of_row _ _ _ _ _ _ HC0.out, List.getElem?_toArray]
        show (Value.int .i64 (R : Int) :: lZ .u8 240 _)[1 + r * 16 + j]? = _
        have h1 := HNN.out
        have h2 := HR.out
        have h3 := HN47.out
        rw [show 1 + r * 16 + j = (r * 16 + j) + 1 by omega, List.getElem?_cons_succ, lZ_get .u8 240 _ (by omega), if_pos (by omega)]
        unfold rkS
        rw [show (r * 16 + j) / 4 = 4 * r + j / 4 by omega, show (r * 16 + j) % 4 = j % 4 by omega]
theorem pNew_no (l : List UInt8) (h16 : l.length ≠ 16) (h24 : l.length ≠ 24) (h32 : l.length ≠ 32) (v : Value) (w : World) (hv : ByAt w v l) : Calls Try.prog 38 #[v] w fun e w' => e = .returned (.tuple #[.pointer none, .int .i64 90]) ∧ Below w.heap.size w w' := by
  obtain ⟨a, cap, rfl⟩ : ∃ a cap, v = .slice a l.length cap := by obtain ⟨a, cap, h, _⟩ := hv.shape; exact ⟨a, cap, h⟩
  have e1 : ¬ (l.length : Int) = 16 := by omega
  have e2 : ¬ (l.length : Int) = 24 := by omega
  have e3 : ¬ (l.length : Int) = 32 := by omega
  clear hv h16 h24 h32
  generalize l.length = L at *
  go_enter Try.func38, Try.ntmps38
  go_wp2_with fail
  refine bodyPost_ret (v := .tuple #[.pointer none, .int .i64 90]) (by simp [results, Try.results38, go_sem]) rfl ?_
  exact ⟨rfl, Below.refl _ _⟩
theorem pNew_any (l : List UInt8) (n : Nat) (hn : n = 4 ∨ n = 6 ∨ n = 8) (hl : l.length = 4 * n) (v : Value) (w : World) (hv : SlAt w v l) : Calls Try.prog 38 #[v] w fun e w' => ∃ p, e = .returned (.tuple #[.pointer (some ⟨p, 0, none⟩), .int .i64 0]) ∧ AcAt w' w.heap.size p n (blk l) ∧ Below w.heap.size w w' := by
  have HE := hidD (pExpanded_any l n hn hl v w hv)
  obtain ⟨⟨a, cap, rfl, _, _⟩, _⟩ := hv
  rw [hl] at *
  have hc : (4 * n = 16) ∨ (4 * n = 24) ∨ (4 * n = 32) := by omega
  generalize 4 * n = L at *
  rcases hc with h | h | h <;> subst h <;>
  · go_enter Try.func38, Try.ntmps38
    go_wp2_with (go_at_call 60; refine HE.out.mono ?_; rintro e w1 ⟨p, rfl, ha, hb⟩; have HA := hidD ha; have HB := hidD hb; clear ha hb)
    refine bodyPost_ret (v := .tuple #[.pointer (some ⟨p, 0, none⟩), .int .i64 0]) (by simp [results, Try.results38, go_sem]) rfl ?_
    exact ⟨_, rfl, HA.out, HB.out⟩
end Go.Proofs.Ytgefampdfhbmbaa
