/- Texts of one proof, one behind the other. -/
import Derived.Test.YtgefampdfhbmbaaPx6
/- What the program's encrypted and decrypted answer. -/
namespace Go.Proofs.Ytgefampdfhbmbaa
open Go.RowKit
set_option linter.unusedVariables false

/-- The block behind k steps of encrypted. -/
def enK (R : Nat) (rk : Nat → Nat → UInt8) (b : Nat → UInt8) : Nat → Nat → UInt8
  | 0 => b
  | k + 1 => bhS R rk k (enK R rk b k)
theorem enK_to (R : Nat) (rk : Nat → Nat → UInt8) (b : Nat → UInt8) : ∀ k, enK R rk b (k + 1) = enTo R rk b k
  | 0 => by
    show bhS R rk 0 b = _
    rw [bhS, if_pos rfl]; rfl
  | k + 1 => by
    show bhS R rk (k + 1) (enK R rk b (k + 1)) = _
    rw [bhS, if_neg (by omega), enK_to R rk b k]; rfl
/-- The block behind k steps of decrypted. -/
def deK (R : Nat) (rk : Nat → Nat → UInt8) (b : Nat → UInt8) : Nat → Nat → UInt8
  | 0 => b
  | k + 1 => ahS R rk (R - k) (deK R rk b k)
theorem deK_to (R : Nat) (rk : Nat → Nat → UInt8) (b : Nat → UInt8) : ∀ k, k ≤ R → deK R rk b k = deTo R rk b k
  | 0, _ => rfl
  | k + 1, h => by
    show ahS R rk (R - k) (deK R rk b k) = _
    rw [ahS, if_neg (by omega), deK_to R rk b k (by omega)]; rfl
theorem deK_all (R : Nat) (rk : Nat → Nat → UInt8) (b : Nat → UInt8) : deK R rk b (R + 1) = deS R rk b := by
  show ahS R rk (R - R) (deK R rk b R) = _
  rw [ahS, if_pos (by omega), deK_to R rk b R (Nat.le_refl _)]; rfl
set_option maxRecDepth 100000 in
set_option maxHeartbeats 1600000 in
theorem pEncrypted_any (n B p : Nat) (hn : n ≤ 8) (key : Nat → UInt8) (b : Nat → UInt8) (w : World) (h : AcAt w B p n key) : Calls Try.prog 42 #[.pointer (some ⟨p, 0, none⟩), .agg (bR b)] w fun e w' => e = .returned (.agg (bR (enS (n + 6) (rkS n key) b))) ∧ Below w.heap.size w w' := by
  have HA := hidD h
  have hpl := h.lt
  obtain ⟨hz, hsz⟩ := zero_of_info Try.zero59
  have hbs : ∀ c : Nat → UInt8, (bR c).size = 16 := fun c => rowZ_size _ _ _
  have HIB : Hid (∀ c : Nat → UInt8, (Try.prog.info? 59).map (·.size) = some (bR c).size) := fun c => by rw [hsz, hbs]
  have HON : Hid (∀ c : Nat → UInt8, (bR c).all (·.oneCell') = true) := fun c => rowZ_one _ _ _
  have HSB : Hid (∀ c d : Nat → UInt8, (bR c).size = (bR d).size) := fun c d => by rw [hbs, hbs]
  have hz0 : (rowZ .u8 16 (fun _ => 0)) = bR (fun _ => 0) := rfl
  rw [hz0] at hz
  have HCR : Hid (∀ r, r ≤ n + 6 → ∀ (b : Nat → UInt8) (w : World), AcAt w B p n key → Calls Try.prog 48 #[.pointer (some ⟨p, 0, none⟩), .int .i64 (r : Int), .agg (bR b)] w fun e w' => e = .returned (.agg (bR (bhS (n + 6) (rkS n key) r b))) ∧ Below w.heap.size w w') := fun r hr b w h => pBehind_any n B p hn key r hr b w h
  have HFIN : Hid (enK (n + 6) (rkS n key) b (n + 7) = enS (n + 6) (rkS n key) b) := enK_to _ _ _ _
  obtain ⟨b1, b2, b3, b4⟩ := two_blocks w (bR b) (bR (fun _ => 0)) 59
  have c0 : ((w.alloc (.cells (bR b) (59 : TypeId))).alloc (.cells (bR (fun _ => 0)) (59 : TypeId))).cell? ⟨p, 0, none⟩ = some (.int .i64 ((n + 6 : Nat) : Int)) := (b3.cell (p := ⟨p, 0, none⟩) hpl).trans h.2.2.1
  have W1 := hidD b1
  have W2 := hidD b2
  have W3 := hidD b3
  have hr7 : ((n + 6 : Nat) : Int) + 1 = ((n + 7 : Nat) : Int) := by omega
  clear b1 b2 b3 b4 h hbs hz0
  generalize h7 : n + 7 = N at *
  generalize h6 : n + 6 = M at *
  have HNM : Hid (N = M + 1 ∧ M ≤ 14) := ⟨by omega, by omega⟩
  have hM : M ≤ 14 := by omega
  have HM6 := hidD h6
  clear h6 h7
  go_enter Try.func42, Try.ntmps42
  go_wp2_with fail
  generalize hW : World.alloc _ (Obj.cells (bR (fun _ => 0)) (59 : TypeId)) = u0 at *
  have R0 : Hid (RowZ u0 w.heap.size .u8 16 59 (fun i => ((b i).toNat : Int))) := W1.out
  have O0 : Hid (RowZ u0 (w.heap.size + 1) .u8 16 59 (fun i => (((fun _ => 0 : Nat → UInt8) i).toNat : Int))) := W2.out
  have B0 : Hid (Below w.heap.size w u0) := W3.out
  clear hW W1 W2 W3 c0
  go_loopw [11] (fun v wr => ∃ k : Nat, k ≤ N ∧ v = .int .i64 k ∧ RowZ wr w.heap.size .u8 16 59 (fun i => ((enK M (rkS n key) b k i).toNat : Int)) ∧ RowZ wr (w.heap.size + 1) .u8 16 59 (fun i => (((fun _ => 0 : Nat → UInt8) i).toNat : Int)) ∧ Below w.heap.size w wr) (fun v _ => N - (intOf v).toNat)
  case atStart => exact ⟨0, Nat.zero_le _, rfl, R0.out, O0.out, B0.out⟩
  case round =>
    obtain ⟨k, hk, rfl, hrow, hout, hbel⟩ := hrel
    have HRW := hidD hrow
    have HOT := hidD hout
    have HBL := hidD hbel
    by_cases hlt : k < N
    · have hlti : (k : Int) < (N : Int) := by omega
      have HCK := hidD (fun w h => HCR.out k (by have := HNM.out; omega) (enK M (rkS n key) b k) w h)
      have HE : Hid (bhS M (rkS n key) k (enK M (rkS n key) b k) = enK M (rkS n key) b (k + 1)) := rfl
      rw [HE.out] at HCK
      generalize hC1 : enK M (rkS n key) b (k + 1) = s1 at *
      have HS1 := hidD hC1
      generalize enK M (rkS n key) b k = s0 at *
      clear hrow hout hbel hC1
      go_wp2_with (first
        | (refine wpList_load_row rfl 59 _ rfl w.heap.size rfl 59 (bR s0) (0, 0) _ HRW.out Try.underlying59 rfl (HIB.out _) ?_)
        | (go_at_call 48; refine (HCK.out _ (HA.out.next HBL.out)).mono ?_; rintro e w3 ⟨rfl, hb3⟩; have R3 := hidD (HRW.out.next hb3); have O3 := hidD (HOT.out.next hb3); have B3 : Hid (Below w.heap.size w w3) := Below.next HBL.out hb3; clear hb3)
        | (refine wpList_store_row rfl 59 _ _ rfl w.heap.size (bR s1) rfl rfl 59 (bR s0) R3.out (HIB.out _) (HSB.out _ _) (HON.out _) ?_))
      go_roundw
      case rel => exact ⟨k + 1, by omega, by go_num, by rw [HS1.out]; exact row_new R3.out, (setRow_other _ _ _ _ (by omega)).trans O3.out, below_setRow B3.out (Nat.le_refl _) _⟩
      case measure => simp [intOf]; omega
    · obtain rfl : k = N := by omega
      rw [HFIN.out] at HRW
      clear hrow hout hbel
      go_wp2_with (first
        | (refine wpList_load_row rfl 59 _ rfl w.heap.size rfl 59 (bR (enS M (rkS n key) b)) (0, 0) _ HRW.out Try.underlying59 rfl (HIB.out _) ?_)
        | (refine wpList_store_row rfl 59 _ _ rfl (w.heap.size + 1) (bR (enS M (rkS n key) b)) rfl rfl 59 (bR (fun _ => 0)) HOT.out (HIB.out _) (HSB.out _ _) (HON.out _) ?_))
      refine bodyPost_ret (results_cell_row (P := Try.prog) (p := 4) (ty := 59) (by kernel_rfl) _ _ (w.heap.size + 1) 59 (bR (enS M (rkS n key) b)) (0, 0) _ rfl (setRow_heap _ _ (bR (fun _ => 0)) (bR (enS M (rkS n key) b)) 59 (0, 0) HOT.out) Try.underlying59 rfl (HIB.out _)) rfl ?_
      exact ⟨rfl, below_setRow HBL.out (by omega) _⟩
set_option maxRecDepth 100000 in
set_option maxHeartbeats 1600000 in
theorem pDecrypted_any (n B p : Nat) (hn : n ≤ 8) (key : Nat → UInt8) (b : Nat → UInt8) (w : World) (h : AcAt w B p n key) : Calls Try.prog 44 #[.pointer (some ⟨p, 0, none⟩), .agg (bR b)] w fun e w' => e = .returned (.agg (bR (deS (n + 6) (rkS n key) b))) ∧ Below w.heap.size w w' := by
  have HA := hidD h
  have hpl := h.lt
  obtain ⟨hz, hsz⟩ := zero_of_info Try.zero59
  have hbs : ∀ c : Nat → UInt8, (bR c).size = 16 := fun c => rowZ_size _ _ _
  have HIB : Hid (∀ c : Nat → UInt8, (Try.prog.info? 59).map (·.size) = some (bR c).size) := fun c => by rw [hsz, hbs]
  have HON : Hid (∀ c : Nat → UInt8, (bR c).all (·.oneCell') = true) := fun c => rowZ_one _ _ _
  have HSB : Hid (∀ c d : Nat → UInt8, (bR c).size = (bR d).size) := fun c d => by rw [hbs, hbs]
  have hz0 : (rowZ .u8 16 (fun _ => 0)) = bR (fun _ => 0) := rfl
  rw [hz0] at hz
  have HCR : Hid (∀ r, r ≤ n + 6 → ∀ (b : Nat → UInt8) (w : World), AcAt w B p n key → Calls Try.prog 64 #[.pointer (some ⟨p, 0, none⟩), .int .i64 (r : Int), .agg (bR b)] w fun e w' => e = .returned (.agg (bR (ahS (n + 6) (rkS n key) r b))) ∧ Below w.heap.size w w') := fun r hr b w h => pAhead_any n B p hn key r hr b w h
  have HFIN : Hid (deK (n + 6) (rkS n key) b (n + 7) = deS (n + 6) (rkS n key) b) := deK_all _ _ _
  obtain ⟨b1, b2, b3, b4⟩ := two_blocks w (bR b) (bR (fun _ => 0)) 59
  have c0 : ((w.alloc (.cells (bR b) (59 : TypeId))).alloc (.cells (bR (fun _ => 0)) (59 : TypeId))).cell? ⟨p, 0, none⟩ = some (.int .i64 ((n + 6 : Nat) : Int)) := (b3.cell (p := ⟨p, 0, none⟩) hpl).trans h.2.2.1
  have W1 := hidD b1
  have W2 := hidD b2
  have W3 := hidD b3
  have hr7 : ((n + 6 : Nat) : Int) + 1 = ((n + 7 : Nat) : Int) := by omega
  clear b1 b2 b3 b4 h hbs hz0
  generalize h7 : n + 7 = N at *
  generalize h6 : n + 6 = M at *
  have HNM : Hid (N = M + 1 ∧ M ≤ 14) := ⟨by omega, by omega⟩
  have hM : M ≤ 14 := by omega
  have HM6 := hidD h6
  clear h6 h7
  go_enter Try.func44, Try.ntmps44
  go_wp2_with fail
  generalize hW : World.alloc _ (Obj.cells (bR (fun _ => 0)) (59 : TypeId)) = u0 at *
  have R0 : Hid (RowZ u0 w.heap.size .u8 16 59 (fun i => ((b i).toNat : Int))) := W1.out
  have O0 : Hid (RowZ u0 (w.heap.size + 1) .u8 16 59 (fun i => (((fun _ => 0 : Nat → UInt8) i).toNat : Int))) := W2.out
  have B0 : Hid (Below w.heap.size w u0) := W3.out
  clear hW W1 W2 W3 c0
  go_loopw [11] (fun v wr => ∃ k : Nat, k ≤ N ∧ v = .int .i64 k ∧ RowZ wr w.heap.size .u8 16 59 (fun i => ((deK M (rkS n key) b k i).toNat : Int)) ∧ RowZ wr (w.heap.size + 1) .u8 16 59 (fun i => (((fun _ => 0 : Nat → UInt8) i).toNat : Int)) ∧ Below w.heap.size w wr) (fun v _ => N - (intOf v).toNat)
  case atStart => exact ⟨0, Nat.zero_le _, rfl, R0.out, O0.out, B0.out⟩
  case round =>
    obtain ⟨k, hk, rfl, hrow, hout, hbel⟩ := hrel
    have HRW := hidD hrow
    have HOT := hidD hout
    have HBL := hidD hbel
    by_cases hlt : k < N
    · have hlti : (k : Int) < (N : Int) := by omega
      have HCK := hidD (fun w h => HCR.out (M - k) (by have := HNM.out; omega) (deK M (rkS n key) b k) w h)
      have HE : Hid (ahS M (rkS n key) (M - k) (deK M (rkS n key) b k) = deK M (rkS n key) b (k + 1)) := rfl
      rw [HE.out] at HCK
      generalize hC1 : deK M (rkS n key) b (k + 1) = s1 at *
      have HS1 := hidD hC1
      generalize deK M (rkS n key) b k = s0 at *
      have hsb : IntKind.i64.wrap ((M : Int) - (k : Int)) = ((M - k : Nat) : Int) := by rw [IntKind.wrap_i64]; have := HNM.out; omega
      have c1 : ∀ i : BW wr, i.v.cell? ⟨p, 0, none⟩ = some (.int .i64 (M : Int)) := fun i => by rw [← HM6.out]; exact ((HA.out.next HBL.out).next i.below).2.2.1
      have q1 : ∀ i : BW wr, (Instr.loadAt 59 (.pointer (some ⟨w.heap.size, 0, none⟩))).run Try.prog i.v = .ok (.agg (bR s0)) i.v := fun i => (HRW.out.next i.below).load59
      have HQC : Hid (∀ i : BW wr, Calls Try.prog 64 #[.pointer (some ⟨p, 0, none⟩), .int .i64 ((M - k : Nat) : Int), .agg (bR s0)] i.v fun e w' => e = .returned (.agg (bR s1)) ∧ Below i.v.heap.size i.v w') := fun i => HCK.out i.v ((HA.out.next HBL.out).next i.below)
      clear hrow hout hbel hC1
      generalize M - k = J at *
      go_wp2_with fail
      refine wp_region_put (by simp) (by kernel_rfl) rfl (by kernel_rfl) (by kernel_rfl) (by kernel_rfl) ?_
      simp only [List.dropLast_cons_cons, List.dropLast_singleton, List.getLast_cons_cons, List.getLast_singleton, List.cons_append, List.nil_append, mute]
      repeat (go_big_quiet_step (fail))
      refine quiet_load rfl 59 _ rfl ⟨w.heap.size, 0, none⟩ rfl _ (fun w' hw' => by obtain ⟨i, rfl⟩ := hw'; exact q1 i) ?_
      simp only [Act.put, List.setIfInBounds_toArray, List.set_cons_succ, List.set_cons_zero]
      repeat (go_big_quiet_step ((go_at_call 64; exact Calls.below_of (HQC.out _))))
      refine wpQuiet_nil ?_
      intro i
      have R3 := hidD (HRW.out.next i.below)
      have O3 := hidD (HOT.out.next i.below)
      have B3 : Hid (Below w.heap.size w i.v) := Below.next HBL.out i.below
      clear q1 c1
      go_wp2_with (refine wpList_store_row rfl 59 _ _ rfl w.heap.size (bR s1) rfl rfl 59 (bR s0) R3.out (HIB.out _) (HSB.out _ _) (HON.out _) ?_)
      go_roundw
      case rel => exact ⟨k + 1, by omega, by go_num, by rw [HS1.out]; exact row_new R3.out, (setRow_other _ _ _ _ (by omega)).trans O3.out, below_setRow B3.out (Nat.le_refl _) _⟩
      case measure => simp [intOf]; omega
    · obtain rfl : k = N := by omega
      rw [HFIN.out] at HRW
      clear hrow hout hbel
      go_wp2_with (first
        | (refine wpList_load_row rfl 59 _ rfl w.heap.size rfl 59 (bR (deS M (rkS n key) b)) (0, 0) _ HRW.out Try.underlying59 rfl (HIB.out _) ?_)
        | (refine wpList_store_row rfl 59 _ _ rfl (w.heap.size + 1) (bR (deS M (rkS n key) b)) rfl rfl 59 (bR (fun _ => 0)) HOT.out (HIB.out _) (HSB.out _ _) (HON.out _) ?_))
      refine bodyPost_ret (results_cell_row (P := Try.prog) (p := 4) (ty := 59) (by kernel_rfl) _ _ (w.heap.size + 1) 59 (bR (deS M (rkS n key) b)) (0, 0) _ rfl (setRow_heap _ _ (bR (fun _ => 0)) (bR (deS M (rkS n key) b)) 59 (0, 0) HOT.out) Try.underlying59 rfl (HIB.out _)) rfl ?_
      exact ⟨rfl, below_setRow HBL.out (by omega) _⟩
end Go.Proofs.Ytgefampdfhbmbaa
/- What the program's Rounds, Key, Encrypt and Decrypt answer. -/
namespace Go.Proofs.Ytgefampdfhbmbaa
open Go.RowKit
set_option linter.unusedVariables false

theorem sl_nil (w : World) : SlAt w (.slice none 0 0) [] := ⟨⟨none, 0, rfl, Nat.le_refl _, by omega⟩, .inl ⟨rfl, none, 0, rfl, fun _ => rfl⟩⟩
theorem ByAt.len {w : World} {v : Value} {l : List UInt8} (h : ByAt w v l) : ∃ a cap, v = .slice a l.length cap := by
  obtain ⟨a, cap, h, _⟩ := h.shape
  exact ⟨a, cap, h⟩
theorem pRefused_nil (v : Value) (w : World) : Calls Try.prog 41 #[.pointer none, v] w fun e w' => e = .returned (.int .i64 2) ∧ w' = w := by
  go_enter Try.func41, Try.ntmps41
  go_wp2_with fail
  go_ret
  exact ⟨rfl, rfl⟩
theorem pRefused_no (p len cap : Nat) (a : Option Addr) (hl : len ≠ 16) (w : World) : Calls Try.prog 41 #[.pointer (some ⟨p, 0, none⟩), .slice a len cap] w fun e w' => e = .returned (.int .i64 91) ∧ w' = w := by
  have h1 : ((len : Int) == 16) = false := by simp; omega
  have h2 : ¬ (len : Int) = 16 := by omega
  clear hl
  go_enter Try.func41, Try.ntmps41
  go_wp2_with fail
  go_ret
  exact ⟨rfl, rfl⟩
theorem pRefused_ok (p cap : Nat) (a : Option Addr) (w : World) : Calls Try.prog 41 #[.pointer (some ⟨p, 0, none⟩), .slice a 16 cap] w fun e w' => e = .returned (.int .i64 0) ∧ w' = w := by
  go_enter Try.func41, Try.ntmps41
  go_wp2_with fail
  go_ret
  exact ⟨rfl, rfl⟩
theorem pRounds_nil (w : World) : Calls Try.prog 14 #[.pointer none] w fun e w' => e = .returned (.int .i64 0) ∧ Below w.heap.size w w' := by
  go_enter Try.func14, Try.ntmps14
  go_wp2_with fail
  go_ret
  exact ⟨rfl, Below.refl _ _⟩
theorem pRounds_any (n B p : Nat) (key : Nat → UInt8) (w : World) (h : AcAt w B p n key) : Calls Try.prog 14 #[.pointer (some ⟨p, 0, none⟩)] w fun e w' => e = .returned (.int .i64 ((n + 6 : Nat) : Int)) ∧ Below w.heap.size w w' := by
  have c0 := h.2.2.1
  clear h
  generalize n + 6 = M at *
  go_enter Try.func14, Try.ntmps14
  go_wp2_with fail
  go_ret
  exact ⟨rfl, Below.refl _ _⟩
theorem pKey_nil (r : Int) (w : World) : Calls Try.prog 11 #[.pointer none, .int .i64 r] w fun e w' => ∃ vo, e = .returned (.tuple #[vo, .int .i64 2]) ∧ w'.ownsRow w.heap.size 5 1 vo 0 [] ∧ Below w.heap.size w w' := by
  go_enter Try.func11, Try.ntmps11
  go_wp2_with fail
  refine bodyPost_ret (v := .tuple #[.slice none 0 0, .int .i64 2]) (by simp [results, Try.results11, go_sem]) rfl ?_
  exact ⟨_, rfl, World.ownsRow_nil _ _ _ _, Below.refl _ _⟩
set_option maxRecDepth 100000 in
theorem pKey_arg (n B p : Nat) (hn : n ≤ 8) (key : Nat → UInt8) (r : Int) (hr : r < 0 ∨ ((n + 6 : Nat) : Int) < r) (w : World) (h : AcAt w B p n key) : Calls Try.prog 11 #[.pointer (some ⟨p, 0, none⟩), .int .i64 r] w fun e w' => ∃ vo, e = .returned (.tuple #[vo, .int .i64 1]) ∧ w'.ownsRow w.heap.size 5 1 vo 0 [] ∧ Below w.heap.size w w' := by
  have c0 := h.2.2.1
  clear h
  by_cases h0 : r < 0
  · clear hr
    go_enter Try.func11, Try.ntmps11
    go_wp2_with fail
    refine bodyPost_ret (v := .tuple #[.slice none 0 0, .int .i64 1]) (by simp [results, Try.results11, go_sem]) rfl ?_
    exact ⟨_, rfl, World.ownsRow_nil _ _ _ _, Below.refl _ _⟩
  · have hr : ((n + 6 : Nat) : Int) < r := by omega
    have h0' : decide (r < 0) = false := by simpa using h0
    clear h0
    generalize n + 6 = R at *
    go_enter Try.func11, Try.ntmps11
    go_wp2_with fail
    refine bodyPost_ret (v := .tuple #[.slice none 0 0, .int .i64 1]) (by simp [results, Try.results11, go_sem]) rfl ?_
    exact ⟨_, rfl, World.ownsRow_nil _ _ _ _, Below.refl _ _⟩
set_option maxRecDepth 100000 in
set_option maxHeartbeats 800000 in
theorem pKey_any (n B p : Nat) (hn : n ≤ 8) (key : Nat → UInt8) (r : Nat) (hr : r ≤ n + 6) (w : World) (h : AcAt w B p n key) : Calls Try.prog 11 #[.pointer (some ⟨p, 0, none⟩), .int .i64 (r : Int)] w fun e w' => ∃ vo, e = .returned (.tuple #[vo, .int .i64 0]) ∧ w'.ownsRow w.heap.size 5 1 vo 16 ((toL (rkS n key r)).map encB) ∧ Below w.heap.size w w' := by
  have c0 := h.2.2.1
  have HLD : Hid (w.rangeAt p (1 + r * 16) (lZ .u8 16 (fun i => ((rkS n key r i).toNat : Int)))) := lZ_range fun j hj => h.2.2.2 r hr j hj
  have HSZ : Hid ((Try.prog.info? 59).map (·.size) = some (lZ .u8 16 (fun i => ((rkS n key r i).toNat : Int))).length) := by show _ = _; rw [lZ_len]; exact (zero_of_info Try.zero59).2
  have HBY := hidD (fun w => pBytes_any (rkS n key r) w)
  rw [show bR (rkS n key r) = (lZ .u8 16 (fun i => ((rkS n key r i).toNat : Int))).toArray from rfl] at HBY
  have hr0 : ¬ (r : Int) < 0 := by omega
  have hr1 : ¬ ((n + 6 : Nat) : Int) < (r : Int) := by omega
  have hr2 : (r : Int) < 15 := by omega
  clear h
  generalize lZ .u8 16 (fun i => ((rkS n key r i).toNat : Int)) = LL at *
  generalize n + 6 = M at *
  go_enter Try.func11, Try.ntmps11
  go_wp2_with (first
    | (refine wpList_load_mid rfl 59 _ rfl p (1 + r * 16) rfl LL _ HLD.out Try.underlying59 rfl HSZ.out ?_)
    | (go_at_call 40; refine (HBY.out _).mono ?_; rintro e w3 ⟨g3, rfl, hg3, hr3, hb3⟩; have HG3 := hidD hg3; have HR3 := hidD hr3; have HB3 := hidD hb3; clear hg3 hr3 hb3))
  refine bodyPost_ret (v := .tuple #[.slice (some ⟨g3, 0, none⟩) 16 16, .int .i64 0]) (by simp [results, Try.results11, go_sem]) rfl ?_
  exact ⟨_, rfl, rowZ_own HG3.out HR3.out (by unfold maxLen; omega), HB3.out⟩
theorem pEncrypt_nil (v : Value) (w : World) : Calls Try.prog 16 #[.pointer none, v] w fun e w' => ∃ vo, e = .returned (.tuple #[vo, .int .i64 2]) ∧ SlAt w' vo [] ∧ Below w.heap.size w w' := by
  have HR := hidD (fun w => pRefused_nil v w)
  go_enter Try.func16, Try.ntmps16
  go_wp2_with (go_at_call 41; refine (HR.out _).mono ?_; rintro e w1 ⟨rfl, rfl⟩)
  refine bodyPost_ret (v := .tuple #[.slice none 0 0, .int .i64 2]) (by simp [results, Try.results16, go_sem]) rfl ?_
  exact ⟨_, rfl, sl_nil _, Below.refl _ _⟩
theorem pEncrypt_no (l : List UInt8) (hl : l.length ≠ 16) (n B p : Nat) (key : Nat → UInt8) (v : Value) (w : World) (h : AcAt w B p n key) (hv : ByAt w v l) : Calls Try.prog 16 #[.pointer (some ⟨p, 0, none⟩), v] w fun e w' => ∃ vo, e = .returned (.tuple #[vo, .int .i64 91]) ∧ SlAt w' vo [] ∧ Below w.heap.size w w' := by
  obtain ⟨a, cap, rfl⟩ := hv.len
  have HR := hidD (fun w => pRefused_no p l.length cap a hl w)
  clear hv h hl
  go_enter Try.func16, Try.ntmps16
  go_wp2_with (go_at_call 41; refine (HR.out _).mono ?_; rintro e w1 ⟨rfl, rfl⟩)
  refine bodyPost_ret (v := .tuple #[.slice none 0 0, .int .i64 91]) (by simp [results, Try.results16, go_sem]) rfl ?_
  exact ⟨_, rfl, sl_nil _, Below.refl _ _⟩
set_option maxRecDepth 100000 in
set_option maxHeartbeats 800000 in
theorem pEncrypt_any (l : List UInt8) (hl : l.length = 16) (n B p : Nat) (hn : n ≤ 8) (key : Nat → UInt8) (v : Value) (w : World) (h : AcAt w B p n key) (hv : ByAt w v l) : Calls Try.prog 16 #[.pointer (some ⟨p, 0, none⟩), v] w fun e w' => ∃ vo, e = .returned (.tuple #[vo, .int .i64 0]) ∧ SlAt w' vo (toL (enS (n + 6) (rkS n key) (blk l))) ∧ Below w.heap.size w w' := by
  have HBO := hidD (pBlockOf16_any l hl v w hv)
  obtain ⟨a, cap, rfl⟩ := hv.len
  rw [hl] at *
  have HA := hidD h
  have HR := hidD (fun w => pRefused_ok p cap a w)
  have HE := hidD (fun w h => pEncrypted_any n B p hn key (blk l) w h)
  have HBY := hidD (fun w => pBytes_any (enS (n + 6) (rkS n key) (blk l)) w)
  clear hv h hl
  go_enter Try.func16, Try.ntmps16
  go_wp2_with (first
    | (go_at_call 41; refine (HR.out _).mono ?_; rintro e w1 ⟨rfl, hw1⟩; subst hw1)
    | (go_at_call 43; refine HBO.out.mono ?_; rintro e w2 ⟨rfl, hb2⟩; have HB2 := hidD hb2; clear hb2)
    | (go_at_call 42; refine (HE.out _ (HA.out.next HB2.out)).mono ?_; rintro e w3 ⟨rfl, hb3⟩; have HB3 := hidD (Below.next HB2.out hb3); clear hb3)
    | (go_at_call 40; refine (HBY.out _).mono ?_; rintro e w4 ⟨g4, rfl, hg4, hr4, hb4⟩; have HR4 := hidD hr4; have HB4 := hidD (Below.next HB3.out hb4); clear hg4 hr4 hb4))
  refine bodyPost_ret (v := .tuple #[.slice (some ⟨g4, 0, none⟩) 16 16, .int .i64 0]) (by simp [results, Try.results16, go_sem]) rfl ?_
  exact ⟨_, rfl, rowZ_sl HR4.out (by omega), HB4.out⟩
theorem pDecrypt_nil (v : Value) (w : World) : Calls Try.prog 18 #[.pointer none, v] w fun e w' => ∃ vo, e = .returned (.tuple #[vo, .int .i64 2]) ∧ SlAt w' vo [] ∧ Below w.heap.size w w' := by
  have HR := hidD (fun w => pRefused_nil v w)
  go_enter Try.func18, Try.ntmps18
  go_wp2_with (go_at_call 41; refine (HR.out _).mono ?_; rintro e w1 ⟨rfl, rfl⟩)
  refine bodyPost_ret (v := .tuple #[.slice none 0 0, .int .i64 2]) (by simp [results, Try.results18, go_sem]) rfl ?_
  exact ⟨_, rfl, sl_nil _, Below.refl _ _⟩
theorem pDecrypt_no (l : List UInt8) (hl : l.length ≠ 16) (n B p : Nat) (key : Nat → UInt8) (v : Value) (w : World) (h : AcAt w B p n key) (hv : ByAt w v l) : Calls Try.prog 18 #[.pointer (some ⟨p, 0, none⟩), v] w fun e w' => ∃ vo, e = .returned (.tuple #[vo, .int .i64 91]) ∧ SlAt w' vo [] ∧ Below w.heap.size w w' := by
  obtain ⟨a, cap, rfl⟩ := hv.len
  have HR := hidD (fun w => pRefused_no p l.length cap a hl w)
  clear hv h hl
  go_enter Try.func18, Try.ntmps18
  go_wp2_with (go_at_call 41; refine (HR.out _).mono ?_; rintro e w1 ⟨rfl, rfl⟩)
  refine bodyPost_ret (v := .tuple #[.slice none 0 0, .int .i64 91]) (by simp [results, Try.results18, go_sem]) rfl ?_
  exact ⟨_, rfl, sl_nil _, Below.refl _ _⟩
set_option maxRecDepth 100000 in
set_option maxHeartbeats 800000 in
theorem pDecrypt_any (l : List UInt8) (hl : l.length = 16) (n B p : Nat) (hn : n ≤ 8) (key : Nat → UInt8) (v : Value) (w : World) (h : AcAt w B p n key) (hv : ByAt w v l) : Calls Try.prog 18 #[.pointer (some ⟨p, 0, none⟩), v] w fun e w' => ∃ vo, e = .returned (.tuple #[vo, .int .i64 0]) ∧ SlAt w' vo (toL (deS (n + 6) (rkS n key) (blk l))) ∧ Below w.heap.size w w' := by
  have HBO := hidD (pBlockOf16_any l hl v w hv)
  obtain ⟨a, cap, rfl⟩ := hv.len
  rw [hl] at *
  have HA := hidD h
  have HR := hidD (fun w => pRefused_ok p cap a w)
  have HE := hidD (fun w h => pDecrypted_any n B p hn key (blk l) w h)
  have HBY := hidD (fun w => pBytes_any (deS (n + 6) (rkS n key) (blk l)) w)
  clear hv h hl
  go_enter Try.func18, Try.ntmps18
  go_wp2_with (first
    | (go_at_call 41; refine (HR.out _).mono ?_; rintro e w1 ⟨rfl, hw1⟩; subst hw1)
    | (go_at_call 43; refine HBO.out.mono ?_; rintro e w2 ⟨rfl, hb2⟩; have HB2 := hidD hb2; clear hb2)
    | (go_at_call 44; refine (HE.out _ (HA.out.next HB2.out)).mono ?_; rintro e w3 ⟨rfl, hb3⟩; have HB3 := hidD (Below.next HB2.out hb3); clear hb3)
    | (go_at_call 40; refine (HBY.out _).mono ?_; rintro e w4 ⟨g4, rfl, hg4, hr4, hb4⟩; have HR4 := hidD hr4; have HB4 := hidD (Below.next HB3.out hb4); clear hg4 hr4 hb4))
  refine bodyPost_ret (v := .tuple #[.slice (some ⟨g4, 0, none⟩) 16 16, .int .i64 0]) (by simp [results, Try.results18, go_sem]) rfl ?_
  exact ⟨_, rfl, rowZ_sl HR4.out (by omega), HB4.out⟩
end Go.Proofs.Ytgefampdfhbmbaa
