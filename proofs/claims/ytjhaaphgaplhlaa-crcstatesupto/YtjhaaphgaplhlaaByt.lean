/- What byteIn of the program answers. -/
import Derived.Test.YtjhaaphgaplhlaaRvs
import Derived.Test.YtjhaaphgaplhlaaQuietB
namespace Go.Proofs.Ytjhaaphgaplhlaa
open Go.RowKit
set_option linter.unusedVariables false

/-- A model lies in a block. -/
structure MdAt (w : World) (g : Nat) (m : Md) : Prop where
  c0 : w.cell? ⟨g, 0, none⟩ = some (.string m.name)
  c1 : w.cell? ⟨g, 1, none⟩ = some (.int .i64 (m.w : Int))
  c2 : w.cell? ⟨g, 2, none⟩ = some (.int .u64 (m.P : Int))
  c3 : w.cell? ⟨g, 3, none⟩ = some (.int .u64 (m.I : Int))
  c4 : w.cell? ⟨g, 4, none⟩ = some (.bool m.inn)
  c5 : w.cell? ⟨g, 5, none⟩ = some (.bool m.out)
  c6 : w.cell? ⟨g, 6, none⟩ = some (.int .u64 (m.X : Int))
def Md.cells (m : Md) : Array Value := #[.string m.name, .int .i64 m.w, .int .u64 m.P, .int .u64 m.I, .bool m.inn, .bool m.out, .int .u64 m.X]
theorem MdAt.new (m : Md) (w : World) (t : TypeId) : MdAt (w.alloc (.cells m.cells t)) w.heap.size m := by
  constructor <;> (rw [World.cell?_alloc_new]; rfl)
theorem MdAt.below {w w' : World} {g : Nat} {m : Md} (h : MdAt w g m) {n : Nat} (hb : Below n w w') (hg : g < n) : MdAt w' g m := by
  obtain ⟨h0, h1, h2, h3, h4, h5, h6⟩ := h
  constructor <;> (rw [hb.cell (p := ⟨g, _, none⟩) hg]; assumption)

theorem bitsOf_in (inn : Bool) (b : Nat) : bitsOf inn b = bitsOf false (if inn then rev b 8 else b) := by
  cases inn with
  | false => rfl
  | true =>
    unfold bitsOf
    apply List.map_congr_left
    intro i hi
    have : i < 8 := by simpa using hi
    simp only [Bool.false_eq_true, if_false, if_true]
    rw [rev_testBit, show 8 - 1 - (7 - i) = i by omega, decide_eq_true (show 7 - i < 8 by omega)]; rfl
theorem bit_u8 {v : Nat} (k : Nat) (hv : v < 256) : bits .and .u8 ((v : Int) / 2 ^ k) 1 = ((v.testBit k).toNat : Int) := by
  have h1 : (v : Int) / 2 ^ k = ((v / 2 ^ k : Nat) : Int) := by simp
  have h2 : v / 2 ^ k ≤ v := Nat.div_le_self _ _
  rw [h1, show (1 : Int) = ((1 : Nat) : Int) from rfl, u8_and_nat _ _ (by omega) (by omega), nat_mask1, bit_nat]
theorem bits_take (B k : Nat) (h : k < 8) : (bitsOf false B).take (k + 1) = (bitsOf false B).take k ++ [B.testBit (7 - k)] := by
  rw [List.take_add_one, bitsOf_get false B k h]; rfl
theorem run_take (w P r B k : Nat) (h : k < 8) : runB w P r ((bitsOf false B).take (k + 1)) = stepB w P (runB w P r ((bitsOf false B).take k)) (B.testBit (7 - k)) := by
  rw [bits_take B k h, run_append]; rfl

set_option maxRecDepth 100000 in
set_option maxHeartbeats 400000 in
theorem byteIn_any (m : Md) (hm : MdOk m) (r : Nat) (hr : r < 2 ^ m.w) (b : Nat) (hb : b < 256) (w : World) : Calls Try.prog 59 #[m.v, .int .u64 r, .int .u8 b] w fun e w' => e = .returned (.int .u64 (runB m.w m.P r (bitsOf m.inn b) : Nat)) ∧ Below w.heap.size w w' := by
  have HM := hidD hm
  have HRV := hidD (fun w => reverse_any b hb w)
  have HBI := hidD (fun (r : Nat) (hr : r < 2 ^ m.w) (c : Bool) (w : World) => bitIn_any m hm r hr c w)
  have HR := hidD hr
  have hBB := bitsOf_in m.inn b
  have HRL := hidD (fun l (r : Nat) hr => run_lt hm.P l r hr)
  have hB : (if m.inn = true then rev b 8 else b) < 256 := by split; exact rev8_lt b; exact hb
  obtain ⟨B, hBe⟩ : ∃ B, (if m.inn = true then rev b 8 else b) = B := ⟨_, rfl⟩
  rw [hBe] at hBB hB
  rw [hBB]
  generalize hRR : runB m.w m.P r (bitsOf false B) = RR
  have HRR := hidD hRR
  clear hm hr hBB hRR
  obtain ⟨nm, ww, P, I, inn, out, X⟩ := m
  simp only [Md.v] at *
  have HG : Hid (w.heap.size < (w.alloc (.cells (Md.cells ⟨nm, ww, P, I, inn, out, X⟩) 35)).heap.size) := by show _ < _; simp
  have HBa : Hid (Below w.heap.size w (w.alloc (.cells (Md.cells ⟨nm, ww, P, I, inn, out, X⟩) 35))) := (Below.refl w.heap.size w).alloc (Nat.le_refl _) _
  have HC := hidD (MdAt.new ⟨nm, ww, P, I, inn, out, X⟩ w 35)
  simp only [Md.cells] at HG HBa HC
  cases inn
  · simp only [Bool.false_eq_true, if_false] at hBe
    subst hBe
    clear HRV
    go_enter Try.func59, Try.ntmps59
    go_wp2_with fail
    generalize hw1 : w.alloc _ = w1 at *
    have HB : Hid (∀ w2, Below w1.heap.size w1 w2 → Below w.heap.size w w2) := fun w2 h => HBa.out.trans (h.mono (Nat.le_of_lt HG.out))
    go_loopw [1, 12] (fun rr i wr => ∃ k : Nat, k ≤ 8 ∧ i = .int .i64 k ∧ rr = .int .u64 ((runB ww P r ((bitsOf false b).take k) : Nat) : Int) ∧ Below w1.heap.size w1 wr) (fun _ i _ => 8 - (intOf i).toNat)
    case atStart => exact ⟨0, Nat.zero_le _, rfl, rfl, Below.refl _ _⟩
    case round =>
      obtain ⟨k, hk, rfl, rfl, hbel⟩ := hrel
      have HBL := hidD hbel
      by_cases hlt : k < 8
      · have hlti : (k : Int) < 8 := by omega
        have hk7 : (7 : Int) - k = ((7 - k : Nat) : Int) := by omega
        have hbit := bit_u8 (7 - k) hB
        have HST := hidD (run_take ww P r b k hlt)
        have HC2 := HC.out.below hbel HG.out
        have hcl : ∀ i : BW wr, MdAt i.v w.heap.size ⟨nm, ww, P, I, false, out, X⟩ := fun i => HC2.below i.below (by have := hbel.size; have := HG.out; omega)
        have k0 := fun i => (hcl i).c0
        have k1 := fun i => (hcl i).c1
        have k2 := fun i => (hcl i).c2
        have k3 := fun i => (hcl i).c3
        have k4 := fun i => (hcl i).c4
        have k5 := fun i => (hcl i).c5
        have k6 := fun i => (hcl i).c6
        have HCB : Hid (∀ i : BW wr, Calls Try.prog 65 #[.agg #[.string nm, .int .i64 ww, .int .u64 P, .int .u64 I, .bool false, .bool out, .int .u64 X], .int .u64 ((runB ww P r ((bitsOf false b).take k) : Nat) : Int), .int .u64 ((b.testBit (7 - k)).toNat : Int)] i.v fun e w' => e = .returned (.int .u64 ((runB ww P r ((bitsOf false b).take (k + 1)) : Nat) : Int)) ∧ Below i.v.heap.size i.v w') := fun i => by
          rw [HST.out]; exact HBI.out _ (HRL.out _ _ HR.out) _ _
        have hz : 0 ≤ ((b.testBit (7 - k)).toNat : Int) ∧ ((b.testBit (7 - k)).toNat : Int) < 256 := by cases b.testBit (7 - k) <;> simp
        obtain ⟨hz0, hz1⟩ := hz
        simp only at k0 k1 k2 k3 k4 k5 k6
        generalize ((b.testBit (7 - k)).toNat : Int) = z at *
        generalize hd : 7 - k = d at *
        have hd7 : d ≤ 8 := by omega
        clear hcl HC2 hbel hd
        generalize hA : runB ww P r ((bitsOf false b).take k) = A at *
        generalize hA2 : runB ww P r ((bitsOf false b).take (k + 1)) = A2 at *
        have HA2 := hidD hA2
        clear hA hA2
        go_wp2_with fail
        refine wp_region_below (by kernel_rfl) (by kernel_rfl) ?_
        repeat (go_big_quiet_step ((go_at_call 65; exact Calls.below_of (HCB.out _))))
        refine wpQuiet_nil ?_
        intro i
        go_wp2_with fail
        go_roundw
        case rel => exact ⟨k + 1, by omega, by go_num, by rw [HA2.out], HBL.out.trans (i.below.mono HBL.out.size)⟩
        case measure => simp [intOf]; omega
      · obtain rfl : k = 8 := by omega
        have HF : Hid (runB ww P r ((bitsOf false b).take 8) = RR) := by rw [← HRR.out, List.take_of_length_le (by rw [bitsOf_length]; exact Nat.le_refl _)]; exact rfl
        generalize runB ww P r ((bitsOf false b).take 8) = A at *
        go_wp2_with fail
        go_ret
        rw [HF.out]
        exact ⟨rfl, HB.out _ HBL.out⟩
  · simp only [if_true] at hBe
    rw [hBe] at HRV
    clear hBe
    go_enter Try.func59, Try.ntmps59
    go_wp2_with (go_at_call 64; refine (HRV.out _).mono ?_; rintro e w2 ⟨rfl, hb2⟩)
    generalize w.alloc _ = w0 at *
    have HC := hidD (HC.out.below hb2 HG.out)
    have HB : Hid (∀ w3, Below w2.heap.size w2 w3 → Below w.heap.size w w3) := fun w3 h => HBa.out.trans ((hb2.trans (h.mono hb2.size)).mono (Nat.le_of_lt HG.out))
    have HG : Hid (w.heap.size < w2.heap.size) := Nat.lt_of_lt_of_le HG.out hb2.size
    clear hb2
    generalize hw1 : w2 = w1 at *
    go_loopw [1, 12] (fun rr i wr => ∃ k : Nat, k ≤ 8 ∧ i = .int .i64 k ∧ rr = .int .u64 ((runB ww P r ((bitsOf false B).take k) : Nat) : Int) ∧ Below w1.heap.size w1 wr) (fun _ i _ => 8 - (intOf i).toNat)
    case atStart => exact ⟨0, Nat.zero_le _, rfl, rfl, Below.refl _ _⟩
    case round =>
      obtain ⟨k, hk, rfl, rfl, hbel⟩ := hrel
      have HBL := hidD hbel
      by_cases hlt : k < 8
      · have hlti : (k : Int) < 8 := by omega
        have hk7 : (7 : Int) - k = ((7 - k : Nat) : Int) := by omega
        have hbit := bit_u8 (7 - k) hB
        have HST := hidD (run_take ww P r B k hlt)
        have HC2 := HC.out.below hbel HG.out
        have hcl : ∀ i : BW wr, MdAt i.v w.heap.size ⟨nm, ww, P, I, true, out, X⟩ := fun i => HC2.below i.below (by have := hbel.size; have := HG.out; omega)
        have k0 := fun i => (hcl i).c0
        have k1 := fun i => (hcl i).c1
        have k2 := fun i => (hcl i).c2
        have k3 := fun i => (hcl i).c3
        have k4 := fun i => (hcl i).c4
        have k5 := fun i => (hcl i).c5
        have k6 := fun i => (hcl i).c6
        have HCB : Hid (∀ i : BW wr, Calls Try.prog 65 #[.agg #[.string nm, .int .i64 ww, .int .u64 P, .int .u64 I, .bool true, .bool out, .int .u64 X], .int .u64 ((runB ww P r ((bitsOf false B).take k) : Nat) : Int), .int .u64 ((B.testBit (7 - k)).toNat : Int)] i.v fun e w' => e = .returned (.int .u64 ((runB ww P r ((bitsOf false B).take (k + 1)) : Nat) : Int)) ∧ Below i.v.heap.size i.v w') := fun i => by
          rw [HST.out]; exact HBI.out _ (HRL.out _ _ HR.out) _ _
        have hz : 0 ≤ ((B.testBit (7 - k)).toNat : Int) ∧ ((B.testBit (7 - k)).toNat : Int) < 256 := by cases B.testBit (7 - k) <;> simp
        obtain ⟨hz0, hz1⟩ := hz
        simp only at k0 k1 k2 k3 k4 k5 k6
        generalize ((B.testBit (7 - k)).toNat : Int) = z at *
        generalize hd : 7 - k = d at *
        have hd7 : d ≤ 8 := by omega
        clear hcl HC2 hbel hd
        generalize hA : runB ww P r ((bitsOf false B).take k) = A at *
        generalize hA2 : runB ww P r ((bitsOf false B).take (k + 1)) = A2 at *
        have HA2 := hidD hA2
        clear hA hA2
        go_wp2_with fail
        refine wp_region_below (by kernel_rfl) (by kernel_rfl) ?_
        repeat (go_big_quiet_step ((go_at_call 65; exact Calls.below_of (HCB.out _))))
        refine wpQuiet_nil ?_
        intro i
        go_wp2_with fail
        go_roundw
        case rel => exact ⟨k + 1, by omega, by go_num, by rw [HA2.out], HBL.out.trans (i.below.mono HBL.out.size)⟩
        case measure => simp [intOf]; omega
      · obtain rfl : k = 8 := by omega
        have HF : Hid (runB ww P r ((bitsOf false B).take 8) = RR) := by rw [← HRR.out, List.take_of_length_le (by rw [bitsOf_length]; exact Nat.le_refl _)]; exact rfl
        generalize runB ww P r ((bitsOf false B).take 8) = A at *
        go_wp2_with fail
        go_ret
        rw [HF.out]
        exact ⟨rfl, HB.out _ HBL.out⟩
end Go.Proofs.Ytjhaaphgaplhlaa
