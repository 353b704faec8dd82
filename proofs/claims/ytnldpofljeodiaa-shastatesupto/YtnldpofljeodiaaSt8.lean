/- What Sum, Padding and Resume of sha answer. -/
import Derived.Test.YtnldpofljeodiaaGu
namespace Go.Proofs.Ytnldpofljeodiaa
open Go.RowKit
set_option linter.unusedVariables false

set_option maxRecDepth 100000 in
theorem write_none (sl : Value) (w : World) : Calls Try.prog 26 #[.pointer none, sl] w fun e w' => e = .returned (.int .i64 0) ∧ w' = w := by
  go_enter Try.func26, Try.ntmps26
  go_wp2_with fail
  go_ret
  exact ⟨rfl, rfl⟩
set_option maxRecDepth 100000 in
theorem stSum_none (w : World) : Calls Try.prog 28 #[.pointer none] w fun e w' => e = .returned (.slice none 0 0) ∧ w' = w := by
  go_enter Try.func28, Try.ntmps28
  go_wp2_with fail
  go_ret
  exact ⟨rfl, rfl⟩
theorem newP_lt (k : Nat) (hk : Kind k) : ∀ j, (newP k).c j < mdK k := hS_lt k hk
theorem feed_lt2 (k : Nat) (hk : Kind k) (L : List UInt8) : ∀ j, (feedP k (newP k) L).c j < mdK k := feed_lt k L _ (newP_lt k hk)
theorem feed_nlt (k : Nat) (s : Ps) (hs : s.n < 18446744073709551616) (L : List UInt8) : (feedP k s L).n < 18446744073709551616 := by rw [feed_n k L s hs]; exact Nat.mod_lt _ (by decide)
theorem by_off {w : World} {a : Option Addr} {n cap : Nat} {L : List UInt8} (hb : ByAt w (.slice a n cap) L) {g : Nat} (hg : w.heap.size ≤ g) : L ≠ [] → Off (.slice a n cap) g := fun hne => hb.off hg hne
set_option maxRecDepth 100000 in
set_option maxHeartbeats 800000 in
theorem shaSum_any (k : Nat) (hk : Kind k) (L : List UInt8) (hL : L.length ≤ 4611686018427387904) (a : Option Addr) (cap : Nat) (w : World) (hb : ByAt w (.slice a L.length cap) L) : Calls Try.prog 9 #[.int .i64 (k : Int), .slice a L.length cap] w fun e w' => ∃ g', e = .returned (.tuple #[.slice (some ⟨g', 0, none⟩) (k / 8) (k / 8), .int .i64 0]) ∧ w.heap.size ≤ g' ∧ RowZ w' g' .u8 (k / 8) 5 (fun i => ((dgP k (feedP k (newP k) L) i).toNat : Int)) ∧ Below w.heap.size w w' := by
  have HBG : Hid (∀ w, Calls Try.prog 30 #[.int .i64 (k : Int)] w fun e w' => ∃ g, e = .returned (.tuple #[.pointer (some ⟨g, 0, none⟩), .int .i64 0]) ∧ w.heap.size ≤ g ∧ StAt w' g k (newP k) ∧ Below w.heap.size w w') := fun w => begin_any k hk w
  have HWR : Hid (∀ (g : Nat) (wA : World), w.heap.size ≤ g → Below w.heap.size w wA → StAt wA g k (newP k) → Calls Try.prog 26 #[.pointer (some ⟨g, 0, none⟩), .slice a L.length cap] wA fun e w' => e = .returned (.int .i64 (L.length : Int)) ∧ StAt w' g k (feedP k (newP k) L) ∧ But g wA w') := fun g wA hg hA hs => write_any k hk g _ (show 0 < 18446744073709551616 by decide) (newP_lt k hk) L hL a cap wA hs (hb.next hA) (by_off hb hg)
  have HSM : Hid (∀ (g : Nat) (wA : World), StAt wA g k (feedP k (newP k) L) → Calls Try.prog 28 #[.pointer (some ⟨g, 0, none⟩)] wA fun e w' => ∃ g', e = .returned (.slice (some ⟨g', 0, none⟩) (k / 8) (k / 8)) ∧ wA.heap.size ≤ g' ∧ RowZ w' g' .u8 (k / 8) 5 (fun i => ((dgP k (feedP k (newP k) L) i).toNat : Int)) ∧ Below wA.heap.size wA w') := fun g wA hs => stSum_any k hk g _ (feed_nlt k _ (show 0 < 18446744073709551616 by decide) L) (feed_lt2 k hk L) wA hs
  clear hb
  generalize L.length = LL at *
  obtain ⟨K8, hK8⟩ : ∃ K8, k / 8 = K8 := ⟨_, rfl⟩
  rw [hK8] at HSM
  rw [hK8]
  clear hK8
  go_enter Try.func9, Try.ntmps9
  go_wp2_with fail
  go_at_call 30
  refine (HBG.out _).mono ?_
  rintro e w1 ⟨g, rfl, hg, hs, hb1⟩
  have HG := hidD hg
  have HB1 := hidD hb1
  have HWW := hidD (HWR.out g w1 hg hb1 hs)
  clear hs hg hb1 HWR HBG
  go_wp2_with fail
  go_at_call 26
  refine HWW.out.mono ?_
  rintro e w2 ⟨rfl, hs2, hb2⟩
  have HB2 : Hid (Below w.heap.size w w2) := HB1.out.trans (hb2.bel.mono HG.out)
  have HSS := hidD (HSM.out g w2 hs2)
  clear hs2 hb2 HWW HB1 HSM
  go_wp2_with fail
  go_at_call 28
  refine HSS.out.mono ?_
  rintro e w3 ⟨g3, rfl, hg3, hr3, hb3⟩
  have HF : Hid (w.heap.size ≤ g3 ∧ RowZ w3 g3 .u8 K8 5 (fun i => ((dgP k (feedP k (newP k) L) i).toNat : Int)) ∧ Below w.heap.size w w3) := ⟨Nat.le_trans HB2.out.size hg3, hr3, Below.next HB2.out hb3⟩
  clear hg3 hr3 hb3 HSS
  go_wp2_with fail
  go_ret2
  exact ⟨g3, rfl, HF.out⟩
set_option maxRecDepth 100000 in
theorem shaSum_no (x : Int) (h : x ≠ 224 ∧ x ≠ 256 ∧ x ≠ 384 ∧ x ≠ 512) (sl : Value) (w : World) : Calls Try.prog 9 #[.int .i64 x, sl] w fun e w' => e = .returned (.tuple #[.slice none 0 0, .int .i64 1]) ∧ w' = w := by
  have HBG : Hid (∀ w, Calls Try.prog 30 #[.int .i64 x] w fun e w' => e = .returned (.tuple #[.pointer none, .int .i64 1]) ∧ w' = w) := fun w => begin_no x h w
  have HW : Hid (∀ w, Calls Try.prog 26 #[.pointer none, sl] w fun e w' => e = .returned (.int .i64 0) ∧ w' = w) := fun w => write_none sl w
  have HS : Hid (∀ w, Calls Try.prog 28 #[.pointer none] w fun e w' => e = .returned (.slice none 0 0) ∧ w' = w) := fun w => stSum_none w
  clear h
  go_enter Try.func9, Try.ntmps9
  go_wp2_with (first | (go_at_call 30; refine (HBG.out _).mono ?_; rintro e wx ⟨rfl, hx⟩; subst wx) | (go_at_call 26; refine (HW.out _).mono ?_; rintro e wx ⟨rfl, hx⟩; subst wx) | (go_at_call 28; refine (HS.out _).mono ?_; rintro e wx ⟨rfl, hx⟩; subst wx))
  go_ret2
  exact ⟨rfl, rfl⟩
set_option maxRecDepth 100000 in
set_option maxHeartbeats 800000 in
theorem padLaw_any (k : Nat) (hk : Kind k) (n : Nat) (hn : n < 2305843009213693952) (w : World) : Calls Try.prog 22 #[.int .i64 (k : Int), .int .u64 (n : Int)] w fun e w' => ∃ g, e = .returned (.tuple #[.slice (some ⟨g, 0, none⟩) (rmS (blkN k) n) (rmS (blkN k) n), .int .i64 0]) ∧ w.heap.size ≤ g ∧ RowZ w' g .u8 (rmS (blkN k) n) 5 (fun j => ((pdS (blkN k) n j).toNat : Int)) ∧ Below w.heap.size w w' := by
  have HSZ : Hid (∀ w, Calls Try.prog 36 #[.int .i64 (k : Int)] w fun e w' => e = .returned (.tuple #[.int .i64 ((k / 8 : Nat) : Int), .int .i64 (blkN k : Int), .int .i64 0]) ∧ w' = w) := fun w => size_any k hk w
  have HM : Hid (∀ w, Calls Try.prog 42 #[.int .u64 (n : Int), .int .u64 8] w fun e w' => e = .returned (.tuple #[.int .u64 0, .int .u64 ((n * 8 % 18446744073709551616 : Nat) : Int)]) ∧ w' = w) := fun w => by have := Try.bits_Mul64 n 8 (by omega) (by omega) w; rw [show n * 8 / 18446744073709551616 = 0 by omega] at this; exact this
  have HP : Hid (∀ w, Calls Try.prog 43 #[.int .i64 (blkN k : Int), .int .u64 (n : Int)] w fun e w' => ∃ g, e = .returned (.slice (some ⟨g, 0, none⟩) (rmS (blkN k) n) (rmS (blkN k) n)) ∧ w.heap.size ≤ g ∧ RowZ w' g .u8 (rmS (blkN k) n) 5 (fun j => ((pdS (blkN k) n j).toNat : Int)) ∧ Below w.heap.size w w') := fun w => padding_any k n (by omega) w
  obtain ⟨R, hR⟩ : ∃ R, rmS (blkN k) n = R := ⟨_, rfl⟩
  rw [hR] at HP
  rw [hR]
  clear hR
  generalize hBK : blkN k = BK at *
  have HBK := hidD hBK
  clear hBK
  generalize k / 8 = K8 at *
  generalize n * 8 % 18446744073709551616 = lo at *
  go_enter Try.func22, Try.ntmps22
  go_wp2_with (first | (go_at_call 36; refine (HSZ.out _).mono ?_; rintro e wx ⟨rfl, hx⟩; subst wx) | (go_at_call 42; refine (HM.out _).mono ?_; rintro e wx ⟨rfl, hx⟩; subst wx))
  go_at_call 43
  refine (HP.out _).mono ?_
  rintro e w1 ⟨g, rfl, hF⟩
  have HF := hidD hF
  clear hF
  go_wp2_with fail
  go_ret2
  exact ⟨g, rfl, by first | exact HF.out | (rw [HBK.out]; exact HF.out)⟩
end Go.Proofs.Ytnldpofljeodiaa
