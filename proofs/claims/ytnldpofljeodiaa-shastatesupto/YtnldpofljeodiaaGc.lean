/- Texts of one proof, one behind the other. -/
import Derived.Test.YtnldpofljeodiaaGb
import Derived.Test.YtnldpofljeodiaaGm
/- What Constants of the document answers. -/
namespace Go.Proofs.Ytnldpofljeodiaa
open Go.RowKit
set_option linter.unusedVariables false

theorem pr_lt (j : Nat) : prS j < 4294967296 := by
  unfold prS
  by_cases h : j < 80
  · have : ∀ i : Fin 80, prL.getD i.val 0 < 4294967296 := by decide +kernel
    exact this ⟨j, h⟩
  · rw [List.getD_eq_getElem?_getD, List.getElem?_eq_none (by show 80 ≤ j; omega)]; decide
def nkK (k : Nat) : Nat := if 256 < k then 80 else 64
theorem NsAt.cut {w : World} {kd : IntKind} {g off n cap : Nat} {f : Nat → Nat} (h : NsAt w kd (.slice (some ⟨g, off, none⟩) n cap) n f) (a m : Nat) (ham : a + m ≤ n) : NsAt w kd (.slice (some ⟨g, off + a, none⟩) m (cap - a)) m (fun j => f (a + j)) := by
  obtain ⟨a', cap', e, hn, hc⟩ := h
  cases e
  refine ⟨_, _, rfl, by omega, fun k hk => ?_⟩
  obtain ⟨g1, o1, e1, hg, hcl⟩ := hc (a + k) (by omega)
  cases e1
  exact ⟨g, off + a, rfl, hg, by rw [Nat.add_assoc]; exact hcl⟩
set_option maxRecDepth 100000 in
set_option maxHeartbeats 3200000 in
theorem con6_256 (w : World) : Calls Try.prog 56 #[.int .i64 256] w fun e w' => ∃ vk vh, e = .returned (.tuple #[vk, vh, .int .i64 0]) ∧ NsAt w' .u64 vk 64 (coS 256) ∧ NsAt w' .u64 vh 8 (hS 256) ∧ Below w.heap.size w w' := by
  have HWD := hidD refWords6_any
  have HK : Hid (∀ (sl : Value) (w : World), NsAt w .u32 sl 64 prS → Calls Try.prog 69 #[sl, .int .i64 3, .int .i64 32] w fun e w' => ∃ v, e = .returned v ∧ NsAt w' .u64 v 64 (coS 256) ∧ Below w.heap.size w w') := fun sl w h => (parts6_any 3 32 64 prS (.inr rfl) (by omega) (by omega) (by omega) pr_lt sl w h).mono fun e w' ⟨v, he, ho, hb⟩ => ⟨v, he, (NsAt.row ho).congr fun j hj => (con_k32 ⟨j, hj⟩).1, hb⟩
  have HH : Hid (∀ (sl : Value) (w : World), NsAt w .u32 sl 8 prS → Calls Try.prog 69 #[sl, .int .i64 2, .int .i64 32] w fun e w' => ∃ v, e = .returned v ∧ NsAt w' .u64 v 8 (hS 256) ∧ Below w.heap.size w w') := fun sl w h => (parts6_any 2 32 8 prS (.inl rfl) (by omega) (by omega) (by omega) pr_lt sl w h).mono fun e w' ⟨v, he, ho, hb⟩ => ⟨v, he, (NsAt.row ho).congr fun j hj => (con_h ⟨j, hj⟩).1, hb⟩
  go_enter Try.func56, Try.ntmps56
  go_wp2_with (go_at_call 68; refine (HWD.out _).mono ?_; rintro e w1 ⟨v, rfl, hown, hb1⟩; obtain ⟨gp, cp, rfl, hgp, hgl, hcp⟩ := row_shapeC hown (by omega); have HB1 := hidD hb1; have HN1 := hidD (NsAt.row hown); clear hown hb1)
  have HNK : Hid (∀ wA, Below w1.heap.size w1 wA → NsAt wA .u32 (.slice (some ⟨gp, 0, none⟩) 64 cp) 64 prS) := fun wA h => ((HN1.out.below h).cut 0 64 (by omega)).congr fun j _ => by rw [Nat.zero_add]
  have HNH : Hid (∀ wA, Below w1.heap.size w1 wA → NsAt wA .u32 (.slice (some ⟨gp, 0, none⟩) 8 cp) 8 prS) := fun wA h => ((HN1.out.below h).cut 0 8 (by omega)).congr fun j _ => by rw [Nat.zero_add]
  have hcp64 : 64 ≤ cp := by omega
  have hcp16 : 16 ≤ cp := by omega
  have hcp8 : 8 ≤ cp := by omega
  have hcpn : ¬ cp = 8 := by omega
  have hcp0 : ¬ cp = 0 := by omega
  have HDR : Hid (Below w1.heap.size w1 w1.drew) := (Below.refl _ _).drew
  have HKK : Hid (∀ wB, Below w1.heap.size w1 wB → ∃ i : KB w1 [gp], wB = i.v) := fun wB hb => ⟨⟨wB, fun x hx => by
    rw [show x = gp by simpa using hx]
    exact hb.block _ hgl⟩, rfl⟩
  refine wp_region_loud0 [true, true, false, true, true, false, false, false, false] [gp] (by kernel_rfl) (by kernel_rfl) (by kernel_rfl) (by kernel_rfl) (by kernel_rfl) (fun _ _ _ _ _ h => h) ?_
  simp only [qPick, lPick]
  repeat (go_big_quiet_step (fail))
  refine wpQuiet_nil ?_
  simp only [LoudW]
  go_wp2_with (go_at_call 69; refine (HK.out _ _ (HNK.out _ HDR.out)).mono ?_; rintro e w2 ⟨vk, rfl, hk, hb2⟩)
  have KV := hidD hk
  have HB2 : Hid (Below w1.heap.size w1 w2) := HDR.out.trans hb2
  clear hk hb2
  refine ⟨HKK.out _ HB2.out, ?_⟩
  go_wp2_with (go_at_call 69; refine (HH.out _ _ (HNH.out _ HB2.out)).mono ?_; rintro e w9 ⟨vh, rfl, hh, hb9⟩)
  have KH := hidD hh
  have KK := hidD (KV.out.below hb9)
  have HB9 := hidD (Below.next HB2.out hb9)
  clear hh hb9
  refine ⟨HKK.out _ HB9.out, ?_⟩
  go_wp2_with fail
  refine ⟨HKK.out _ HB9.out, ?_⟩
  go_wp2_with fail
  refine ⟨HKK.out _ HB9.out, ?_⟩
  go_wp2_with fail
  refine ⟨HKK.out _ HB9.out, ?_⟩
  go_wp2_with fail
  refine bodyPost_ret (v := .tuple #[vk, vh, .int .i64 0]) (by simp [results, Try.results56, go_sem]) rfl ⟨vk, vh, rfl, KK.out, KH.out, Below.next HB1.out HB9.out⟩
set_option maxRecDepth 100000 in
set_option maxHeartbeats 3200000 in
theorem con6_512 (w : World) : Calls Try.prog 56 #[.int .i64 512] w fun e w' => ∃ vk vh, e = .returned (.tuple #[vk, vh, .int .i64 0]) ∧ NsAt w' .u64 vk 80 (coS 512) ∧ NsAt w' .u64 vh 8 (hS 512) ∧ Below w.heap.size w w' := by
  have HWD := hidD refWords6_any
  have HK : Hid (∀ (sl : Value) (w : World), NsAt w .u32 sl 80 prS → Calls Try.prog 69 #[sl, .int .i64 3, .int .i64 64] w fun e w' => ∃ v, e = .returned v ∧ NsAt w' .u64 v 80 (coS 512) ∧ Below w.heap.size w w') := fun sl w h => (parts6_any 3 64 80 prS (.inr rfl) (by omega) (by omega) (by omega) pr_lt sl w h).mono fun e w' ⟨v, he, ho, hb⟩ => ⟨v, he, (NsAt.row ho).congr fun j hj => (con_k64 ⟨j, hj⟩).1, hb⟩
  have HH : Hid (∀ (sl : Value) (w : World), NsAt w .u32 sl 8 prS → Calls Try.prog 69 #[sl, .int .i64 2, .int .i64 64] w fun e w' => ∃ v, e = .returned v ∧ NsAt w' .u64 v 8 (hS 512) ∧ Below w.heap.size w w') := fun sl w h => (parts6_any 2 64 8 prS (.inl rfl) (by omega) (by omega) (by omega) pr_lt sl w h).mono fun e w' ⟨v, he, ho, hb⟩ => ⟨v, he, (NsAt.row ho).congr fun j hj => (con_h ⟨j, hj⟩).2.1, hb⟩
  go_enter Try.func56, Try.ntmps56
  go_wp2_with (go_at_call 68; refine (HWD.out _).mono ?_; rintro e w1 ⟨v, rfl, hown, hb1⟩; obtain ⟨gp, cp, rfl, hgp, hgl, hcp⟩ := row_shapeC hown (by omega); have HB1 := hidD hb1; have HN1 := hidD (NsAt.row hown); clear hown hb1)
  have HNK : Hid (∀ wA, Below w1.heap.size w1 wA → NsAt wA .u32 (.slice (some ⟨gp, 0, none⟩) 80 cp) 80 prS) := fun wA h => HN1.out.below h
  have HNH : Hid (∀ wA, Below w1.heap.size w1 wA → NsAt wA .u32 (.slice (some ⟨gp, 0, none⟩) 8 cp) 8 prS) := fun wA h => ((HN1.out.below h).cut 0 8 (by omega)).congr fun j _ => by rw [Nat.zero_add]
  have hcp64 : 64 ≤ cp := by omega
  have hcp16 : 16 ≤ cp := by omega
  have hcp8 : 8 ≤ cp := by omega
  have hcpn : ¬ cp = 8 := by omega
  have hcp0 : ¬ cp = 0 := by omega
  have HDR : Hid (Below w1.heap.size w1 w1.drew) := (Below.refl _ _).drew
  have HKK : Hid (∀ wB, Below w1.heap.size w1 wB → ∃ i : KB w1 [gp], wB = i.v) := fun wB hb => ⟨⟨wB, fun x hx => by
    rw [show x = gp by simpa using hx]
    exact hb.block _ hgl⟩, rfl⟩
  refine wp_region_loud0 [true, false, true, true, false, false, false, false] [gp] (by kernel_rfl) (by kernel_rfl) (by kernel_rfl) (by kernel_rfl) (by kernel_rfl) (fun _ _ _ _ _ h => h) ?_
  simp only [qPick, lPick]
  repeat (go_big_quiet_step (fail))
  refine wpQuiet_nil ?_
  simp only [LoudW]
  go_wp2_with (go_at_call 69; refine (HK.out _ _ (HNK.out _ HDR.out)).mono ?_; rintro e w2 ⟨vk, rfl, hk, hb2⟩)
  have KV := hidD hk
  have HB2 : Hid (Below w1.heap.size w1 w2) := HDR.out.trans hb2
  clear hk hb2
  refine ⟨HKK.out _ HB2.out, ?_⟩
  go_wp2_with (go_at_call 69; refine (HH.out _ _ (HNH.out _ HB2.out)).mono ?_; rintro e w9 ⟨vh, rfl, hh, hb9⟩)
  have KH := hidD hh
  have KK := hidD (KV.out.below hb9)
  have HB9 := hidD (Below.next HB2.out hb9)
  clear hh hb9
  refine ⟨HKK.out _ HB9.out, ?_⟩
  go_wp2_with fail
  refine ⟨HKK.out _ HB9.out, ?_⟩
  go_wp2_with fail
  refine ⟨HKK.out _ HB9.out, ?_⟩
  go_wp2_with fail
  refine ⟨HKK.out _ HB9.out, ?_⟩
  go_wp2_with fail
  refine bodyPost_ret (v := .tuple #[vk, vh, .int .i64 0]) (by simp [results, Try.results56, go_sem]) rfl ⟨vk, vh, rfl, KK.out, KH.out, Below.next HB1.out HB9.out⟩
set_option maxRecDepth 100000 in
set_option maxHeartbeats 3200000 in
theorem con6_384 (w : World) : Calls Try.prog 56 #[.int .i64 384] w fun e w' => ∃ vk vh, e = .returned (.tuple #[vk, vh, .int .i64 0]) ∧ NsAt w' .u64 vk 80 (coS 384) ∧ NsAt w' .u64 vh 8 (hS 384) ∧ Below w.heap.size w w' := by
  have HWD := hidD refWords6_any
  have HK : Hid (∀ (sl : Value) (w : World), NsAt w .u32 sl 80 prS → Calls Try.prog 69 #[sl, .int .i64 3, .int .i64 64] w fun e w' => ∃ v, e = .returned v ∧ NsAt w' .u64 v 80 (coS 384) ∧ Below w.heap.size w w') := fun sl w h => (parts6_any 3 64 80 prS (.inr rfl) (by omega) (by omega) (by omega) pr_lt sl w h).mono fun e w' ⟨v, he, ho, hb⟩ => ⟨v, he, (NsAt.row ho).congr fun j hj => (con_k64 ⟨j, hj⟩).1.trans (con_k64 ⟨j, hj⟩).2.symm, hb⟩
  have HH : Hid (∀ (sl : Value) (w : World), NsAt w .u32 sl 8 (fun j => prS (8 + j)) → Calls Try.prog 69 #[sl, .int .i64 2, .int .i64 64] w fun e w' => ∃ v, e = .returned v ∧ NsAt w' .u64 v 8 (hS 384) ∧ Below w.heap.size w w') := fun sl w h => (parts6_any 2 64 8 (fun j => prS (8 + j)) (.inl rfl) (by omega) (by omega) (by omega) (fun j => pr_lt (8 + j)) sl w h).mono fun e w' ⟨v, he, ho, hb⟩ => ⟨v, he, (NsAt.row ho).congr fun j hj => (con_h ⟨j, hj⟩).2.2.1, hb⟩
  go_enter Try.func56, Try.ntmps56
  go_wp2_with (go_at_call 68; refine (HWD.out _).mono ?_; rintro e w1 ⟨v, rfl, hown, hb1⟩; obtain ⟨gp, cp, rfl, hgp, hgl, hcp⟩ := row_shapeC hown (by omega); have HB1 := hidD hb1; have HN1 := hidD (NsAt.row hown); clear hown hb1)
  have HNK : Hid (∀ wA, Below w1.heap.size w1 wA → NsAt wA .u32 (.slice (some ⟨gp, 0, none⟩) 80 cp) 80 prS) := fun wA h => HN1.out.below h
  have HNH : Hid (∀ wA, Below w1.heap.size w1 wA → NsAt wA .u32 (.slice (some ⟨gp, 8, none⟩) 8 (cp - 8)) 8 (fun j => prS (8 + j))) := fun wA h => (show NsAt wA .u32 (.slice (some ⟨gp, 0 + 8, none⟩) 8 (cp - 8)) 8 (fun j => prS (8 + j)) from (HN1.out.below h).cut 8 8 (by omega))
  have hcp64 : 64 ≤ cp := by omega
  have hcp16 : 16 ≤ cp := by omega
  have hcp8 : 8 ≤ cp := by omega
  have hcpn : ¬ cp = 8 := by omega
  have hcp0 : ¬ cp = 0 := by omega
  have HDR : Hid (Below w1.heap.size w1 w1.drew) := (Below.refl _ _).drew
  have HKK : Hid (∀ wB, Below w1.heap.size w1 wB → ∃ i : KB w1 [gp], wB = i.v) := fun wB hb => ⟨⟨wB, fun x hx => by
    rw [show x = gp by simpa using hx]
    exact hb.block _ hgl⟩, rfl⟩
  refine wp_region_loud0 [true, false, true, true, false, false, false, false] [gp] (by kernel_rfl) (by kernel_rfl) (by kernel_rfl) (by kernel_rfl) (by kernel_rfl) (fun _ _ _ _ _ h => h) ?_
  simp only [qPick, lPick]
  repeat (go_big_quiet_step (fail))
  refine wpQuiet_nil ?_
  simp only [LoudW]
  go_wp2_with (go_at_call 69; refine (HK.out _ _ (HNK.out _ HDR.out)).mono ?_; rintro e w2 ⟨vk, rfl, hk, hb2⟩)
  have KV := hidD hk
  have HB2 : Hid (Below w1.heap.size w1 w2) := HDR.out.trans hb2
  clear hk hb2
  refine ⟨HKK.out _ HB2.out, ?_⟩
  go_wp2_with (go_at_call 69; refine (HH.out _ _ (HNH.out _ HB2.out)).mono ?_; rintro e w9 ⟨vh, rfl, hh, hb9⟩)
  have KH := hidD hh
  have KK := hidD (KV.out.below hb9)
  have HB9 := hidD (Below.next HB2.out hb9)
  clear hh hb9
  refine ⟨HKK.out _ HB9.out, ?_⟩
  go_wp2_with fail
  refine ⟨HKK.out _ HB9.out, ?_⟩
  go_wp2_with fail
  refine ⟨HKK.out _ HB9.out, ?_⟩
  go_wp2_with fail
  refine ⟨HKK.out _ HB9.out, ?_⟩
  go_wp2_with fail
  refine bodyPost_ret (v := .tuple #[vk, vh, .int .i64 0]) (by simp [results, Try.results56, go_sem]) rfl ⟨vk, vh, rfl, KK.out, KH.out, Below.next HB1.out HB9.out⟩
end Go.Proofs.Ytnldpofljeodiaa
/- What Constants of the document answers: 224, and no kind. -/
namespace Go.Proofs.Ytnldpofljeodiaa
open Go.RowKit
set_option linter.unusedVariables false

def HsAt (w : World) (g n : Nat) (F : Nat → Nat) : Prop := ∃ cur : Array Value, w.heap[g]? = some (.cells cur (41 : TypeId) (0, 0)) ∧ ∀ j, j < n → cur[j]? = some (.int .u64 (F j : Int))
theorem HsAt.lt {w : World} {g n : Nat} {F : Nat → Nat} (h : HsAt w g n F) : g < w.heap.size := by
  obtain ⟨cur, hg, _⟩ := h; exact row_lt hg
theorem HsAt.cell {w : World} {g n : Nat} {F : Nat → Nat} (h : HsAt w g n F) {k : Nat} (hk : k < n) : w.cell? ⟨g, k, none⟩ = some (.int .u64 (F k : Int)) ∧ w.frozen? ⟨g, k, none⟩ = false := by
  obtain ⟨cur, hg, hc⟩ := h
  exact ⟨by rw [cell_of_row _ _ _ _ _ _ hg]; exact hc k hk, frozen_of_row _ _ _ _ _ hg⟩
theorem HsAt.set {w : World} {g n : Nat} {F : Nat → Nat} (h : HsAt w g n F) {k : Nat} (hk : k < n) (v : Nat) : HsAt (w.setCell ⟨g, k, none⟩ (.int .u64 (v : Int))) g n (fun j => if j = k then v else F j) := by
  obtain ⟨cur, hg, hc⟩ := h
  refine ⟨_, heap_setCell_same w g k _ _ _ hg, fun j hj => ?_⟩
  rw [Array.getElem?_setIfInBounds]
  by_cases he : k = j
  · subst he
    have := (Array.getElem?_eq_some_iff.1 (hc k hj)).1
    show _ = some (Value.int .u64 ((if k = k then v else F k : Nat) : Int))
    rw [if_pos rfl, if_pos this, if_pos rfl]
  · show _ = some (Value.int .u64 ((if j = k then v else F j : Nat) : Int))
    rw [if_neg he, if_neg (Ne.symm he)]; exact hc j hj
theorem HsAt.next {w w' : World} {g n : Nat} {F : Nat → Nat} (h : HsAt w g n F) (hb : Below w.heap.size w w') : HsAt w' g n F := by
  have hl := h.lt
  obtain ⟨cur, hg, hc⟩ := h
  exact ⟨cur, (hb.block _ hl).trans hg, hc⟩
theorem HsAt.ns {w : World} {g n cap : Nat} {F : Nat → Nat} (h : HsAt w g n F) (hn : n ≤ cap) : NsAt w .u64 (.slice (some ⟨g, 0, none⟩) n cap) n F :=
  ⟨_, _, rfl, hn, fun k hk => ⟨g, 0, rfl, h.lt, by rw [Nat.zero_add]; exact (h.cell hk).1⟩⟩
theorem HsAt.own {w : World} {base n : Nat} {v : Value} {F : Nat → Nat} (h : w.ownsRow base 41 1 v n (rangeC .u64 F n)) (hn : 0 < n) : ∃ g cap, v = .slice (some ⟨g, 0, none⟩) n cap ∧ base ≤ g ∧ n ≤ cap ∧ HsAt w g n F := by
  rcases h.2 with ⟨rfl, h0⟩ | ⟨g, cap, cur, rfl, hb, hg, hc, _, hsz, htk⟩
  · omega
  · refine ⟨g, cap, rfl, hb, hc, cur, hg, fun j hj => ?_⟩
    have h1 : (List.take (n * 1) cur.toList)[j]? = some (.int .u64 (F j : Int)) := by
      rw [htk]; unfold rangeC; rw [List.getElem?_map, List.getElem?_range hj]; rfl
    rw [List.getElem?_take, if_pos (by omega), Array.getElem?_toList] at h1
    exact h1
theorem HsAt.congr {w : World} {g n : Nat} {F F' : Nat → Nat} (h : HsAt w g n F) (e : ∀ j, j < n → F j = F' j) : HsAt w g n F' := by
  obtain ⟨cur, hg, hc⟩ := h
  exact ⟨cur, hg, fun j hj => by rw [← e j hj]; exact hc j hj⟩
theorem and_low (x : Nat) (h : x < 18446744073709551616) : bits .and .u64 (x : Int) 4294967295 = ((x % 4294967296 : Nat) : Int) := by
  have e := u64_and_nat x 4294967295 h (by omega)
  rw [show x &&& 4294967295 = x % 4294967296 from Nat.and_two_pow_sub_one_eq_mod x 32] at e
  exact e
theorem fp_lt (p k b : Nat) (hb : b ≤ 64) : fpS p k b < 18446744073709551616 := Nat.lt_of_lt_of_le (pt_lt _ b) (show 2 ^ b ≤ 2 ^ 64 from Nat.pow_le_pow_right (by omega) hb)
def mkF (F : Nat → Nat) (i j : Nat) : Nat := if j < i then F j % 4294967296 else F j
set_option maxRecDepth 100000 in
set_option maxHeartbeats 3200000 in
theorem con6_224 (w : World) : Calls Try.prog 56 #[.int .i64 224] w fun e w' => ∃ vk vh, e = .returned (.tuple #[vk, vh, .int .i64 0]) ∧ NsAt w' .u64 vk 64 (coS 224) ∧ NsAt w' .u64 vh 8 (hS 224) ∧ Below w.heap.size w w' := by
  have HWD := hidD refWords6_any
  have HK : Hid (∀ (sl : Value) (w : World), NsAt w .u32 sl 64 prS → Calls Try.prog 69 #[sl, .int .i64 3, .int .i64 32] w fun e w' => ∃ v, e = .returned v ∧ NsAt w' .u64 v 64 (coS 224) ∧ Below w.heap.size w w') := fun sl w h => (parts6_any 3 32 64 prS (.inr rfl) (by omega) (by omega) (by omega) pr_lt sl w h).mono fun e w' ⟨v, he, ho, hb⟩ => ⟨v, he, (NsAt.row ho).congr fun j hj => (con_k32 ⟨j, hj⟩).1.trans (con_k32 ⟨j, hj⟩).2.symm, hb⟩
  have HH : Hid (∀ (sl : Value) (w : World), NsAt w .u32 sl 8 (fun j => prS (8 + j)) → Calls Try.prog 69 #[sl, .int .i64 2, .int .i64 64] w fun e w' => ∃ v, e = .returned v ∧ w'.ownsRow w.heap.size 41 1 v 8 (rangeC .u64 (fun j => fpS (prS (8 + j)) 2 64) 8) ∧ Below w.heap.size w w') := fun sl w h => parts6_any 2 64 8 (fun j => prS (8 + j)) (.inl rfl) (by omega) (by omega) (by omega) (fun j => pr_lt (8 + j)) sl w h
  have HFL : Hid (∀ j, fpS (prS (8 + j)) 2 64 < 18446744073709551616) := fun j => fp_lt _ _ _ (by omega)
  have HFE : Hid (∀ j, j < 8 → fpS (prS (8 + j)) 2 64 % 4294967296 = hS 224 j) := fun j hj => (con_h ⟨j, hj⟩).2.2.2
  obtain ⟨F, hF⟩ : ∃ F : Nat → Nat, (fun j => fpS (prS (8 + j)) 2 64) = F := ⟨_, rfl⟩
  have HF1 : Hid (∀ j, F j < 18446744073709551616) := fun j => by rw [← hF]; exact HFL.out j
  have HF2 : Hid (∀ j, j < 8 → F j % 4294967296 = hS 224 j) := fun j hj => by rw [← hF]; exact HFE.out j hj
  rw [hF] at HH
  clear hF HFL HFE
  go_enter Try.func56, Try.ntmps56
  go_wp2_with (first
    | (go_at_call 68; refine (HWD.out _).mono ?_; rintro e w1 ⟨v, rfl, hown, hb1⟩; obtain ⟨gp, cp, rfl, hgp, hgl, hcp⟩ := row_shapeC hown (by omega); have HB1 := hidD hb1; have HN1 := hidD (NsAt.row hown); have hcp64 : 64 ≤ cp := (by omega); have hcp16 : 16 ≤ cp := (by omega); have hcp8 : 8 ≤ cp := (by omega); have hcpn : ¬ cp = 8 := (by omega); have hcp0 : ¬ cp = 0 := (by omega); have HNH : Hid (NsAt w1 .u32 (.slice (some ⟨gp, 8, none⟩) 8 (cp - 8)) 8 (fun j => prS (8 + j))) := (show NsAt w1 .u32 (.slice (some ⟨gp, 0 + 8, none⟩) 8 (cp - 8)) 8 (fun j => prS (8 + j)) from HN1.out.cut 8 8 (by omega)); clear hown hb1)
    | (go_at_call 69; refine (HH.out _ _ HNH.out).mono ?_; rintro e w2 ⟨v, rfl, hown, hb2⟩; obtain ⟨gh, ch, rfl, hgh, hch, hhs⟩ := HsAt.own hown (by omega); have HB2 := hidD hb2; have HH2 := hidD hhs; have HGH := hidD hgh; clear hown hb2 hhs hgh HNH))
  have HNK : Hid (∀ wA, Below w1.heap.size w1 wA → NsAt wA .u32 (.slice (some ⟨gp, 0, none⟩) 64 cp) 64 prS) := fun wA h => ((HN1.out.below h).cut 0 64 (by omega)).congr fun j _ => by rw [Nat.zero_add]
  have HM0 : Hid (HsAt w2 gh 8 (mkF F 0)) := HH2.out.congr fun j _ => by unfold mkF; rw [if_neg (by omega)]
  clear HN1 HH2 HWD HH
  go_loopw [7] (fun iv wr => ∃ i : Nat, i ≤ 8 ∧ iv = .int .i64 (i : Int) ∧ HsAt wr gh 8 (mkF F i) ∧ Below w1.heap.size w1 wr) (fun iv _ => 8 - (intOf iv).toNat)
  case atStart => exact ⟨0, by omega, rfl, HM0.out, HB2.out⟩
  case round =>
    clear HM0 HB2
    obtain ⟨i, hi, rfl, hhs, hbel⟩ := hrel
    by_cases hlt : i < 8
    · have hlti : (i : Int) < 8 := by omega
      have hc1 := (hhs.cell hlt).1
      have hf1 := (hhs.cell hlt).2
      have hmk : mkF F i i = F i := by unfold mkF; rw [if_neg (by omega)]
      rw [hmk] at hc1
      have HS : Hid (HsAt (wr.setCell ⟨gh, i, none⟩ (.int .u64 ((F i % 4294967296 : Nat) : Int))) gh 8 (mkF F (i + 1))) := (hhs.set hlt _).congr fun j hj => by
        unfold mkF
        by_cases h : j = i
        · subst h; rw [if_pos rfl, if_pos (by omega)]
        · rw [if_neg h]
          by_cases h2 : j < i
          · rw [if_pos h2, if_pos (by omega)]
          · rw [if_neg h2, if_neg (by omega)]
      have HSB : Hid (Below w1.heap.size w1 (wr.setCell ⟨gh, i, none⟩ (.int .u64 ((F i % 4294967296 : Nat) : Int)))) := below_setCell hbel HGH.out i _
      have han := and_low (F i) (HF1.out i)
      have hfl := HF1.out i
      clear hhs hbel hmk
      generalize F i % 4294967296 = FM at *
      generalize F i = FI at *
      go_wp2_with fail
      go_roundw
      case rel =>
        first
        | exact ⟨i + 1, by omega, by go_num, HS.out, HSB.out⟩
        | ((repeat apply Exists.intro); refine And.intro ?_ rfl; exact ⟨i + 1, by omega, by go_num, HS.out, HSB.out⟩)
      case measure => simp [intOf]; omega
    · obtain rfl : i = 8 := by omega
      have HH8 : Hid (HsAt wr gh 8 (hS 224)) := hhs.congr fun j hj => by unfold mkF; rw [if_pos hj]; exact HF2.out j hj
      have HBW := hidD hbel
      have HNW := hidD (HNK.out _ hbel)
      clear hhs hbel
      go_wp2_with (go_at_call 69; refine (HK.out _ _ HNW.out).mono ?_; rintro e w9 ⟨vk, rfl, hk, hb9⟩; have KK := hidD hk; have KH := hidD ((HH8.out.next hb9).ns hch); have HB9 := hidD (Below.next HBW.out hb9); clear hk hb9)
      refine bodyPost_ret (v := .tuple #[vk, .slice (some ⟨gh, 0, none⟩) 8 ch, .int .i64 0]) (by simp [results, Try.results56, go_sem]) rfl ⟨vk, _, rfl, KK.out, KH.out, Below.next HB1.out HB9.out⟩
set_option maxRecDepth 100000 in
set_option maxHeartbeats 800000 in
theorem con6_no (x : Int) (h : x ≠ 224 ∧ x ≠ 256 ∧ x ≠ 384 ∧ x ≠ 512) (w : World) : Calls Try.prog 56 #[.int .i64 x] w fun e w' => e = .returned (.tuple #[.slice none 0 0, .slice none 0 0, .int .i64 1]) ∧ Below w.heap.size w w' := by
  have HWD := hidD refWords6_any
  obtain ⟨h1, h2, h3, h4⟩ := h
  have e1 : (x == 256) = false := by simp [h2]
  have e2 : (x == 224) = false := by simp [h1]
  have e3 : (x == 512) = false := by simp [h4]
  have e4 : (x == 384) = false := by simp [h3]
  clear h1 h2 h3 h4
  go_enter Try.func56, Try.ntmps56
  go_wp2_with (go_at_call 68; refine (HWD.out _).mono ?_; rintro e w1 ⟨v, rfl, hown, hb1⟩; have HB1 := hidD hb1; clear hown hb1)
  refine bodyPost_ret (v := .tuple #[.slice none 0 0, .slice none 0 0, .int .i64 1]) (by simp [results, Try.results56, go_sem]) rfl ⟨rfl, HB1.out⟩
theorem con6_any (k : Nat) (hk : Kind k) (w : World) : Calls Try.prog 56 #[.int .i64 (k : Int)] w fun e w' => ∃ vk vh, e = .returned (.tuple #[vk, vh, .int .i64 0]) ∧ NsAt w' .u64 vk (nkK k) (coS k) ∧ NsAt w' .u64 vh 8 (hS k) ∧ Below w.heap.size w w' := by
  rcases hk with rfl | rfl | rfl | rfl
  · exact con6_224 w
  · exact con6_256 w
  · exact con6_384 w
  · exact con6_512 w
end Go.Proofs.Ytnldpofljeodiaa
/- What Size, wide, cut, turn of the document's answer for layer 8 answer. -/
namespace Go.Proofs.Ytnldpofljeodiaa
open Go.RowKit
set_option linter.unusedVariables false

def KdAt (w : World) (g k : Nat) : Prop := g < w.heap.size ∧ w.cell? ⟨g, 0, none⟩ = some (.int .i64 (k : Int))
theorem KdAt.next {w w' : World} {g k : Nat} (h : KdAt w g k) (hb : Below w.heap.size w w') : KdAt w' g k := ⟨Nat.lt_of_lt_of_le h.1 hb.size, (hb.cell (p := ⟨g, 0, none⟩) h.1).trans h.2⟩
set_option maxRecDepth 100000 in
theorem rWide_any (g k : Nat) (hk : k ≤ 512) (w : World) (h : KdAt w g k) : Calls Try.prog 76 #[.pointer (some ⟨g, 0, none⟩)] w fun e w' => e = .returned (.bool (decide (256 < k))) ∧ w' = w := by
  have hc := h.2
  by_cases hw : 256 < k
  · have hwi : (256 : Int) < (k : Int) := by omega
    have hd : decide (256 < k) = true := decide_eq_true hw
    rw [hd]
    clear hd
    go_enter Try.func76, Try.ntmps76
    go_wp2_with fail
    go_ret
    exact ⟨by first | rfl | simp [hw], rfl⟩
  · have hwi : ¬ (256 : Int) < (k : Int) := by omega
    have hd : decide (256 < k) = false := decide_eq_false hw
    rw [hd]
    clear hd
    go_enter Try.func76, Try.ntmps76
    go_wp2_with fail
    go_ret
    exact ⟨by first | rfl | simp [hw], rfl⟩
set_option maxRecDepth 100000 in
theorem rCut_any (g k : Nat) (hk : k ≤ 512) (v : Nat) (hv : v < 18446744073709551616) (w : World) (h : KdAt w g k) : Calls Try.prog 66 #[.pointer (some ⟨g, 0, none⟩), .int .u64 (v : Int)] w fun e w' => e = .returned (.int .u64 ((v % mdK k : Nat) : Int)) ∧ w' = w := by
  have HW := hidD (rWide_any g k hk w h)
  by_cases hw : 256 < k
  · have hm : v % mdK k = v := by unfold mdK; rw [if_pos hw]; exact Nat.mod_eq_of_lt hv
    rw [hm]
    rw [decide_eq_true hw] at HW
    clear hm h
    go_enter Try.func66, Try.ntmps66
    go_wp2_with (go_at_call 76; refine HW.out.mono ?_; rintro e wz ⟨rfl, hwz⟩; subst wz)
    go_ret
    exact ⟨rfl, rfl⟩
  · have hm : v % mdK k = v % 4294967296 := by unfold mdK; rw [if_neg hw]
    rw [hm]
    rw [decide_eq_false hw] at HW
    have han := and_low v hv
    clear hm h
    generalize v % 4294967296 = vm at *
    go_enter Try.func66, Try.ntmps66
    go_wp2_with (go_at_call 76; refine HW.out.mono ?_; rintro e wz ⟨rfl, hwz⟩; subst wz)
    go_ret
    exact ⟨rfl, rfl⟩
def wdt (k : Nat) : Nat := if 256 < k then 64 else 32
theorem mdK_two (k : Nat) : mdK k = 2 ^ wdt k := by unfold mdK wdt; split <;> rfl
set_option maxRecDepth 100000 in
set_option maxHeartbeats 800000 in
theorem rTurn_any (g k : Nat) (hk : k ≤ 512) (v n : Nat) (hv : v < mdK k) (hn : n ≤ wdt k) (w : World) (h : KdAt w g k) : Calls Try.prog 77 #[.pointer (some ⟨g, 0, none⟩), .int .u64 (v : Int), .int .i64 (n : Int)] w fun e w' => e = .returned (.int .u64 (rotr (wdt k) v n : Int)) ∧ w' = w := by
  have HW := hidD (rWide_any g k hk w h)
  by_cases hw : 256 < k
  · have e64 : wdt k = 64 := if_pos hw
    have hv : v < 18446744073709551616 := by rw [mdK, if_pos hw] at hv; exact hv
    rw [e64] at hn ⊢
    rw [decide_eq_true hw] at HW
    clear h e64
    have hsub : (64 : Int) - (n : Int) = ((64 - n : Nat) : Int) := by omega
    have hor : bits .or .u64 ((v : Int) / 2 ^ n) (IntKind.u64.wrap ((v : Int) * 2 ^ (64 - n))) = (rotr 64 v n : Int) := by
      rw [show IntKind.u64.wrap ((v : Int) * 2 ^ (64 - n)) = (v : Int) * 2 ^ (64 - n) % 18446744073709551616 from rfl]
      rw [show (v : Int) / 2 ^ n = ((v / 2 ^ n : Nat) : Int) by simp, show (v : Int) * 2 ^ (64 - n) % 18446744073709551616 = ((v * 2 ^ (64 - n) % 18446744073709551616 : Nat) : Int) by simp, u64_or_nat _ _ (Nat.lt_of_le_of_lt (Nat.div_le_self _ _) hv) (Nat.mod_lt _ (by omega))]; rfl
    have hm : 64 - n ≤ 64 := by omega
    generalize 64 - n = m at *
    generalize (rotr 64 v n : Int) = R at *
    go_enter Try.func77, Try.ntmps77
    go_wp2_with (go_at_call 76; refine HW.out.mono ?_; rintro e wz ⟨rfl, hwz⟩; subst wz)
    go_ret
    exact ⟨rfl, rfl⟩
  · have e32 : wdt k = 32 := if_neg hw
    have hv : v < 4294967296 := by rw [mdK, if_neg hw] at hv; exact hv
    rw [e32] at hn ⊢
    rw [decide_eq_false hw] at HW
    clear h e32
    have hsub : (32 : Int) - (n : Int) = ((32 - n : Nat) : Int) := by omega
    have hm : 32 - n ≤ 32 := by omega
    have hrot : (v / 2 ^ n ||| v * 2 ^ (32 - n)) % 4294967296 = rotr 32 v n := by
      rw [show (4294967296 : Nat) = 2 ^ 32 from rfl, Nat.or_mod_two_pow, Nat.mod_eq_of_lt (a := v / 2 ^ n) (Nat.lt_of_le_of_lt (Nat.div_le_self _ _) hv)]; rfl
    have hml : v * 2 ^ (32 - n) < 18446744073709551616 := by
      have h1 : 2 ^ (32 - n) ≤ 2 ^ 32 := Nat.pow_le_pow_right (by omega) hm
      have h2 : v * 2 ^ (32 - n) ≤ v * 2 ^ 32 := Nat.mul_le_mul_left _ h1
      omega
    have hdl : v / 2 ^ n < 18446744073709551616 := Nat.lt_of_le_of_lt (Nat.div_le_self _ _) (by omega)
    have hwr : IntKind.u64.wrap ((v : Int) * 2 ^ (32 - n)) = ((v * 2 ^ (32 - n) : Nat) : Int) := by
      rw [show (v : Int) * 2 ^ (32 - n) = ((v * 2 ^ (32 - n) : Nat) : Int) by simp, IntKind.wrap_u64]
      generalize v * 2 ^ (32 - n) = S at hml
      omega
    have hor : bits .or .u64 ((v : Int) / 2 ^ n) ((v * 2 ^ (32 - n) : Nat) : Int) = ((v / 2 ^ n ||| v * 2 ^ (32 - n) : Nat) : Int) := by
      rw [show (v : Int) / 2 ^ n = ((v / 2 ^ n : Nat) : Int) by simp, u64_or_nat _ _ hdl hml]
    have han := and_low (v / 2 ^ n ||| v * 2 ^ (32 - n)) (Nat.or_lt_two_pow (n := 64) hdl hml)
    rw [hrot] at han
    clear hrot hdl
    generalize v / 2 ^ n ||| v * 2 ^ (32 - n) = O at *
    generalize v * 2 ^ (32 - n) = S at *
    generalize 32 - n = m at *
    generalize (rotr 32 v n : Int) = R at *
    go_enter Try.func77, Try.ntmps77
    go_wp2_with (go_at_call 76; refine HW.out.mono ?_; rintro e wz ⟨rfl, hwz⟩; subst wz)
    go_ret
    exact ⟨rfl, rfl⟩
end Go.Proofs.Ytnldpofljeodiaa
