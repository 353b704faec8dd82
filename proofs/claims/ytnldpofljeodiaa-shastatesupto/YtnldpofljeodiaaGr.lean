/- Texts of one proof, one behind the other. -/
import Derived.Test.YtnldpofljeodiaaGg
import Derived.Test.YtnldpofljeodiaaSt9
import Derived.Test.YtnldpofljeodiaaSt8
import Derived.Test.YtnldpofljeodiaaCt
import Derived.Test.YtnldpofljeodiaaGn
import Derived.Test.YtnldpofljeodiaaGq
import Derived.Laws.Pointers
import Derived.Laws.Unary
/- What Constants and Begin of the document answer, and what blocks their words lie in. -/
namespace Go.Proofs.Ytnldpofljeodiaa
open Go.RowKit
set_option linter.unusedVariables false

/- a block of words -/
def TyB (w : World) (g : Nat) : Prop := ∃ cur : Array Value, w.heap[g]? = some (.cells cur (41 : TypeId) (0, 0))
theorem TyB.lt {w : World} {g : Nat} (h : TyB w g) : g < w.heap.size := by
  obtain ⟨cur, h⟩ := h; exact row_lt h
theorem TyB.next {w w' : World} {g : Nat} (h : TyB w g) (hb : Below w.heap.size w w') : TyB w' g := by
  have hl := h.lt
  obtain ⟨cur, h⟩ := h
  exact ⟨cur, (hb.block _ hl).trans h⟩
theorem TyB.but {w w' : World} {g q : Nat} (h : TyB w g) (hb : But q w w') (hne : g ≠ q) : TyB w' g := by
  have hl := h.lt
  obtain ⟨cur, h⟩ := h
  exact ⟨cur, (hb.rest _ hl hne).trans h⟩
theorem TyB.ne {w : World} {g q : Nat} {cs : Array Value} {ty : TypeId} {m : Nat × Nat} (h : TyB w g) (hq : w.heap[q]? = some (.cells cs ty m)) (hty : ty ≠ 41) : g ≠ q := by
  rintro rfl
  obtain ⟨cur, h⟩ := h
  rw [h] at hq
  cases hq
  exact hty rfl
def NsT (w : World) (sl : Value) (n : Nat) (f : Nat → Nat) : Prop := NsAt w .u64 sl n f ∧ ∀ g o m c, sl = .slice (some ⟨g, o, none⟩) m c → TyB w g
theorem NsT.below {w w' : World} {sl : Value} {n : Nat} {f : Nat → Nat} (h : NsT w sl n f) (hb : Below w.heap.size w w') : NsT w' sl n f := ⟨h.1.below hb, fun g o m c he => (h.2 g o m c he).next hb⟩
theorem NsT.congr {w : World} {sl : Value} {n : Nat} {f h : Nat → Nat} (hs : NsT w sl n f) (e : ∀ j, j < n → f j = h j) : NsT w sl n h := ⟨hs.1.congr e, hs.2⟩
theorem TyB.row {w : World} {base n : Nat} {v : Value} {xs : List Value} (h : w.ownsRow base 41 1 v n xs) : ∀ g o m c, v = .slice (some ⟨g, o, none⟩) m c → TyB w g := fun g o m c he => by
  rcases h.2 with ⟨h', _⟩ | ⟨g', cap, cur, h', _, hg, _⟩
  · rw [h'] at he; cases he
  · rw [h'] at he; cases he; exact ⟨cur, hg⟩
theorem NsT.row {w : World} {base n : Nat} {v : Value} {f : Nat → Nat} (h : w.ownsRow base 41 1 v n (rangeC .u64 f n)) : NsT w v n f := ⟨NsAt.row h, TyB.row h⟩
theorem HsAt.nsT {w : World} {g n cap : Nat} {F : Nat → Nat} (h : HsAt w g n F) (hn : n ≤ cap) : NsT w (.slice (some ⟨g, 0, none⟩) n cap) n F := ⟨h.ns hn, fun g' o m c he => by
  cases he
  obtain ⟨cur, hg, _⟩ := h
  exact ⟨cur, hg⟩⟩
theorem NsAt.but {w w' : World} {kd : IntKind} {g0 o n cap q : Nat} {f : Nat → Nat} (h : NsAt w kd (.slice (some ⟨g0, o, none⟩) n cap) n f) (hb : But q w w') (hne : g0 ≠ q) : NsAt w' kd (.slice (some ⟨g0, o, none⟩) n cap) n f := by
  obtain ⟨a, c, he, hc, hh⟩ := h
  cases he
  refine ⟨_, _, rfl, hc, fun j hj => ?_⟩
  obtain ⟨g', o', he', h1, h2⟩ := hh j hj
  cases he'
  exact ⟨_, _, rfl, Nat.lt_of_lt_of_le h1 hb.bel.size, (hb.cell h1 hne).trans h2⟩
def HfT (w : World) (g k : Nat) (c : Nat → Nat) (A : Nat) (vb : Value) : Prop := ∃ gk ok ck gh oh ch, HaAt w g k (.slice (some ⟨gk, ok, none⟩) (nkK k) ck) (.slice (some ⟨gh, oh, none⟩) 8 ch) A vb ∧ NsAt w .u64 (.slice (some ⟨gk, ok, none⟩) (nkK k) ck) (nkK k) (coS k) ∧ NsAt w .u64 (.slice (some ⟨gh, oh, none⟩) 8 ch) 8 c ∧ TyB w gk ∧ TyB w gh
theorem HfT.hf {w : World} {g k A : Nat} {c : Nat → Nat} {vb : Value} (h : HfT w g k c A vb) : HfAt w g k c A vb := by
  obtain ⟨gk, ok, ck, gh, oh, ch, h1, h2, h3, h4, h5⟩ := h
  exact ⟨gk, ok, ck, gh, oh, ch, h1, h2, h3, h4.ne h1 (by decide), h5.ne h1 (by decide)⟩
theorem HfT.next {w w' : World} {g k A : Nat} {c : Nat → Nat} {vb : Value} (h : HfT w g k c A vb) (hb : Below w.heap.size w w') : HfT w' g k c A vb := by
  obtain ⟨gk, ok, ck, gh, oh, ch, h1, h2, h3, h4, h5⟩ := h
  exact ⟨gk, ok, ck, gh, oh, ch, h1.next hb, h2.below hb, h3.below hb, h4.next hb, h5.next hb⟩
theorem HfT.lt {w : World} {g k A : Nat} {c : Nat → Nat} {vb : Value} (h : HfT w g k c A vb) : g < w.heap.size := h.hf.lt
theorem HfT.cells {w : World} {g k A : Nat} {c : Nat → Nat} {vb : Value} (h : HfT w g k c A vb) : w.cell? ⟨g, 4, none⟩ = some vb ∧ w.cell? ⟨g, 3, none⟩ = some (.int .u64 (A : Int)) ∧ (∃ v, w.cell? ⟨g, 2, none⟩ = some v) ∧ ∀ q, w.frozen? ⟨g, q, none⟩ = false := h.hf.cells
/- another block, of another kind, is written -/
theorem HfT.but {w w' : World} {g k A q : Nat} {c : Nat → Nat} {vb : Value} (h : HfT w g k c A vb) (hb : But q w w') {cs : Array Value} {ty : TypeId} {m : Nat × Nat} (hq : w.heap[q]? = some (.cells cs ty m)) (hty : ty ≠ 41) (hne : g ≠ q) : HfT w' g k c A vb := by
  obtain ⟨gk, ok, ck, gh, oh, ch, h1, h2, h3, h4, h5⟩ := h
  exact ⟨gk, ok, ck, gh, oh, ch, (hb.rest _ (row_lt h1) hne).trans h1, h2.but hb (h4.ne hq hty), h3.but hb (h5.ne hq hty), h4.but hb (h4.ne hq hty), h5.but hb (h5.ne hq hty)⟩
theorem HfT.put {w : World} {g k A : Nat} {c : Nat → Nat} {vb : Value} (h : HfT w g k c A vb) (i : Nat) (u : Value) (A' : Nat) (vb' : Value) (he : ∀ v1 v2 : Value, (#[.int .i64 (k : Int), v1, v2, .int .u64 (A : Int), vb] : Array Value).setIfInBounds i u = #[.int .i64 (k : Int), v1, v2, .int .u64 (A' : Int), vb']) : HfT (w.setCell ⟨g, i, none⟩ u) g k c A' vb' := by
  obtain ⟨gk, ok, ck, gh, oh, ch, h1, h2, h3, h4, h5⟩ := h
  have n1 := h4.ne h1 (by decide)
  have n2 := h5.ne h1 (by decide)
  have hb : But g w (w.setCell ⟨g, i, none⟩ u) := (But.refl g w).put i u
  refine ⟨gk, ok, ck, gh, oh, ch, ?_, h2.other n1 _, h3.other n2 _, h4.but hb n1, h5.but hb n2⟩
  have := heap_setCell_same w g i _ _ u h1
  rw [he] at this
  exact this
theorem HfT.setB {w : World} {g k A : Nat} {c : Nat → Nat} {vb : Value} (h : HfT w g k c A vb) (vb' : Value) : HfT (w.setCell ⟨g, 4, none⟩ vb') g k c A vb' := h.put 4 vb' A vb' fun _ _ => rfl
theorem HfT.setA {w : World} {g k A : Nat} {c : Nat → Nat} {vb : Value} (h : HfT w g k c A vb) (A' : Nat) : HfT (w.setCell ⟨g, 3, none⟩ (.int .u64 (A' : Int))) g k c A' vb := h.put 3 _ A' vb fun _ _ => rfl
theorem HfT.setH {w : World} {g k A : Nat} {c c' : Nat → Nat} {vb : Value} (h : HfT w g k c A vb) {gh oh ch : Nat} (hn : NsAt w .u64 (.slice (some ⟨gh, oh, none⟩) 8 ch) 8 c') (ht : TyB w gh) : HfT (w.setCell ⟨g, 2, none⟩ (.slice (some ⟨gh, oh, none⟩) 8 ch)) g k c' A vb := by
  obtain ⟨gk, ok, ck, gh', oh', ch', h1, h2, h3, h4, h5⟩ := h
  have n1 := h4.ne h1 (by decide)
  have n2 := ht.ne h1 (by decide)
  have hb : But g w (w.setCell ⟨g, 2, none⟩ (.slice (some ⟨gh, oh, none⟩) 8 ch)) := (But.refl g w).put 2 _
  exact ⟨gk, ok, ck, gh, oh, ch, heap_setCell_same w g 2 _ _ _ h1, h2.other n1 _, hn.other n2 _, h4.but hb n1, ht.but hb n2⟩
set_option maxRecDepth 100000 in
set_option maxHeartbeats 3200000 in
theorem con6t_256 (w : World) : Calls Try.prog 56 #[.int .i64 256] w fun e w' => ∃ vk vh, e = .returned (.tuple #[vk, vh, .int .i64 0]) ∧ NsT w' vk 64 (coS 256) ∧ NsT w' vh 8 (hS 256) ∧ Below w.heap.size w w' := by
  have HWD := hidD refWords6_any
  have HK : Hid (∀ (sl : Value) (w : World), NsAt w .u32 sl 64 prS → Calls Try.prog 69 #[sl, .int .i64 3, .int .i64 32] w fun e w' => ∃ v, e = .returned v ∧ NsT w' v 64 (coS 256) ∧ Below w.heap.size w w') := fun sl w h => (parts6_any 3 32 64 prS (.inr rfl) (by omega) (by omega) (by omega) pr_lt sl w h).mono fun e w' ⟨v, he, ho, hb⟩ => ⟨v, he, (NsT.row ho).congr fun j hj => (con_k32 ⟨j, hj⟩).1, hb⟩
  have HH : Hid (∀ (sl : Value) (w : World), NsAt w .u32 sl 8 prS → Calls Try.prog 69 #[sl, .int .i64 2, .int .i64 32] w fun e w' => ∃ v, e = .returned v ∧ NsT w' v 8 (hS 256) ∧ Below w.heap.size w w') := fun sl w h => (parts6_any 2 32 8 prS (.inl rfl) (by omega) (by omega) (by omega) pr_lt sl w h).mono fun e w' ⟨v, he, ho, hb⟩ => ⟨v, he, (NsT.row ho).congr fun j hj => (con_h ⟨j, hj⟩).1, hb⟩
  go_enter Try.func56, Try.ntmps56
  go_wp2_with (go_at_call 68; refine (HWD.out _).mono ?_; rintro e w1 ⟨v, rfl, hown, hb1⟩; obtain ⟨gp, cp, rfl, hgp, hgl, hcp⟩ := row_shapeC hown (by omega); have HB1 := hidD hb1; have HN1 := hidD (NsAt.row hown); clear hown hb1)
  have HNK : Hid (∀ wA, Below w1.heap.size w1 wA → NsAt wA .u32 (.slice (some ⟨gp, 0, none⟩) 64 cp) 64 prS) := fun wA h => ((HN1.out.below h).cut 0 64 (by omega)).congr fun j _ => by rw [Nat.zero_add]
  have HNH : Hid (∀ wA, Below w1.heap.size w1 wA → NsAt wA .u32 (.slice (some ⟨gp, 0, none⟩) 8 cp) 8 prS) := fun wA h => ((HN1.out.below h).cut 0 8 (by omega)).congr fun j _ => by rw [Nat.zero_add]
  have hcp64 : 64 ≤ cp := by omega
  have hcp16 : 16 ≤ cp := by omega
  have hcp8 : 8 ≤ cp := by omega
  have hcpn : ¬ cp = 8 := by omega
  have hcp0 : ¬ cp = 0 := by omega
  have HDR : Hid (Below w1.heap.size w1 w1.drew) := (Below.refl _ _).drew
  have HKK : Hid (∀ wB, Below w1.heap.size w1 wB → ∃ i : KB w1 [gp], wB = i.v) := fun wB hb => ⟨⟨wB, fun x hx => by
    rw [show x = gp by simpa using hx]
    exact hb.block _ hgl⟩, rfl⟩
  refine wp_region_loud0 [true, true, false, true, true, false, false, false, false] [gp] (by kernel_rfl) (by kernel_rfl) (by kernel_rfl) (by kernel_rfl) (by kernel_rfl) (fun _ _ _ _ _ h => h) ?_
  simp only [qPick, lPick]
  repeat (go_big_quiet_step (fail))
  refine wpQuiet_nil ?_
  simp only [LoudW]
  go_wp2_with (go_at_call 69; refine (HK.out _ _ (HNK.out _ HDR.out)).mono ?_; rintro e w2 ⟨vk, rfl, hk, hb2⟩)
  have KV := hidD hk
  have HB2 : Hid (Below w1.heap.size w1 w2) := HDR.out.trans hb2
  clear hk hb2
  refine ⟨HKK.out _ HB2.out, ?_⟩
  go_wp2_with (go_at_call 69; refine (HH.out _ _ (HNH.out _ HB2.out)).mono ?_; rintro e w9 ⟨vh, rfl, hh, hb9⟩)
  have KH := hidD hh
  have KK := hidD (KV.out.below hb9)
  have HB9 := hidD (Below.next HB2.out hb9)
  clear hh hb9
  refine ⟨HKK.out _ HB9.out, ?_⟩
  go_wp2_with fail
  refine ⟨HKK.out _ HB9.out, ?_⟩
  go_wp2_with fail
  refine ⟨HKK.out _ HB9.out, ?_⟩
  go_wp2_with fail
  refine ⟨HKK.out _ HB9.out, ?_⟩
  go_wp2_with fail
  refine bodyPost_ret (v := .tuple #[vk, vh, .int .i64 0]) (by simp [results, Try.results56, go_sem]) rfl ⟨vk, vh, rfl, KK.out, KH.out, Below.next HB1.out HB9.out⟩
set_option maxRecDepth 100000 in
set_option maxHeartbeats 3200000 in
theorem con6t_512 (w : World) : Calls Try.prog 56 #[.int .i64 512] w fun e w' => ∃ vk vh, e = .returned (.tuple #[vk, vh, .int .i64 0]) ∧ NsT w' vk 80 (coS 512) ∧ NsT w' vh 8 (hS 512) ∧ Below w.heap.size w w' := by
  have HWD := hidD refWords6_any
  have HK : Hid (∀ (sl : Value) (w : World), NsAt w .u32 sl 80 prS → Calls Try.prog 69 #[sl, .int .i64 3, .int .i64 64] w fun e w' => ∃ v, e = .returned v ∧ NsT w' v 80 (coS 512) ∧ Below w.heap.size w w') := fun sl w h => (parts6_any 3 64 80 prS (.inr rfl) (by omega) (by omega) (by omega) pr_lt sl w h).mono fun e w' ⟨v, he, ho, hb⟩ => ⟨v, he, (NsT.row ho).congr fun j hj => (con_k64 ⟨j, hj⟩).1, hb⟩
  have HH : Hid (∀ (sl : Value) (w : World), NsAt w .u32 sl 8 prS → Calls Try.prog 69 #[sl, .int .i64 2, .int .i64 64] w fun e w' => ∃ v, e = .returned v ∧ NsT w' v 8 (hS 512) ∧ Below w.heap.size w w') := fun sl w h => (parts6_any 2 64 8 prS (.inl rfl) (by omega) (by omega) (by omega) pr_lt sl w h).mono fun e w' ⟨v, he, ho, hb⟩ => ⟨v, he, (NsT.row ho).congr fun j hj => (con_h ⟨j, hj⟩).2.1, hb⟩
  go_enter Try.func56, Try.ntmps56
  go_wp2_with (go_at_call 68; refine (HWD.out _).mono ?_; rintro e w1 ⟨v, rfl, hown, hb1⟩; obtain ⟨gp, cp, rfl, hgp, hgl, hcp⟩ := row_shapeC hown (by omega); have HB1 := hidD hb1; have HN1 := hidD (NsAt.row hown); clear hown hb1)
  have HNK : Hid (∀ wA, Below w1.heap.size w1 wA → NsAt wA .u32 (.slice (some ⟨gp, 0, none⟩) 80 cp) 80 prS) := fun wA h => HN1.out.below h
  have HNH : Hid (∀ wA, Below w1.heap.size w1 wA → NsAt wA .u32 (.slice (some ⟨gp, 0, none⟩) 8 cp) 8 prS) := fun wA h => ((HN1.out.below h).cut 0 8 (by omega)).congr fun j _ => by rw [Nat.zero_add]
  have hcp64 : 64 ≤ cp := by omega
  have hcp16 : 16 ≤ cp := by omega
  have hcp8 : 8 ≤ cp := by omega
  have hcpn : ¬ cp = 8 := by omega
  have hcp0 : ¬ cp = 0 := by omega
  have HDR : Hid (Below w1.heap.size w1 w1.drew) := (Below.refl _ _).drew
  have HKK : Hid (∀ wB, Below w1.heap.size w1 wB → ∃ i : KB w1 [gp], wB = i.v) := fun wB hb => ⟨⟨wB, fun x hx => by
    rw [show x = gp by simpa using hx]
    exact hb.block _ hgl⟩, rfl⟩
  refine wp_region_loud0 [true, false, true, true, false, false, false, false] [gp] (by kernel_rfl) (by kernel_rfl) (by kernel_rfl) (by kernel_rfl) (by kernel_rfl) (fun _ _ _ _ _ h => h) ?_
  simp only [qPick, lPick]
  repeat (go_big_quiet_step (fail))
  refine wpQuiet_nil ?_
  simp only [LoudW]
  go_wp2_with (go_at_call 69; refine (HK.out _ _ (HNK.out _ HDR.out)).mono ?_; rintro e w2 ⟨vk, rfl, hk, hb2⟩)
  have KV := hidD hk
  have HB2 : Hid (Below w1.heap.size w1 w2) := HDR.out.trans hb2
  clear hk hb2
  refine ⟨HKK.out _ HB2.out, ?_⟩
  go_wp2_with (go_at_call 69; refine (HH.out _ _ (HNH.out _ HB2.out)).mono ?_; rintro e w9 ⟨vh, rfl, hh, hb9⟩)
  have KH := hidD hh
  have KK := hidD (KV.out.below hb9)
  have HB9 := hidD (Below.next HB2.out hb9)
  clear hh hb9
  refine ⟨HKK.out _ HB9.out, ?_⟩
  go_wp2_with fail
  refine ⟨HKK.out _ HB9.out, ?_⟩
  go_wp2_with fail
  refine ⟨HKK.out _ HB9.out, ?_⟩
  go_wp2_with fail
  refine ⟨HKK.out _ HB9.out, ?_⟩
  go_wp2_with fail
  refine bodyPost_ret (v := .tuple #[vk, vh, .int .i64 0]) (by simp [results, Try.results56, go_sem]) rfl ⟨vk, vh, rfl, KK.out, KH.out, Below.next HB1.out HB9.out⟩
set_option maxRecDepth 100000 in
set_option maxHeartbeats 3200000 in
theorem con6t_384 (w : World) : Calls Try.prog 56 #[.int .i64 384] w fun e w' => ∃ vk vh, e = .returned (.tuple #[vk, vh, .int .i64 0]) ∧ NsT w' vk 80 (coS 384) ∧ NsT w' vh 8 (hS 384) ∧ Below w.heap.size w w' := by
  have HWD := hidD refWords6_any
  have HK : Hid (∀ (sl : Value) (w : World), NsAt w .u32 sl 80 prS → Calls Try.prog 69 #[sl, .int .i64 3, .int .i64 64] w fun e w' => ∃ v, e = .returned v ∧ NsT w' v 80 (coS 384) ∧ Below w.heap.size w w') := fun sl w h => (parts6_any 3 64 80 prS (.inr rfl) (by omega) (by omega) (by omega) pr_lt sl w h).mono fun e w' ⟨v, he, ho, hb⟩ => ⟨v, he, (NsT.row ho).congr fun j hj => (con_k64 ⟨j, hj⟩).1.trans (con_k64 ⟨j, hj⟩).2.symm, hb⟩
  have HH : Hid (∀ (sl : Value) (w : World), NsAt w .u32 sl 8 (fun j => prS (8 + j)) → Calls Try.prog 69 #[sl, .int .i64 2, .int .i64 64] w fun e w' => ∃ v, e = .returned v ∧ NsT w' v 8 (hS 384) ∧ Below w.heap.size w w') := fun sl w h => (parts6_any 2 64 8 (fun j => prS (8 + j)) (.inl rfl) (by omega) (by omega) (by omega) (fun j => pr_lt (8 + j)) sl w h).mono fun e w' ⟨v, he, ho, hb⟩ => ⟨v, he, (NsT.row ho).congr fun j hj => (con_h ⟨j, hj⟩).2.2.1, hb⟩
  go_enter Try.func56, Try.ntmps56
  go_wp2_with (go_at_call 68; refine (HWD.out _).mono ?_; rintro e w1 ⟨v, rfl, hown, hb1⟩; obtain ⟨gp, cp, rfl, hgp, hgl, hcp⟩ := row_shapeC hown (by omega); have HB1 := hidD hb1; have HN1 := hidD (NsAt.row hown); clear hown hb1)
  have HNK : Hid (∀ wA, Below w1.heap.size w1 wA → NsAt wA .u32 (.slice (some ⟨gp, 0, none⟩) 80 cp) 80 prS) := fun wA h => HN1.out.below h
  have HNH : Hid (∀ wA, Below w1.heap.size w1 wA → NsAt wA .u32 (.slice (some ⟨gp, 8, none⟩) 8 (cp - 8)) 8 (fun j => prS (8 + j))) := fun wA h => (show NsAt wA .u32 (.slice (some ⟨gp, 0 + 8, none⟩) 8 (cp - 8)) 8 (fun j => prS (8 + j)) from (HN1.out.below h).cut 8 8 (by omega))
  have hcp64 : 64 ≤ cp := by omega
  have hcp16 : 16 ≤ cp := by omega
  have hcp8 : 8 ≤ cp := by omega
  have hcpn : ¬ cp = 8 := by omega
  have hcp0 : ¬ cp = 0 := by omega
  have HDR : Hid (Below w1.heap.size w1 w1.drew) := (Below.refl _ _).drew
  have HKK : Hid (∀ wB, Below w1.heap.size w1 wB → ∃ i : KB w1 [gp], wB = i.v) := fun wB hb => ⟨⟨wB, fun x hx => by
    rw [show x = gp by simpa using hx]
    exact hb.block _ hgl⟩, rfl⟩
  refine wp_region_loud0 [true, false, true, true, false, false, false, false] [gp] (by kernel_rfl) (by kernel_rfl) (by kernel_rfl) (by kernel_rfl) (by kernel_rfl) (fun _ _ _ _ _ h => h) ?_
  simp only [qPick, lPick]
  repeat (go_big_quiet_step (fail))
  refine wpQuiet_nil ?_
  simp only [LoudW]
  go_wp2_with (go_at_call 69; refine (HK.out _ _ (HNK.out _ HDR.out)).mono ?_; rintro e w2 ⟨vk, rfl, hk, hb2⟩)
  have KV := hidD hk
  have HB2 : Hid (Below w1.heap.size w1 w2) := HDR.out.trans hb2
  clear hk hb2
  refine ⟨HKK.out _ HB2.out, ?_⟩
  go_wp2_with (go_at_call 69; refine (HH.out _ _ (HNH.out _ HB2.out)).mono ?_; rintro e w9 ⟨vh, rfl, hh, hb9⟩)
  have KH := hidD hh
  have KK := hidD (KV.out.below hb9)
  have HB9 := hidD (Below.next HB2.out hb9)
  clear hh hb9
  refine ⟨HKK.out _ HB9.out, ?_⟩
  go_wp2_with fail
  refine ⟨HKK.out _ HB9.out, ?_⟩
  go_wp2_with fail
  refine ⟨HKK.out _ HB9.out, ?_⟩
  go_wp2_with fail
  refine ⟨HKK.out _ HB9.out, ?_⟩
  go_wp2_with fail
  refine bodyPost_ret (v := .tuple #[vk, vh, .int .i64 0]) (by simp [results, Try.results56, go_sem]) rfl ⟨vk, vh, rfl, KK.out, KH.out, Below.next HB1.out HB9.out⟩
set_option maxRecDepth 100000 in
set_option maxHeartbeats 3200000 in
theorem con6t_224 (w : World) : Calls Try.prog 56 #[.int .i64 224] w fun e w' => ∃ vk vh, e = .returned (.tuple #[vk, vh, .int .i64 0]) ∧ NsT w' vk 64 (coS 224) ∧ NsT w' vh 8 (hS 224) ∧ Below w.heap.size w w' := by
  have HWD := hidD refWords6_any
  have HK : Hid (∀ (sl : Value) (w : World), NsAt w .u32 sl 64 prS → Calls Try.prog 69 #[sl, .int .i64 3, .int .i64 32] w fun e w' => ∃ v, e = .returned v ∧ NsT w' v 64 (coS 224) ∧ Below w.heap.size w w') := fun sl w h => (parts6_any 3 32 64 prS (.inr rfl) (by omega) (by omega) (by omega) pr_lt sl w h).mono fun e w' ⟨v, he, ho, hb⟩ => ⟨v, he, (NsT.row ho).congr fun j hj => (con_k32 ⟨j, hj⟩).1.trans (con_k32 ⟨j, hj⟩).2.symm, hb⟩
  have HH : Hid (∀ (sl : Value) (w : World), NsAt w .u32 sl 8 (fun j => prS (8 + j)) → Calls Try.prog 69 #[sl, .int .i64 2, .int .i64 64] w fun e w' => ∃ v, e = .returned v ∧ w'.ownsRow w.heap.size 41 1 v 8 (rangeC .u64 (fun j => fpS (prS (8 + j)) 2 64) 8) ∧ Below w.heap.size w w') := fun sl w h => parts6_any 2 64 8 (fun j => prS (8 + j)) (.inl rfl) (by omega) (by omega) (by omega) (fun j => pr_lt (8 + j)) sl w h
  have HFL : Hid (∀ j, fpS (prS (8 + j)) 2 64 < 18446744073709551616) := fun j => fp_lt _ _ _ (by omega)
  have HFE : Hid (∀ j, j < 8 → fpS (prS (8 + j)) 2 64 % 4294967296 = hS 224 j) := fun j hj => (con_h ⟨j, hj⟩).2.2.2
  obtain ⟨F, hF⟩ : ∃ F : Nat → Nat, (fun j => fpS (prS (8 + j)) 2 64) = F := ⟨_, rfl⟩
  have HF1 : Hid (∀ j, F j < 18446744073709551616) := fun j => by rw [← hF]; exact HFL.out j
  have HF2 : Hid (∀ j, j < 8 → F j % 4294967296 = hS 224 j) := fun j hj => by rw [← hF]; exact HFE.out j hj
  rw [hF] at HH
  clear hF HFL HFE
  go_enter Try.func56, Try.ntmps56
  go_wp2_with (first
    | (go_at_call 68; refine (HWD.out _).mono ?_; rintro e w1 ⟨v, rfl, hown, hb1⟩; obtain ⟨gp, cp, rfl, hgp, hgl, hcp⟩ := row_shapeC hown (by omega); have HB1 := hidD hb1; have HN1 := hidD (NsAt.row hown); have hcp64 : 64 ≤ cp := (by omega); have hcp16 : 16 ≤ cp := (by omega); have hcp8 : 8 ≤ cp := (by omega); have hcpn : ¬ cp = 8 := (by omega); have hcp0 : ¬ cp = 0 := (by omega); have HNH : Hid (NsAt w1 .u32 (.slice (some ⟨gp, 8, none⟩) 8 (cp - 8)) 8 (fun j => prS (8 + j))) := (show NsAt w1 .u32 (.slice (some ⟨gp, 0 + 8, none⟩) 8 (cp - 8)) 8 (fun j => prS (8 + j)) from HN1.out.cut 8 8 (by omega)); clear hown hb1)
    | (go_at_call 69; refine (HH.out _ _ HNH.out).mono ?_; rintro e w2 ⟨v, rfl, hown, hb2⟩; obtain ⟨gh, ch, rfl, hgh, hch, hhs⟩ := HsAt.own hown (by omega); have HB2 := hidD hb2; have HH2 := hidD hhs; have HGH := hidD hgh; clear hown hb2 hhs hgh HNH))
  have HNK : Hid (∀ wA, Below w1.heap.size w1 wA → NsAt wA .u32 (.slice (some ⟨gp, 0, none⟩) 64 cp) 64 prS) := fun wA h => ((HN1.out.below h).cut 0 64 (by omega)).congr fun j _ => by rw [Nat.zero_add]
  have HM0 : Hid (HsAt w2 gh 8 (mkF F 0)) := HH2.out.congr fun j _ => by unfold mkF; rw [if_neg (by omega)]
  clear HN1 HH2 HWD HH
  go_loopw [7] (fun iv wr => ∃ i : Nat, i ≤ 8 ∧ iv = .int .i64 (i : Int) ∧ HsAt wr gh 8 (mkF F i) ∧ Below w1.heap.size w1 wr) (fun iv _ => 8 - (intOf iv).toNat)
  case atStart => exact ⟨0, by omega, rfl, HM0.out, HB2.out⟩
  case round =>
    clear HM0 HB2
    obtain ⟨i, hi, rfl, hhs, hbel⟩ := hrel
    by_cases hlt : i < 8
    · have hlti : (i : Int) < 8 := by omega
      have hc1 := (hhs.cell hlt).1
      have hf1 := (hhs.cell hlt).2
      have hmk : mkF F i i = F i := by unfold mkF; rw [if_neg (by omega)]
      rw [hmk] at hc1
      have HS : Hid (HsAt (wr.setCell ⟨gh, i, none⟩ (.int .u64 ((F i % 4294967296 : Nat) : Int))) gh 8 (mkF F (i + 1))) := (hhs.set hlt _).congr fun j hj => by
        unfold mkF
        by_cases h : j = i
        · subst h; rw [if_pos rfl, if_pos (by omega)]
        · rw [if_neg h]
          by_cases h2 : j < i
          · rw [if_pos h2, if_pos (by omega)]
          · rw [if_neg h2, if_neg (by omega)]
      have HSB : Hid (Below w1.heap.size w1 (wr.setCell ⟨gh, i, none⟩ (.int .u64 ((F i % 4294967296 : Nat) : Int)))) := below_setCell hbel HGH.out i _
      have han := and_low (F i) (HF1.out i)
      have hfl := HF1.out i
      clear hhs hbel hmk
      generalize F i % 4294967296 = FM at *
      generalize F i = FI at *
      go_wp2_with fail
      go_roundw
      case rel =>
        first
        | exact ⟨i + 1, by omega, by go_num, HS.out, HSB.out⟩
        | ((repeat apply Exists.intro); refine And.intro ?_ rfl; exact ⟨i + 1, by omega, by go_num, HS.out, HSB.out⟩)
      case measure => simp [intOf]; omega
    · obtain rfl : i = 8 := by omega
      have HH8 : Hid (HsAt wr gh 8 (hS 224)) := hhs.congr fun j hj => by unfold mkF; rw [if_pos hj]; exact HF2.out j hj
      have HBW := hidD hbel
      have HNW := hidD (HNK.out _ hbel)
      clear hhs hbel
      go_wp2_with (go_at_call 69; refine (HK.out _ _ HNW.out).mono ?_; rintro e w9 ⟨vk, rfl, hk, hb9⟩; have KK := hidD hk; have KH := hidD ((HH8.out.next hb9).nsT hch); have HB9 := hidD (Below.next HBW.out hb9); clear hk hb9)
      refine bodyPost_ret (v := .tuple #[vk, .slice (some ⟨gh, 0, none⟩) 8 ch, .int .i64 0]) (by simp [results, Try.results56, go_sem]) rfl ⟨vk, _, rfl, KK.out, KH.out, Below.next HB1.out HB9.out⟩
theorem con6t_any (k : Nat) (hk : Kind k) (w : World) : Calls Try.prog 56 #[.int .i64 (k : Int)] w fun e w' => ∃ vk vh, e = .returned (.tuple #[vk, vh, .int .i64 0]) ∧ NsT w' vk (nkK k) (coS k) ∧ NsT w' vh 8 (hS k) ∧ Below w.heap.size w w' := by
  rcases hk with rfl | rfl | rfl | rfl
  · exact con6t_224 w
  · exact con6t_256 w
  · exact con6t_384 w
  · exact con6t_512 w
set_option maxRecDepth 100000 in
set_option maxHeartbeats 800000 in
theorem rBegin3_any (k : Nat) (hk : Kind k) (w : World) : Calls Try.prog 31 #[.int .i64 (k : Int)] w fun e w' => ∃ g, e = .returned (.tuple #[.pointer (some ⟨g, 0, none⟩), .int .i64 0]) ∧ w.heap.size ≤ g ∧ HfT w' g k (hS k) 0 (.slice none 0 0) ∧ Below w.heap.size w w' := by
  have HC := hidD (con6t_any k hk)
  clear hk
  go_enter Try.func31, Try.ntmps31
  go_wp2_with (go_at_call 56; refine (HC.out _).mono ?_; rintro e w1 ⟨vk, vh, rfl, hk, hh, hb⟩; obtain ⟨ak, ck, rfl, _, hk0⟩ := id hk.1; obtain ⟨ah, ch, rfl, _, hh0⟩ := id hh.1; obtain ⟨gk, ok, rfl, _, _⟩ := hk0 0 (by have := nk_le k; omega); obtain ⟨gh, oh, rfl, _, _⟩ := hh0 0 (by omega); clear hk0 hh0; have HK := hidD hk; have HH := hidD hh; clear hk hh)
  refine bodyPost_ret (v := .tuple #[.pointer (some ⟨w1.heap.size, 0, none⟩), .int .i64 0]) (by simp [results, Try.results31, go_sem]) rfl ?_
  have hbn : Below w1.heap.size w1 (w1.alloc (.cells #[.int .i64 (k : Int), .slice (some ⟨gk, ok, none⟩) (nkK k) ck, .slice (some ⟨gh, oh, none⟩) 8 ch, .int .u64 0, .slice none 0 0] (54 : TypeId))) := (Below.refl _ _).alloc (Nat.le_refl _) _
  exact ⟨_, rfl, hb.size, ⟨gk, ok, ck, gh, oh, ch, heap_alloc_last _ _, HK.out.1.below hbn, HH.out.1.below hbn, (HK.out.2 _ _ _ _ rfl).next hbn, (HH.out.2 _ _ _ _ rfl).next hbn⟩, hb.alloc hb.size _⟩
end Go.Proofs.Ytnldpofljeodiaa
/- What Resume and Padding of sha answer, whatever is handed in. -/
namespace Go.Proofs.Ytnldpofljeodiaa
open Go.RowKit
set_option linter.unusedVariables false

def DcAt (w : World) (g0 N : Nat) (b : Nat → UInt8) : Prop := g0 < w.heap.size ∧ ∀ q, q < N → w.cell? ⟨g0, q, none⟩ = some (.int .u8 ((b q).toNat : Int))
theorem DcAt.lt {w : World} {g0 N : Nat} {b : Nat → UInt8} (h : DcAt w g0 N b) : g0 < w.heap.size := h.1
theorem DcAt.next {w w' : World} {g0 N : Nat} {b : Nat → UInt8} (h : DcAt w g0 N b) (hb : Below w.heap.size w w') : DcAt w' g0 N b := ⟨Nat.lt_of_lt_of_le h.1 hb.size, fun q hq => (hb.cell (p := ⟨g0, q, none⟩) h.1).trans (h.2 q hq)⟩
theorem DcAt.but {w w' : World} {g g0 N : Nat} {b : Nat → UInt8} (h : DcAt w g0 N b) (hb : But g w w') (hn : g0 ≠ g) : DcAt w' g0 N b := ⟨Nat.lt_of_lt_of_le h.1 hb.bel.size, fun q hq => (hb.cell h.1 hn).trans (h.2 q hq)⟩
theorem DcAt.cell {w : World} {g0 N : Nat} {b : Nat → UInt8} (h : DcAt w g0 N b) {q : Nat} (hq : q < N) : w.cell? ⟨g0, q, none⟩ = some (.int .u8 ((b q).toNat : Int)) := h.2 q hq
set_option maxRecDepth 100000 in
set_option maxHeartbeats 800000 in
theorem wordWl_any (b : Nat → UInt8) (g0 off len cap i : Nat) (hi : (i + 1) * 8 ≤ len) (hlc : len ≤ cap) (hcm : len < 4611686018427387904) (w : World) (hg : g0 < w.heap.size) (hc : ∀ k, k < len → w.cell? ⟨g0, off + k, none⟩ = some (.int .u8 ((b k).toNat : Int))) : Calls Try.prog 46 #[.slice (some ⟨g0, off, none⟩) len cap, .int .i64 (i : Int), .agg shW] w fun e w' => e = .returned (.int .u64 (beTo b (i * 8) 8 : Int)) ∧ Below w.heap.size w w' := by
  have HR : Hid ((w.alloc (.cells shW (96 : TypeId))).heap[w.heap.size]? = some (.cells shW (96 : TypeId) (0, 0))) := heap_alloc_last _ _
  have HB : Hid (Below w.heap.size w (w.alloc (.cells shW (96 : TypeId)))) := (Below.refl _ _).alloc (Nat.le_refl _) _
  have HQ0 : Hid (shW[0]? = some (.int .i64 64)) := hidD rfl
  have HC : Hid (∀ k, k < 8 → (w.alloc (.cells shW (96 : TypeId))).cell? ⟨g0, off + i * 8 + k, none⟩ = some (.int .u8 ((b (i * 8 + k)).toNat : Int))) := fun k hk => by
    have h := hc (i * 8 + k) (by omega)
    rw [← Nat.add_assoc] at h
    exact (HB.out.cell (p := ⟨g0, off + i * 8 + k, none⟩) hg).trans h
  have hm1 : (i : Int) * 8 = ((i * 8 : Nat) : Int) := by omega
  have hm2 : ((i : Int) + 1) * 8 = ((i * 8 + 8 : Nat) : Int) := by omega
  have hsl := fun w => run_slice22lh g0 off (i * 8) (i * 8 + 8) len cap (by omega) (by omega) (by omega) w
  have hsa := fun w => run_sliceAt22lh g0 off (i * 8) (i * 8 + 8) len cap (by omega) (by omega) (by omega) w
  have hd : i * 8 + 8 - i * 8 = 8 := by omega
  rw [hd] at hsl hsa
  have hil : i < 4611686018427387904 := by omega
  have hin2 : i * 8 + 8 < 4611686018427387904 := by omega
  have hin1 : i * 8 < 4611686018427387904 := by omega
  clear hc hg hi hlc hd
  generalize shW = SH at *
  generalize hin : i * 8 + 8 = I2 at *
  generalize i * 8 = I1 at *
  clear hin
  go_enter Try.func46, Try.ntmps46
  generalize hW : w.alloc (.cells SH (96 : TypeId)) = W at *
  have c0 : W.cell? ⟨w.heap.size, 0, none⟩ = some (.int .i64 64) := by rw [cell_of_row _ _ _ _ _ _ HR.out]; exact HQ0.out
  go_wp2_with fail
  go_loopw [7, 24] (fun xv kv wr => ∃ k : Nat, k ≤ 8 ∧ kv = .int .i64 (k : Int) ∧ xv = .int .u64 (beTo b I1 k : Int) ∧ wr = W) (fun _ kv _ => 8 - (intOf kv).toNat)
  case atStart => exact ⟨0, by omega, rfl, rfl, rfl⟩
  case round =>
    obtain ⟨k, hk, rfl, rfl, hwr⟩ := hrel
    subst hwr
    by_cases hlt : k < 8
    · have hlti : (k : Int) < 8 := by omega
      have hcc := HC.out k hlt
      have hX : beTo b I1 k < 72057594037927936 := Nat.lt_of_lt_of_le (beTo_lt b I1 k) (show 2 ^ (8 * k) ≤ 2 ^ 56 from Nat.pow_le_pow_right (by omega) (by omega))
      have hY : (b (I1 + k)).toNat < 256 := UInt8.toNat_lt _
      have HNX : Hid (beTo b I1 (k + 1) = beTo b I1 k * 256 ||| (b (I1 + k)).toNat) := rfl
      have hor : bits .or .u64 ((beTo b I1 k : Int) * 256) ((b (I1 + k)).toNat : Int) = ((beTo b I1 k * 256 ||| (b (I1 + k)).toNat : Nat) : Int) := by
        rw [show (beTo b I1 k : Int) * 256 = ((beTo b I1 k * 256 : Nat) : Int) by simp]; exact u64_or_nat _ _ (by omega) (by omega)
      have hwr : IntKind.u64.wrap ((beTo b I1 k : Int) * 256) = (beTo b I1 k : Int) * 256 := by rw [IntKind.wrap_u64]; omega
      generalize beTo b I1 k * 256 ||| (b (I1 + k)).toNat = Z at *
      generalize beTo b I1 k = X at *
      generalize (b (I1 + k)).toNat = Y at *
      go_wp2_with fail
      go_roundw
      case rel =>
        first
        | exact ⟨k + 1, by omega, by go_num, by rw [HNX.out], by first | rfl | trivial⟩
        | ((repeat apply Exists.intro); refine And.intro ?_ rfl; exact ⟨k + 1, by omega, by go_num, by rw [HNX.out], by first | rfl | trivial⟩)
      case measure => simp [intOf]; omega
    · obtain rfl : k = 8 := by omega
      generalize hXE : beTo b I1 8 = X at *
      have HXE := hidD hXE
      clear hXE
      go_wp2_with fail
      go_ret
      exact ⟨by rw [HXE.out]; rfl, HB.out⟩

set_option maxRecDepth 100000 in
set_option maxHeartbeats 800000 in
theorem wordRl_any (b : Nat → UInt8) (g0 off len cap i : Nat) (hi : (i + 1) * 4 ≤ len) (hlc : len ≤ cap) (hcm : len < 4611686018427387904) (w : World) (hg : g0 < w.heap.size) (hc : ∀ k, k < len → w.cell? ⟨g0, off + k, none⟩ = some (.int .u8 ((b k).toNat : Int))) : Calls Try.prog 46 #[.slice (some ⟨g0, off, none⟩) len cap, .int .i64 (i : Int), .agg shN] w fun e w' => e = .returned (.int .u64 (beTo b (i * 4) 4 : Int)) ∧ Below w.heap.size w w' := by
  have HR : Hid ((w.alloc (.cells shN (96 : TypeId))).heap[w.heap.size]? = some (.cells shN (96 : TypeId) (0, 0))) := heap_alloc_last _ _
  have HB : Hid (Below w.heap.size w (w.alloc (.cells shN (96 : TypeId)))) := (Below.refl _ _).alloc (Nat.le_refl _) _
  have HQ0 : Hid (shN[0]? = some (.int .i64 32)) := hidD rfl
  have HC : Hid (∀ k, k < 4 → (w.alloc (.cells shN (96 : TypeId))).cell? ⟨g0, off + i * 4 + k, none⟩ = some (.int .u8 ((b (i * 4 + k)).toNat : Int))) := fun k hk => by
    have h := hc (i * 4 + k) (by omega)
    rw [← Nat.add_assoc] at h
    exact (HB.out.cell (p := ⟨g0, off + i * 4 + k, none⟩) hg).trans h
  have hm1 : (i : Int) * 4 = ((i * 4 : Nat) : Int) := by omega
  have hm2 : ((i : Int) + 1) * 4 = ((i * 4 + 4 : Nat) : Int) := by omega
  have hsl := fun w => run_slice22lh g0 off (i * 4) (i * 4 + 4) len cap (by omega) (by omega) (by omega) w
  have hsa := fun w => run_sliceAt22lh g0 off (i * 4) (i * 4 + 4) len cap (by omega) (by omega) (by omega) w
  have hd : i * 4 + 4 - i * 4 = 4 := by omega
  rw [hd] at hsl hsa
  have hil : i < 4611686018427387904 := by omega
  have hin2 : i * 4 + 4 < 4611686018427387904 := by omega
  have hin1 : i * 4 < 4611686018427387904 := by omega
  clear hc hg hi hlc hd
  generalize shN = SH at *
  generalize hin : i * 4 + 4 = I2 at *
  generalize i * 4 = I1 at *
  clear hin
  go_enter Try.func46, Try.ntmps46
  generalize hW : w.alloc (.cells SH (96 : TypeId)) = W at *
  have c0 : W.cell? ⟨w.heap.size, 0, none⟩ = some (.int .i64 32) := by rw [cell_of_row _ _ _ _ _ _ HR.out]; exact HQ0.out
  go_wp2_with fail
  go_loopw [7, 24] (fun xv kv wr => ∃ k : Nat, k ≤ 4 ∧ kv = .int .i64 (k : Int) ∧ xv = .int .u64 (beTo b I1 k : Int) ∧ wr = W) (fun _ kv _ => 4 - (intOf kv).toNat)
  case atStart => exact ⟨0, by omega, rfl, rfl, rfl⟩
  case round =>
    obtain ⟨k, hk, rfl, rfl, hwr⟩ := hrel
    subst hwr
    by_cases hlt : k < 4
    · have hlti : (k : Int) < 4 := by omega
      have hcc := HC.out k hlt
      have hX : beTo b I1 k < 16777216 := Nat.lt_of_lt_of_le (beTo_lt b I1 k) (show 2 ^ (8 * k) ≤ 2 ^ 24 from Nat.pow_le_pow_right (by omega) (by omega))
      have hY : (b (I1 + k)).toNat < 256 := UInt8.toNat_lt _
      have HNX : Hid (beTo b I1 (k + 1) = beTo b I1 k * 256 ||| (b (I1 + k)).toNat) := rfl
      have hor : bits .or .u64 ((beTo b I1 k : Int) * 256) ((b (I1 + k)).toNat : Int) = ((beTo b I1 k * 256 ||| (b (I1 + k)).toNat : Nat) : Int) := by
        rw [show (beTo b I1 k : Int) * 256 = ((beTo b I1 k * 256 : Nat) : Int) by simp]; exact u64_or_nat _ _ (by omega) (by omega)
      have hwr : IntKind.u64.wrap ((beTo b I1 k : Int) * 256) = (beTo b I1 k : Int) * 256 := by rw [IntKind.wrap_u64]; omega
      generalize beTo b I1 k * 256 ||| (b (I1 + k)).toNat = Z at *
      generalize beTo b I1 k = X at *
      generalize (b (I1 + k)).toNat = Y at *
      go_wp2_with fail
      go_roundw
      case rel =>
        first
        | exact ⟨k + 1, by omega, by go_num, by rw [HNX.out], by first | rfl | trivial⟩
        | ((repeat apply Exists.intro); refine And.intro ?_ rfl; exact ⟨k + 1, by omega, by go_num, by rw [HNX.out], by first | rfl | trivial⟩)
      case measure => simp [intOf]; omega
    · obtain rfl : k = 4 := by omega
      generalize hXE : beTo b I1 4 = X at *
      have HXE := hidD hXE
      clear hXE
      go_wp2_with fail
      go_ret
      exact ⟨by rw [HXE.out]; rfl, HB.out⟩
set_option maxRecDepth 100000 in
set_option maxHeartbeats 1600000 in
theorem resume512c_any (cap : Nat) (hcap : 64 ≤ cap) (b : Nat → UInt8) (n : Nat) (hn : n < 18446744073709551616) (hnb : n % 128 = 0) (g0 : Nat) (w : World) (hr : DcAt w g0 64 b) : Calls Try.prog 24 #[.int .i64 512, .slice (some ⟨g0, 0, none⟩) 64 cap, .int .u64 (n : Int)] w fun e w' => ∃ g, e = .returned (.tuple #[.pointer (some ⟨g, 0, none⟩), .int .i64 0]) ∧ w.heap.size ≤ g ∧ StAt w' g 512 ⟨n, fun _ => 0, fun j => beTo b (j * 8) 8⟩ ∧ Below w.heap.size w w' := by
  have hk : Kind 512 := by unfold Kind; omega
  have HSZ : Hid (∀ w, Calls Try.prog 36 #[.int .i64 512] w fun e w' => e = .returned (.tuple #[.int .i64 64, .int .i64 128, .int .i64 0]) ∧ w' = w) := fun w => size_any 512 hk w
  have HCO : Hid (∀ w, Calls Try.prog 45 #[.int .i64 512] w fun e w' => e = .returned (.agg (rowZ .u64 88 (fun j => (coS 512 j : Int)))) ∧ Below w.heap.size w w') := fun w => constants_any 512 hk w
  have HFD : Hid (∀ w : World, (Instr.field 82 (.agg (rowZ .u64 88 (fun j => (coS 512 j : Int)))) 0).run Try.prog w = .ok (.agg (rowZ .u64 80 (fun j => (coS 512 j : Int)))) w) := fun w => field53 _ w
  have HBD : Hid (∀ w : World, (Instr.build 92 #[(0, .int .i64 512), (1, .int .u64 (n : Int)), (3, .agg (rowZ .u64 80 (fun j => (coS 512 j : Int))))]).run Try.prog w = .ok (.agg ((List.range 226).map (stV 512 n (fun _ => 0) (fun _ => 0))).toArray) w) := fun w => by rw [← bV_row 512 n]; exact build63n ((512 : Nat) : Int) (n : Int) (fun j => (coS 512 j : Int)) w
  have HST : Hid (∀ (W : World), StAt (W.alloc (.cells ((List.range 226).map (stV 512 n (fun _ => 0) (fun _ => 0))).toArray (92 : TypeId))) W.heap.size 512 ⟨n, fun _ => 0, fun _ => 0⟩) := fun W => heap_alloc_last _ _
  have HSH : Hid (∀ w, Calls Try.prog 47 #[.int .i64 512] w fun e w' => e = .returned (.agg shW) ∧ Below w.heap.size w w') := fun w => shapeOf_any 512 w
  have HWD : Hid (∀ (i : Nat), i < 8 → ∀ wA, DcAt wA g0 64 b → Calls Try.prog 46 #[.slice (some ⟨g0, 0, none⟩) 64 cap, .int .i64 (i : Int), .agg shW] wA fun e w' => e = .returned (.int .u64 (beTo b (i * 8) 8 : Int)) ∧ Below wA.heap.size wA w') := fun i hi wA h => wordWl_any b g0 0 64 cap i (by omega) (by omega) (by omega) wA h.lt (fun q hq => by rw [Nat.zero_add]; exact h.cell hq)
  have HBL : Hid (∀ j, beTo b (j * 8) 8 < mdK 512) := fun j => beTo_lt b (j * 8) 8
  have HLY : Hid (∀ g w, StAt w g 512 ⟨n, fun _ => 0, fun _ => 0⟩ → Calls Try.prog 48 #[.pointer (some ⟨g, 0, none⟩), .agg (rowZ .u64 8 (fun j => (beTo b (j * 8) 8 : Int)))] w fun e w' => e = .returned (.tuple #[]) ∧ StAt w' g 512 ⟨n, fun _ => 0, fun j => beTo b (j * 8) 8⟩ ∧ But g w w') := fun g w h => lay_any 512 hk g ⟨n, fun _ => 0, fun _ => 0⟩ (fun j => beTo b (j * 8) 8) HBL.out w h
  have hrem : (n : Int).tmod 128 = 0 := by
    have : (n : Int).tmod 128 = ((n % 128 : Nat) : Int) := rfl
    rw [this, hnb]; rfl
  obtain ⟨hz, hsz⟩ := zero_of_info Try.zero51z
  have HR := hidD hr
  have HI8 : Hid (∀ f : Nat → Int, (Try.prog.info? 80).map (·.size) = some (rowZ .u64 8 f).size) := fun f => by rw [hsz, rowZ_size]
  clear hr hsz hnb hk HBL
  generalize shW = SH at *
  generalize hR88 : rowZ .u64 88 (fun j => (coS 512 j : Int)) = R88 at *
  generalize hR80 : rowZ .u64 80 (fun j => (coS 512 j : Int)) = R80 at *
  clear hR88 hR80
  generalize hRB : ((List.range 226).map (stV 512 n (fun _ => 0) (fun _ => 0))).toArray = RB at *
  clear hRB
  have hfd := HFD.out
  go_enter Try.func24, Try.ntmps24
  go_wp2_with (go_at_call 36; refine (HSZ.out _).mono ?_; rintro e wx ⟨rfl, hx⟩; subst wx)
  go_at_call 45
  refine (HCO.out _).mono ?_
  rintro e w1 ⟨rfl, hb1⟩
  have HB1 := hidD hb1
  have HR1 := hidD (HR.out.next hb1)
  clear hb1 HR HCO HSZ
  go_upto_region 7 with (refine wpList_build3 rfl 92 0 1 3 _ _ _ rfl (.int .i64 512) (.int .u64 (n : Int)) (.agg R80) _ rfl rfl rfl (HBD.out _) ?_)
  obtain ⟨W2, hW2⟩ : ∃ W2 : World, W2 = w1.alloc (.cells RB (92 : TypeId)) := ⟨_, rfl⟩
  refine at_world hW2 ?_
  have S2 : Hid (StAt W2 w1.heap.size 512 ⟨n, fun _ => 0, fun _ => 0⟩) := by show StAt _ _ _ _; rw [hW2]; exact HST.out w1
  have hb2 : Below w1.heap.size w1 W2 := by rw [hW2]; exact (Below.refl _ _).alloc (Nat.le_refl _) _
  have R2 := hidD (HR1.out.next hb2)
  have B2 := hidD (Below.next HB1.out hb2)
  have G2 : Hid (w.heap.size ≤ w1.heap.size) := HB1.out.size
  clear hW2 hb2 HR1 HB1 HST HBD hfd HFD hrem
  generalize hg2 : w1.heap.size = g2 at *
  clear hg2
  go_upto_region 8 with fail
  obtain ⟨W3, hW3⟩ : ∃ W3 : World, W3 = W2.alloc (.cells (rowZ .u64 8 (fun _ => 0)) (80 : TypeId)) := ⟨_, rfl⟩
  refine at_world hW3 ?_
  have N3 : Hid (RowZ W3 W2.heap.size .u64 8 80 (fun j => ((if j < 0 then beTo b (j * 8) 8 else 0 : Nat) : Int))) := by
    show RowZ _ _ _ _ _ _
    rw [hW3]; exact (RowZ.new W2 .u64 8 80 (fun _ => 0)).congr fun j _ => by rw [if_neg (Nat.not_lt_zero _)]; rfl
  have hb3 : Below W2.heap.size W2 W3 := by rw [hW3]; exact (Below.refl _ _).alloc (Nat.le_refl _) _
  have S3 := hidD (S2.out.next hb3)
  have R3 := hidD (R2.out.next hb3)
  have B3 := hidD (Below.next B2.out hb3)
  have L3 : Hid (g2 < W2.heap.size ∧ g0 < W2.heap.size ∧ w.heap.size ≤ W2.heap.size) := ⟨S2.out.lt, R2.out.lt, B2.out.size⟩
  clear hW3 hb3 S2 R2 B2
  generalize hg3 : W2.heap.size = g3 at *
  clear hg3
  go_wp2_with fail
  go_loopw [49] (fun iv wr => ∃ i : Nat, i ≤ 8 ∧ iv = .int .i64 (i : Int) ∧ RowZ wr g3 .u64 8 80 (fun j => ((if j < i then beTo b (j * 8) 8 else 0 : Nat) : Int)) ∧ But g3 W3 wr) (fun iv _ => 8 - (intOf iv).toNat)
  case atStart => exact ⟨0, by omega, rfl, N3.out, But.refl _ _⟩
  case round =>
    clear N3
    obtain ⟨i, hi, rfl, hrow, hbut⟩ := hrel
    have HRR : Hid (DcAt wr g0 64 b) := R3.out.but hbut (by have := L3.out; omega)
    have HROW := hidD hrow
    have HBUT := hidD hbut
    clear hrow hbut
    by_cases hlt : i < 8
    · have hlti : (i : Int) < 8 := by omega
      have HWI := hidD (HWD.out i hlt)
      have HNX : Hid (∀ wA, RowZ wA g3 .u64 8 80 (fun j => ((if j < i then beTo b (j * 8) 8 else 0 : Nat) : Int)) → RowZ (wA.setCell ⟨g3, i, none⟩ (.int .u64 (beTo b (i * 8) 8 : Int))) g3 .u64 8 80 (fun j => ((if j < i + 1 then beTo b (j * 8) 8 else 0 : Nat) : Int))) := fun wA h => (h.set hlt _).congr fun j hj => by
        by_cases h1 : j = i
        · subst h1; rw [if_pos rfl, if_pos (by omega)]
        · rw [if_neg h1]
          by_cases h2 : j < i
          · rw [if_pos h2, if_pos (by omega)]
          · rw [if_neg h2, if_neg (by omega)]
      generalize hBT : beTo b (i * 8) 8 = BT at *
      clear hBT
      go_wp2_with fail
      go_at_call 47
      refine (HSH.out _).mono ?_
      rintro e w4 ⟨rfl, hb4⟩
      have HB4 := hidD hb4
      have HR4 := hidD (HRR.out.next hb4)
      clear hb4 HRR
      go_wp2_with fail
      go_at_call 46
      refine (HWI.out _ HR4.out).mono ?_
      rintro e w5 ⟨rfl, hb5⟩
      have HB5 : Hid (Below wr.heap.size wr w5) := Below.next HB4.out hb5
      have hrow5 := HROW.out.next HB5.out
      have cf := hrow5.frozen i
      have cc := hrow5.cell hlt
      rw [if_neg (Nat.lt_irrefl _)] at cc
      have HN5 := hidD (HNX.out _ hrow5)
      have HBB : Hid (But g3 W3 (w5.setCell ⟨g3, i, none⟩ (.int .u64 (BT : Int)))) := (HBUT.out.trans (But.of HB5.out (Nat.le_of_lt HROW.out.lt))).put _ _
      clear hb5 hrow5 HB4 HB5 HR4 HWI HNX HROW HBUT
      go_wp2_with fail
      go_roundw
      case rel =>
        first
        | exact ⟨i + 1, by omega, by go_num, HN5.out, HBB.out⟩
        | ((repeat apply Exists.intro); refine And.intro ?_ rfl; exact ⟨i + 1, by omega, by go_num, HN5.out, HBB.out⟩)
      case measure => simp [intOf]; omega
    · obtain rfl : i = 8 := by omega
      have HRF : Hid (wr.heap[g3]? = some (.cells (rowZ .u64 8 (fun j => (beTo b (j * 8) 8 : Int))) (80 : TypeId) (0, 0))) := HROW.out.congr fun j hj => by rw [if_pos hj]
      have HS8 : Hid (StAt wr g2 512 ⟨n, fun _ => 0, fun _ => 0⟩) := S3.out.but HBUT.out (by have := L3.out; omega)
      have HLL := hidD (HLY.out g2 wr HS8.out)
      have HB8 : Hid (Below w.heap.size w wr) := B3.out.trans (HBUT.out.bel.mono L3.out.2.2)
      have HI := hidD (HI8.out (fun j => (beTo b (j * 8) 8 : Int)))
      clear HROW HBUT HRR HS8 HLY HI8
      generalize rowZ .u64 8 (fun j => (beTo b (j * 8) 8 : Int)) = R8 at *
      go_wp2_with (refine wpList_load_row rfl 80 _ rfl g3 rfl 80 R8 (0, 0) _ HRF.out Try.underlying80 rfl HI.out ?_)
      go_at_call 48
      refine HLL.out.mono ?_
      rintro e w9 ⟨rfl, hs9, hb9⟩
      have HF : Hid (w.heap.size ≤ g2 ∧ StAt w9 g2 512 ⟨n, fun _ => 0, fun j => beTo b (j * 8) 8⟩ ∧ Below w.heap.size w w9) := ⟨G2.out, hs9, HB8.out.trans (hb9.bel.mono G2.out)⟩
      clear hs9 hb9
      go_wp2_with fail
      go_ret2
      exact ⟨g2, rfl, HF.out⟩
set_option maxRecDepth 100000 in
set_option maxHeartbeats 1600000 in
theorem resume256c_any (cap : Nat) (hcap : 32 ≤ cap) (b : Nat → UInt8) (n : Nat) (hn : n < 18446744073709551616) (hnb : n % 64 = 0) (g0 : Nat) (w : World) (hr : DcAt w g0 32 b) : Calls Try.prog 24 #[.int .i64 256, .slice (some ⟨g0, 0, none⟩) 32 cap, .int .u64 (n : Int)] w fun e w' => ∃ g, e = .returned (.tuple #[.pointer (some ⟨g, 0, none⟩), .int .i64 0]) ∧ w.heap.size ≤ g ∧ StAt w' g 256 ⟨n, fun _ => 0, fun j => beTo b (j * 4) 4⟩ ∧ Below w.heap.size w w' := by
  have hk : Kind 256 := by unfold Kind; omega
  have HSZ : Hid (∀ w, Calls Try.prog 36 #[.int .i64 256] w fun e w' => e = .returned (.tuple #[.int .i64 32, .int .i64 64, .int .i64 0]) ∧ w' = w) := fun w => size_any 256 hk w
  have HCO : Hid (∀ w, Calls Try.prog 45 #[.int .i64 256] w fun e w' => e = .returned (.agg (rowZ .u64 88 (fun j => (coS 256 j : Int)))) ∧ Below w.heap.size w w') := fun w => constants_any 256 hk w
  have HFD : Hid (∀ w : World, (Instr.field 82 (.agg (rowZ .u64 88 (fun j => (coS 256 j : Int)))) 0).run Try.prog w = .ok (.agg (rowZ .u64 80 (fun j => (coS 256 j : Int)))) w) := fun w => field53 _ w
  have HBD : Hid (∀ w : World, (Instr.build 92 #[(0, .int .i64 256), (1, .int .u64 (n : Int)), (3, .agg (rowZ .u64 80 (fun j => (coS 256 j : Int))))]).run Try.prog w = .ok (.agg ((List.range 226).map (stV 256 n (fun _ => 0) (fun _ => 0))).toArray) w) := fun w => by rw [← bV_row 256 n]; exact build63n ((256 : Nat) : Int) (n : Int) (fun j => (coS 256 j : Int)) w
  have HST : Hid (∀ (W : World), StAt (W.alloc (.cells ((List.range 226).map (stV 256 n (fun _ => 0) (fun _ => 0))).toArray (92 : TypeId))) W.heap.size 256 ⟨n, fun _ => 0, fun _ => 0⟩) := fun W => heap_alloc_last _ _
  have HSH : Hid (∀ w, Calls Try.prog 47 #[.int .i64 256] w fun e w' => e = .returned (.agg shN) ∧ Below w.heap.size w w') := fun w => shapeOf_any 256 w
  have HWD : Hid (∀ (i : Nat), i < 8 → ∀ wA, DcAt wA g0 32 b → Calls Try.prog 46 #[.slice (some ⟨g0, 0, none⟩) 32 cap, .int .i64 (i : Int), .agg shN] wA fun e w' => e = .returned (.int .u64 (beTo b (i * 4) 4 : Int)) ∧ Below wA.heap.size wA w') := fun i hi wA h => wordRl_any b g0 0 32 cap i (by omega) (by omega) (by omega) wA h.lt (fun q hq => by rw [Nat.zero_add]; exact h.cell hq)
  have HBL : Hid (∀ j, beTo b (j * 4) 4 < mdK 256) := fun j => beTo_lt b (j * 4) 4
  have HLY : Hid (∀ g w, StAt w g 256 ⟨n, fun _ => 0, fun _ => 0⟩ → Calls Try.prog 48 #[.pointer (some ⟨g, 0, none⟩), .agg (rowZ .u64 8 (fun j => (beTo b (j * 4) 4 : Int)))] w fun e w' => e = .returned (.tuple #[]) ∧ StAt w' g 256 ⟨n, fun _ => 0, fun j => beTo b (j * 4) 4⟩ ∧ But g w w') := fun g w h => lay_any 256 hk g ⟨n, fun _ => 0, fun _ => 0⟩ (fun j => beTo b (j * 4) 4) HBL.out w h
  have hrem : (n : Int).tmod 64 = 0 := by
    have : (n : Int).tmod 64 = ((n % 64 : Nat) : Int) := rfl
    rw [this, hnb]; rfl
  obtain ⟨hz, hsz⟩ := zero_of_info Try.zero51z
  have HR := hidD hr
  have HI8 : Hid (∀ f : Nat → Int, (Try.prog.info? 80).map (·.size) = some (rowZ .u64 8 f).size) := fun f => by rw [hsz, rowZ_size]
  clear hr hsz hnb hk HBL
  generalize shN = SH at *
  generalize hR88 : rowZ .u64 88 (fun j => (coS 256 j : Int)) = R88 at *
  generalize hR80 : rowZ .u64 80 (fun j => (coS 256 j : Int)) = R80 at *
  clear hR88 hR80
  generalize hRB : ((List.range 226).map (stV 256 n (fun _ => 0) (fun _ => 0))).toArray = RB at *
  clear hRB
  have hfd := HFD.out
  go_enter Try.func24, Try.ntmps24
  go_wp2_with (go_at_call 36; refine (HSZ.out _).mono ?_; rintro e wx ⟨rfl, hx⟩; subst wx)
  go_at_call 45
  refine (HCO.out _).mono ?_
  rintro e w1 ⟨rfl, hb1⟩
  have HB1 := hidD hb1
  have HR1 := hidD (HR.out.next hb1)
  clear hb1 HR HCO HSZ
  go_upto_region 7 with (refine wpList_build3 rfl 92 0 1 3 _ _ _ rfl (.int .i64 256) (.int .u64 (n : Int)) (.agg R80) _ rfl rfl rfl (HBD.out _) ?_)
  obtain ⟨W2, hW2⟩ : ∃ W2 : World, W2 = w1.alloc (.cells RB (92 : TypeId)) := ⟨_, rfl⟩
  refine at_world hW2 ?_
  have S2 : Hid (StAt W2 w1.heap.size 256 ⟨n, fun _ => 0, fun _ => 0⟩) := by show StAt _ _ _ _; rw [hW2]; exact HST.out w1
  have hb2 : Below w1.heap.size w1 W2 := by rw [hW2]; exact (Below.refl _ _).alloc (Nat.le_refl _) _
  have R2 := hidD (HR1.out.next hb2)
  have B2 := hidD (Below.next HB1.out hb2)
  have G2 : Hid (w.heap.size ≤ w1.heap.size) := HB1.out.size
  clear hW2 hb2 HR1 HB1 HST HBD hfd HFD hrem
  generalize hg2 : w1.heap.size = g2 at *
  clear hg2
  go_upto_region 8 with fail
  obtain ⟨W3, hW3⟩ : ∃ W3 : World, W3 = W2.alloc (.cells (rowZ .u64 8 (fun _ => 0)) (80 : TypeId)) := ⟨_, rfl⟩
  refine at_world hW3 ?_
  have N3 : Hid (RowZ W3 W2.heap.size .u64 8 80 (fun j => ((if j < 0 then beTo b (j * 4) 4 else 0 : Nat) : Int))) := by
    show RowZ _ _ _ _ _ _
    rw [hW3]; exact (RowZ.new W2 .u64 8 80 (fun _ => 0)).congr fun j _ => by rw [if_neg (Nat.not_lt_zero _)]; rfl
  have hb3 : Below W2.heap.size W2 W3 := by rw [hW3]; exact (Below.refl _ _).alloc (Nat.le_refl _) _
  have S3 := hidD (S2.out.next hb3)
  have R3 := hidD (R2.out.next hb3)
  have B3 := hidD (Below.next B2.out hb3)
  have L3 : Hid (g2 < W2.heap.size ∧ g0 < W2.heap.size ∧ w.heap.size ≤ W2.heap.size) := ⟨S2.out.lt, R2.out.lt, B2.out.size⟩
  clear hW3 hb3 S2 R2 B2
  generalize hg3 : W2.heap.size = g3 at *
  clear hg3
  go_wp2_with fail
  go_loopw [49] (fun iv wr => ∃ i : Nat, i ≤ 8 ∧ iv = .int .i64 (i : Int) ∧ RowZ wr g3 .u64 8 80 (fun j => ((if j < i then beTo b (j * 4) 4 else 0 : Nat) : Int)) ∧ But g3 W3 wr) (fun iv _ => 8 - (intOf iv).toNat)
  case atStart => exact ⟨0, by omega, rfl, N3.out, But.refl _ _⟩
  case round =>
    clear N3
    obtain ⟨i, hi, rfl, hrow, hbut⟩ := hrel
    have HRR : Hid (DcAt wr g0 32 b) := R3.out.but hbut (by have := L3.out; omega)
    have HROW := hidD hrow
    have HBUT := hidD hbut
    clear hrow hbut
    by_cases hlt : i < 8
    · have hlti : (i : Int) < 8 := by omega
      have HWI := hidD (HWD.out i hlt)
      have HNX : Hid (∀ wA, RowZ wA g3 .u64 8 80 (fun j => ((if j < i then beTo b (j * 4) 4 else 0 : Nat) : Int)) → RowZ (wA.setCell ⟨g3, i, none⟩ (.int .u64 (beTo b (i * 4) 4 : Int))) g3 .u64 8 80 (fun j => ((if j < i + 1 then beTo b (j * 4) 4 else 0 : Nat) : Int))) := fun wA h => (h.set hlt _).congr fun j hj => by
        by_cases h1 : j = i
        · subst h1; rw [if_pos rfl, if_pos (by omega)]
        · rw [if_neg h1]
          by_cases h2 : j < i
          · rw [if_pos h2, if_pos (by omega)]
          · rw [if_neg h2, if_neg (by omega)]
      generalize hBT : beTo b (i * 4) 4 = BT at *
      clear hBT
      go_wp2_with fail
      go_at_call 47
      refine (HSH.out _).mono ?_
      rintro e w4 ⟨rfl, hb4⟩
      have HB4 := hidD hb4
      have HR4 := hidD (HRR.out.next hb4)
      clear hb4 HRR
      go_wp2_with fail
      go_at_call 46
      refine (HWI.out _ HR4.out).mono ?_
      rintro e w5 ⟨rfl, hb5⟩
      have HB5 : Hid (Below wr.heap.size wr w5) := Below.next HB4.out hb5
      have hrow5 := HROW.out.next HB5.out
      have cf := hrow5.frozen i
      have cc := hrow5.cell hlt
      rw [if_neg (Nat.lt_irrefl _)] at cc
      have HN5 := hidD (HNX.out _ hrow5)
      have HBB : Hid (But g3 W3 (w5.setCell ⟨g3, i, none⟩ (.int .u64 (BT : Int)))) := (HBUT.out.trans (But.of HB5.out (Nat.le_of_lt HROW.out.lt))).put _ _
      clear hb5 hrow5 HB4 HB5 HR4 HWI HNX HROW HBUT
      go_wp2_with fail
      go_roundw
      case rel =>
        first
        | exact ⟨i + 1, by omega, by go_num, HN5.out, HBB.out⟩
        | ((repeat apply Exists.intro); refine And.intro ?_ rfl; exact ⟨i + 1, by omega, by go_num, HN5.out, HBB.out⟩)
      case measure => simp [intOf]; omega
    · obtain rfl : i = 8 := by omega
      have HRF : Hid (wr.heap[g3]? = some (.cells (rowZ .u64 8 (fun j => (beTo b (j * 4) 4 : Int))) (80 : TypeId) (0, 0))) := HROW.out.congr fun j hj => by rw [if_pos hj]
      have HS8 : Hid (StAt wr g2 256 ⟨n, fun _ => 0, fun _ => 0⟩) := S3.out.but HBUT.out (by have := L3.out; omega)
      have HLL := hidD (HLY.out g2 wr HS8.out)
      have HB8 : Hid (Below w.heap.size w wr) := B3.out.trans (HBUT.out.bel.mono L3.out.2.2)
      have HI := hidD (HI8.out (fun j => (beTo b (j * 4) 4 : Int)))
      clear HROW HBUT HRR HS8 HLY HI8
      generalize rowZ .u64 8 (fun j => (beTo b (j * 4) 4 : Int)) = R8 at *
      go_wp2_with (refine wpList_load_row rfl 80 _ rfl g3 rfl 80 R8 (0, 0) _ HRF.out Try.underlying80 rfl HI.out ?_)
      go_at_call 48
      refine HLL.out.mono ?_
      rintro e w9 ⟨rfl, hs9, hb9⟩
      have HF : Hid (w.heap.size ≤ g2 ∧ StAt w9 g2 256 ⟨n, fun _ => 0, fun j => beTo b (j * 4) 4⟩ ∧ Below w.heap.size w w9) := ⟨G2.out, hs9, HB8.out.trans (hb9.bel.mono G2.out)⟩
      clear hs9 hb9
      go_wp2_with fail
      go_ret2
      exact ⟨g2, rfl, HF.out⟩
/- what is refused -/
theorem undef_boolT {b : Bool} (h : some undef = some (Value.bool b)) : False := by injection h with h1; cases h1
set_option maxRecDepth 100000 in
set_option maxHeartbeats 1600000 in
theorem resume_bad (x : Int) (a : Option Addr) (l cap n : Nat) (hl : l ≤ 140737488355328) (hn : n < 18446744073709551616) (h : (x ≠ 224 ∧ x ≠ 256 ∧ x ≠ 384 ∧ x ≠ 512) ∨ x = 224 ∨ x = 384 ∨ (x = 256 ∧ (l ≠ 32 ∨ n % 64 ≠ 0)) ∨ (x = 512 ∧ (l ≠ 64 ∨ n % 128 ≠ 0))) (w : World) : Calls Try.prog 24 #[.int .i64 x, .slice a l cap, .int .u64 (n : Int)] w fun e w' => e = .returned (.tuple #[.pointer none, .int .i64 1]) ∧ w' = w := by
  rcases h with hx | rfl | rfl | ⟨rfl, h⟩ | ⟨rfl, h⟩
  · have HSZ := hidD (size_no x hx)
    clear hx
    go_enter Try.func24, Try.ntmps24
    go_wp2_with (go_at_call 36; refine (HSZ.out _).mono ?_; rintro e wx ⟨rfl, hx⟩; subst wx; clear HSZ)
    all_goals try (apply False.elim; apply undef_boolT; assumption)
    refine bodyPost_ret (v := .tuple #[.pointer none, .int .i64 1]) (by simp [results, Try.results24, go_sem]) rfl ⟨rfl, rfl⟩
  · have HSZ : Hid (∀ w, Calls Try.prog 36 #[.int .i64 224] w fun e w' => e = .returned (.tuple #[.int .i64 28, .int .i64 64, .int .i64 0]) ∧ w' = w) := fun w => size_any 224 (by unfold Kind; omega) w
    go_enter Try.func24, Try.ntmps24
    go_wp2_with (go_at_call 36; refine (HSZ.out _).mono ?_; rintro e wx ⟨rfl, hx⟩; subst wx; clear HSZ)
    all_goals try (apply False.elim; apply undef_boolT; assumption)
    refine bodyPost_ret (v := .tuple #[.pointer none, .int .i64 1]) (by simp [results, Try.results24, go_sem]) rfl ⟨rfl, rfl⟩
  · have HSZ : Hid (∀ w, Calls Try.prog 36 #[.int .i64 384] w fun e w' => e = .returned (.tuple #[.int .i64 48, .int .i64 128, .int .i64 0]) ∧ w' = w) := fun w => size_any 384 (by unfold Kind; omega) w
    go_enter Try.func24, Try.ntmps24
    go_wp2_with (go_at_call 36; refine (HSZ.out _).mono ?_; rintro e wx ⟨rfl, hx⟩; subst wx; clear HSZ)
    all_goals try (apply False.elim; apply undef_boolT; assumption)
    refine bodyPost_ret (v := .tuple #[.pointer none, .int .i64 1]) (by simp [results, Try.results24, go_sem]) rfl ⟨rfl, rfl⟩
  · have HSZ : Hid (∀ w, Calls Try.prog 36 #[.int .i64 256] w fun e w' => e = .returned (.tuple #[.int .i64 32, .int .i64 64, .int .i64 0]) ∧ w' = w) := fun w => size_any 256 (by unfold Kind; omega) w
    have hrem : (n : Int).tmod 64 = ((n % 64 : Nat) : Int) := rfl
    have hrl : n % 64 < 64 := Nat.mod_lt _ (by omega)
    by_cases h1 : l = 32
    · have h2 : n % 64 ≠ 0 := by rcases h with h | h; exact absurd h1 h; exact h
      subst h1
      clear h
      have h2i : (((n % 64 : Nat) : Int) != 0) = true := by simp; omega
      have hrem2 : (n : Int) % 64 = ((n % 64 : Nat) : Int) := rfl
      generalize n % 64 = r at *
      go_enter Try.func24, Try.ntmps24
      go_wp2_with (go_at_call 36; refine (HSZ.out _).mono ?_; rintro e wx ⟨rfl, hx⟩; subst wx; clear HSZ)
      all_goals try (apply False.elim; apply undef_boolT; assumption)
      refine bodyPost_ret (v := .tuple #[.pointer none, .int .i64 1]) (by simp [results, Try.results24, go_sem]) rfl ⟨rfl, rfl⟩
    · have h1i : ((l : Int) != 32) = true := by simp; omega
      have h1j : ¬ (l : Int) = 32 := by omega
      clear h
      go_enter Try.func24, Try.ntmps24
      go_wp2_with (go_at_call 36; refine (HSZ.out _).mono ?_; rintro e wx ⟨rfl, hx⟩; subst wx; clear HSZ)
      all_goals try (apply False.elim; apply undef_boolT; assumption)
      refine bodyPost_ret (v := .tuple #[.pointer none, .int .i64 1]) (by simp [results, Try.results24, go_sem]) rfl ⟨rfl, rfl⟩
  · have HSZ : Hid (∀ w, Calls Try.prog 36 #[.int .i64 512] w fun e w' => e = .returned (.tuple #[.int .i64 64, .int .i64 128, .int .i64 0]) ∧ w' = w) := fun w => size_any 512 (by unfold Kind; omega) w
    have hrem : (n : Int).tmod 128 = ((n % 128 : Nat) : Int) := rfl
    have hrl : n % 128 < 128 := Nat.mod_lt _ (by omega)
    by_cases h1 : l = 64
    · have h2 : n % 128 ≠ 0 := by rcases h with h | h; exact absurd h1 h; exact h
      subst h1
      clear h
      have h2i : (((n % 128 : Nat) : Int) != 0) = true := by simp; omega
      have hrem2 : (n : Int) % 128 = ((n % 128 : Nat) : Int) := rfl
      generalize n % 128 = r at *
      go_enter Try.func24, Try.ntmps24
      go_wp2_with (go_at_call 36; refine (HSZ.out _).mono ?_; rintro e wx ⟨rfl, hx⟩; subst wx; clear HSZ)
      all_goals try (apply False.elim; apply undef_boolT; assumption)
      refine bodyPost_ret (v := .tuple #[.pointer none, .int .i64 1]) (by simp [results, Try.results24, go_sem]) rfl ⟨rfl, rfl⟩
    · have h1i : ((l : Int) != 64) = true := by simp; omega
      have h1j : ¬ (l : Int) = 64 := by omega
      clear h
      go_enter Try.func24, Try.ntmps24
      go_wp2_with (go_at_call 36; refine (HSZ.out _).mono ?_; rintro e wx ⟨rfl, hx⟩; subst wx; clear HSZ)
      all_goals try (apply False.elim; apply undef_boolT; assumption)
      refine bodyPost_ret (v := .tuple #[.pointer none, .int .i64 1]) (by simp [results, Try.results24, go_sem]) rfl ⟨rfl, rfl⟩
set_option maxRecDepth 100000 in
theorem padLaw_no (x : Int) (h : x ≠ 224 ∧ x ≠ 256 ∧ x ≠ 384 ∧ x ≠ 512) (n : Nat) (w : World) : Calls Try.prog 22 #[.int .i64 x, .int .u64 (n : Int)] w fun e w' => e = .returned (.tuple #[.slice none 0 0, .int .i64 1]) ∧ w' = w := by
  have HSZ := hidD (size_no x h)
  clear h
  go_enter Try.func22, Try.ntmps22
  go_wp2_with (go_at_call 36; refine (HSZ.out _).mono ?_; rintro e wx ⟨rfl, hx⟩; subst wx; clear HSZ)
  refine bodyPost_ret (v := .tuple #[.slice none 0 0, .int .i64 1]) (by simp [results, Try.results22, go_sem]) rfl ⟨rfl, rfl⟩
set_option maxRecDepth 100000 in
theorem padLaw_big (k : Nat) (hk : Kind k) (n : Nat) (hn : n < 18446744073709551616) (hb : 2305843009213693952 ≤ n) (w : World) : Calls Try.prog 22 #[.int .i64 (k : Int), .int .u64 (n : Int)] w fun e w' => e = .returned (.tuple #[.slice none 0 0, .int .i64 3]) ∧ w' = w := by
  have HSZ := hidD (size_any k hk)
  have HM : Hid (∀ w, Calls Try.prog 42 #[.int .u64 (n : Int), .int .u64 8] w fun e w' => e = .returned (.tuple #[.int .u64 ((n * 8 / 18446744073709551616 : Nat) : Int), .int .u64 ((n * 8 % 18446744073709551616 : Nat) : Int)]) ∧ w' = w) := fun w => Try.bits_Mul64 n 8 (by omega) (by omega) w
  have hp : 0 < n * 8 / 18446744073709551616 := by omega
  have hpl : n * 8 / 18446744073709551616 < 18446744073709551616 := by omega
  clear hk
  generalize k / 8 = k8 at *
  generalize blkN k = bk at *
  generalize n * 8 % 18446744073709551616 = LO at *
  generalize n * 8 / 18446744073709551616 = HI at *
  have hpi : (0 : Int) < (HI : Int) := by omega
  go_enter Try.func22, Try.ntmps22
  go_wp2_with (first
    | (go_at_call 36; refine (HSZ.out _).mono ?_; rintro e wx ⟨rfl, hx⟩; subst wx; clear HSZ)
    | (go_at_call 42; refine (HM.out _).mono ?_; rintro e wx ⟨rfl, hx⟩; subst wx; clear HM))
  refine bodyPost_ret (v := .tuple #[.slice none 0 0, .int .i64 3]) (by simp [results, Try.results22, go_sem]) rfl ⟨rfl, rfl⟩
end Go.Proofs.Ytnldpofljeodiaa
/- What Resume of the document's answer for layer 8 answers. -/
namespace Go.Proofs.Ytnldpofljeodiaa
open Go.RowKit
set_option linter.unusedVariables false

set_option maxRecDepth 100000 in
set_option maxHeartbeats 1600000 in
theorem rRes_bad (x : Int) (a : Option Addr) (l cap n : Nat) (hl : l ≤ 140737488355328) (hn : n < 18446744073709551616) (h : (x ≠ 224 ∧ x ≠ 256 ∧ x ≠ 384 ∧ x ≠ 512) ∨ x = 224 ∨ x = 384 ∨ (x = 256 ∧ (l ≠ 32 ∨ n % 64 ≠ 0)) ∨ (x = 512 ∧ (l ≠ 64 ∨ n % 128 ≠ 0))) (w : World) : Calls Try.prog 25 #[.int .i64 x, .slice a l cap, .int .u64 (n : Int)] w fun e w' => e = .returned (.tuple #[.pointer none, .int .i64 1]) ∧ w' = w := by
  rcases h with hx | rfl | rfl | ⟨rfl, h⟩ | ⟨rfl, h⟩
  · have HSZ := hidD (rSize_no x hx)
    clear hx
    go_enter Try.func25, Try.ntmps25
    go_wp2_with (go_at_call 39; refine (HSZ.out _).mono ?_; rintro e wx ⟨rfl, hx⟩; subst wx; clear HSZ)
    all_goals try (apply False.elim; apply undef_boolT; assumption)
    refine bodyPost_ret (v := .tuple #[.pointer none, .int .i64 1]) (by simp [results, Try.results25, go_sem]) rfl ⟨rfl, rfl⟩
  · have HSZ : Hid (∀ w, Calls Try.prog 39 #[.int .i64 224] w fun e w' => e = .returned (.tuple #[.int .i64 28, .int .i64 64, .int .i64 0]) ∧ w' = w) := fun w => rSize_any 224 (by unfold Kind; omega) w
    go_enter Try.func25, Try.ntmps25
    go_wp2_with (go_at_call 39; refine (HSZ.out _).mono ?_; rintro e wx ⟨rfl, hx⟩; subst wx; clear HSZ)
    all_goals try (apply False.elim; apply undef_boolT; assumption)
    refine bodyPost_ret (v := .tuple #[.pointer none, .int .i64 1]) (by simp [results, Try.results25, go_sem]) rfl ⟨rfl, rfl⟩
  · have HSZ : Hid (∀ w, Calls Try.prog 39 #[.int .i64 384] w fun e w' => e = .returned (.tuple #[.int .i64 48, .int .i64 128, .int .i64 0]) ∧ w' = w) := fun w => rSize_any 384 (by unfold Kind; omega) w
    go_enter Try.func25, Try.ntmps25
    go_wp2_with (go_at_call 39; refine (HSZ.out _).mono ?_; rintro e wx ⟨rfl, hx⟩; subst wx; clear HSZ)
    all_goals try (apply False.elim; apply undef_boolT; assumption)
    refine bodyPost_ret (v := .tuple #[.pointer none, .int .i64 1]) (by simp [results, Try.results25, go_sem]) rfl ⟨rfl, rfl⟩
  · have HSZ : Hid (∀ w, Calls Try.prog 39 #[.int .i64 256] w fun e w' => e = .returned (.tuple #[.int .i64 32, .int .i64 64, .int .i64 0]) ∧ w' = w) := fun w => rSize_any 256 (by unfold Kind; omega) w
    have hrem : (n : Int).tmod 64 = ((n % 64 : Nat) : Int) := rfl
    have hrl : n % 64 < 64 := Nat.mod_lt _ (by omega)
    by_cases h1 : l = 32
    · have h2 : n % 64 ≠ 0 := by rcases h with h | h; exact absurd h1 h; exact h
      subst h1
      clear h
      have h2i : (((n % 64 : Nat) : Int) != 0) = true := by simp; omega
      have hrem2 : (n : Int) % 64 = ((n % 64 : Nat) : Int) := rfl
      generalize n % 64 = r at *
      go_enter Try.func25, Try.ntmps25
      go_wp2_with (go_at_call 39; refine (HSZ.out _).mono ?_; rintro e wx ⟨rfl, hx⟩; subst wx; clear HSZ)
      all_goals try (apply False.elim; apply undef_boolT; assumption)
      refine bodyPost_ret (v := .tuple #[.pointer none, .int .i64 1]) (by simp [results, Try.results25, go_sem]) rfl ⟨rfl, rfl⟩
    · have h1i : ((l : Int) != 32) = true := by simp; omega
      have h1j : ¬ (l : Int) = 32 := by omega
      clear h
      go_enter Try.func25, Try.ntmps25
      go_wp2_with (go_at_call 39; refine (HSZ.out _).mono ?_; rintro e wx ⟨rfl, hx⟩; subst wx; clear HSZ)
      all_goals try (apply False.elim; apply undef_boolT; assumption)
      refine bodyPost_ret (v := .tuple #[.pointer none, .int .i64 1]) (by simp [results, Try.results25, go_sem]) rfl ⟨rfl, rfl⟩
  · have HSZ : Hid (∀ w, Calls Try.prog 39 #[.int .i64 512] w fun e w' => e = .returned (.tuple #[.int .i64 64, .int .i64 128, .int .i64 0]) ∧ w' = w) := fun w => rSize_any 512 (by unfold Kind; omega) w
    have hrem : (n : Int).tmod 128 = ((n % 128 : Nat) : Int) := rfl
    have hrl : n % 128 < 128 := Nat.mod_lt _ (by omega)
    by_cases h1 : l = 64
    · have h2 : n % 128 ≠ 0 := by rcases h with h | h; exact absurd h1 h; exact h
      subst h1
      clear h
      have h2i : (((n % 128 : Nat) : Int) != 0) = true := by simp; omega
      have hrem2 : (n : Int) % 128 = ((n % 128 : Nat) : Int) := rfl
      generalize n % 128 = r at *
      go_enter Try.func25, Try.ntmps25
      go_wp2_with (go_at_call 39; refine (HSZ.out _).mono ?_; rintro e wx ⟨rfl, hx⟩; subst wx; clear HSZ)
      all_goals try (apply False.elim; apply undef_boolT; assumption)
      refine bodyPost_ret (v := .tuple #[.pointer none, .int .i64 1]) (by simp [results, Try.results25, go_sem]) rfl ⟨rfl, rfl⟩
    · have h1i : ((l : Int) != 64) = true := by simp; omega
      have h1j : ¬ (l : Int) = 64 := by omega
      clear h
      go_enter Try.func25, Try.ntmps25
      go_wp2_with (go_at_call 39; refine (HSZ.out _).mono ?_; rintro e wx ⟨rfl, hx⟩; subst wx; clear HSZ)
      all_goals try (apply False.elim; apply undef_boolT; assumption)
      refine bodyPost_ret (v := .tuple #[.pointer none, .int .i64 1]) (by simp [results, Try.results25, go_sem]) rfl ⟨rfl, rfl⟩
set_option maxRecDepth 100000 in
set_option maxHeartbeats 3000000 in
theorem rRes_ok (k NB : Nat) (hk : (k = 256 ∧ NB = 4) ∨ (k = 512 ∧ NB = 8)) (b : Nat → UInt8) (n : Nat) (hn : n < 18446744073709551616) (hnb : n % (16 * NB) = 0) (g0 off cap : Nat) (hlc : 8 * NB ≤ cap) (w : World) (hg : g0 < w.heap.size) (hc : ∀ q, q < 8 * NB → w.cell? ⟨g0, off + q, none⟩ = some (.int .u8 ((b q).toNat : Int))) : Calls Try.prog 25 #[.int .i64 (k : Int), .slice (some ⟨g0, off, none⟩) (8 * NB) cap, .int .u64 (n : Int)] w fun e w' => ∃ g, e = .returned (.tuple #[.pointer (some ⟨g, 0, none⟩), .int .i64 0]) ∧ w.heap.size ≤ g ∧ HfT w' g k (fun j => beTo b (j * NB) NB) n (.slice none 0 0) ∧ Below w.heap.size w w' := by
  obtain ⟨i0, hi, hz0, hz1, hz2⟩ := info_parts Try.info41c
  have hK : Kind k := by unfold Kind; omega
  have HSZ : Hid (∀ w, Calls Try.prog 39 #[.int .i64 (k : Int)] w fun e w' => e = .returned (.tuple #[.int .i64 ((8 * NB : Nat) : Int), .int .i64 ((16 * NB : Nat) : Int), .int .i64 0]) ∧ w' = w) := fun w => by
    have h := rSize_any k hK w
    rcases hk with ⟨rfl, rfl⟩ | ⟨rfl, rfl⟩ <;> exact h
  have HBG := hidD (rBegin3_any k hK)
  have HC := hidD hc
  have hkb : (((k : Int) != 256) = false) ∨ (((k : Int) != 256) = true ∧ ((k : Int) != 512) = false) := by
    rcases hk with ⟨rfl, rfl⟩ | ⟨rfl, rfl⟩
    · exact .inl rfl
    · exact .inr ⟨rfl, rfl⟩
  have hn48 : NB = 4 ∨ NB = 8 := by omega
  have HNB := hidD hn48
  have hrem : (n : Int).tmod ((16 * NB : Nat) : Int) = 0 := by
    have : (n : Int).tmod ((16 * NB : Nat) : Int) = ((n % (16 * NB) : Nat) : Int) := rfl
    rw [this, hnb]; rfl
  have hrem2 : (n : Int) % ((16 * NB : Nat) : Int) = 0 := by
    have : (n : Int) % ((16 * NB : Nat) : Int) = ((n % (16 * NB) : Nat) : Int) := rfl
    rw [this, hnb]; rfl
  have hdv : ((8 * NB : Nat) : Int).tdiv 8 = (NB : Int) := by rw [Int.tdiv_eq_ediv_of_nonneg (by omega)]; omega
  obtain ⟨SZ, hSZ⟩ : ∃ SZ : Nat, 8 * NB = SZ := ⟨_, rfl⟩
  obtain ⟨BK, hBK⟩ : ∃ BK : Nat, 16 * NB = BK := ⟨_, rfl⟩
  rw [hSZ] at HC hdv hlc HSZ ⊢
  rw [hBK] at HSZ hrem hrem2
  have HSE := hidD hSZ
  have hBKp : 0 < BK ∧ BK ≤ 128 := by omega
  have hSZ64 : SZ ≤ 64 := by omega
  have hBKne : ¬ BK = 0 := by omega
  clear hc hk hn48 hSZ hBK hnb
  rcases hkb with hkb | ⟨hkb, hkc⟩
  · go_enter Try.func25, Try.ntmps25
    go_wp2_with (first
      | (go_at_call 39; refine (HSZ.out _).mono ?_; rintro e wx ⟨rfl, hx⟩; subst wx; clear HSZ)
      | (go_at_call 31; refine (HBG.out _).mono ?_; rintro e w1 ⟨g, rfl, hg1, hh, hb1⟩; have hc3 := hh.cells.2.1; have hf3 := hh.cells.2.2.2 3; have HH1 := hidD (hh.setA n); have HB1 : Hid (Below w.heap.size w (w1.setCell ⟨g, 3, none⟩ (.int .u64 (n : Int)))) := below_setCell hb1 hg1 3 _; have HG1 := hidD hg1; clear hh hb1 hg1 HBG))
    all_goals try (apply False.elim; apply undef_boolT; assumption)
    generalize w1.setCell ⟨g, 3, none⟩ (.int .u64 (n : Int)) = wl at *
    clear hc3 hf3 hrem hrem2
    go_loopw [13, 14] (fun o tv wr => ∃ t : Nat, t ≤ 8 ∧ tv = .int .i64 (t : Int) ∧ wr.ownsRow wl.heap.size 41 1 o t (rangeC .u64 (fun t => beTo b (t * NB) NB) t) ∧ Below wl.heap.size wl wr) (fun _ tv _ => 8 - (intOf tv).toNat)
    case atStart => exact ⟨0, Nat.zero_le _, rfl, World.ownsRow_nil _ _ _ _, Below.refl _ _⟩
    case round =>
      obtain ⟨t, ht, rfl, hown, hbel⟩ := hrel
      obtain ⟨ad, cd, hde⟩ := row_shape hown
      subst hde
      have HOW := hidD hown
      have HBL := hidD hbel
      have hwz := hbel.size
      by_cases hlt : t < 8
      · have hlti : (t : Int) < 8 := by omega
        obtain ⟨P, hP⟩ : ∃ P : Nat, t * NB = P := ⟨_, rfl⟩
        have hPi : ((t : Int) * (SZ : Int)).tdiv 8 = (P : Int) := by
          have : (t : Int) * (SZ : Int) = ((8 * P : Nat) : Int) := by
            rw [← HSE.out, ← hP, ← Int.natCast_mul]
            congr 1
            rw [Nat.mul_left_comm]
          rw [this, Int.tdiv_eq_ediv_of_nonneg (by omega)]; omega
        have hPL : P + NB ≤ SZ := by
          rw [← HSE.out, ← hP]
          have : (t + 1) * NB ≤ 8 * NB := Nat.mul_le_mul_right _ (by omega)
          rw [Nat.add_mul, Nat.one_mul] at this
          exact this
        have hmb : (t : Int) * (SZ : Int) ≤ 4096 ∧ 0 ≤ (t : Int) * (SZ : Int) := by
          have h1 : t * SZ ≤ 8 * 64 := Nat.mul_le_mul (by omega) hSZ64
          have h2 : (t : Int) * (SZ : Int) = ((t * SZ : Nat) : Int) := by simp
          rw [h2]; omega
        have HRN : Hid (rangeC .u64 (fun t => beTo b (t * NB) NB) (t + 1) = rangeC .u64 (fun t => beTo b (t * NB) NB) t ++ [.int .u64 (beTo b P NB : Int)]) := by
          show _ = _
          rw [rangeC_next, hP]
        have HBW := hidD (Below.next HB1.out hbel)
        have HCW : Hid (∀ q, q < SZ → wr.cell? ⟨g0, off + q, none⟩ = some (.int .u8 ((b q).toNat : Int))) := fun q hq => (HBW.out.cell (p := ⟨g0, off + q, none⟩) hg).trans (HC.out q hq)
        clear hP hbel hown
        generalize hRG : rangeC .u64 (fun t => beTo b (t * NB) NB) t = RG at *
        clear hRG
        generalize hTS : (t : Int) * (SZ : Int) = TS at *
        have HTS := hidD hTS
        obtain ⟨wm, hwm⟩ : ∃ wm : World, wm = wr := ⟨_, rfl⟩
        subst hwm
        have hNB8 : NB ≤ 8 := by have := HNB.out; omega
        go_wp2_with fail
        go_loopw [15, 16] (fun xv kv wr => ∃ k : Nat, k ≤ NB ∧ kv = .int .i64 (k : Int) ∧ xv = .int .u64 (beTo b P k : Int) ∧ wr = wm) (fun _ kv _ => NB - (intOf kv).toNat)
        case atStart => exact ⟨0, by omega, rfl, rfl, rfl⟩
        case round =>
          obtain ⟨k, hk, rfl, rfl, rfl⟩ := hrel
          by_cases hkl : k < NB
          · have hkli : (k : Int) < (NB : Int) := by omega
            have hcc := HCW.out (P + k) (by omega)
            have hpk : (P : Int) + (k : Int) = ((P + k : Nat) : Int) := by omega
            have hpkl : P + k < SZ := by omega
            have hX : beTo b P k < 72057594037927936 := Nat.lt_of_lt_of_le (beTo_lt b P k) (show 2 ^ (8 * k) ≤ 2 ^ 56 from Nat.pow_le_pow_right (by omega) (by omega))
            have hY : (b (P + k)).toNat < 256 := UInt8.toNat_lt _
            have HNX : Hid (beTo b P (k + 1) = beTo b P k * 256 ||| (b (P + k)).toNat) := rfl
            have hor : bits .or .u64 ((beTo b P k : Int) * 256) ((b (P + k)).toNat : Int) = ((beTo b P k * 256 ||| (b (P + k)).toNat : Nat) : Int) := by
              rw [show (beTo b P k : Int) * 256 = ((beTo b P k * 256 : Nat) : Int) by simp]; exact u64_or_nat _ _ (by omega) (by omega)
            have hwr : IntKind.u64.wrap ((beTo b P k : Int) * 256) = (beTo b P k : Int) * 256 := by rw [IntKind.wrap_u64]; omega
            generalize beTo b P k * 256 ||| (b (P + k)).toNat = Z at *
            generalize beTo b P k = X at *
            generalize (b (P + k)).toNat = Y at *
            generalize P + k = PK at *
            go_wp2_with fail
            go_roundw
            case rel =>
              first
              | exact ⟨k + 1, by omega, by go_num, by rw [HNX.out], by first | rfl | trivial⟩
              | ((repeat apply Exists.intro); refine And.intro ?_ rfl; exact ⟨k + 1, by omega, by go_num, by rw [HNX.out], by first | rfl | trivial⟩)
            case measure => simp [intOf]; omega
          · obtain rfl : NB = k := by omega
            generalize beTo b P NB = X at *
            go_wp2_with (at_builtin; refine wpList_append_own _ rfl _ _ 52 rfl wl.heap.size 41 i0 (.int .u64 0) 1 8 Try.underlying52 hi hz0 hz1 hz2 rfl (by decide) (.slice ad t cd) t RG rfl (row_below HOW.out ((Below.refl _ _).alloc (Nat.le_refl _) _)) ⟨wr.heap.size, 0, none⟩ 1 1 [.int .u64 (X : Int)] rfl rfl (new_cell1 wr _ _) (by simp [Value.oneCell']) (by unfold maxLen; omega) (by omega) (by simp; omega) ?_; intro v4 w4 hown4 hg4 hnil4; have HB4 := hidD (row_grown (row_below HOW.out ((Below.refl _ _).alloc (Nat.le_refl _) _)) (HBL.out.alloc hwz _) hg4 (by simp; omega)); clear hg4 hnil4)
            go_roundw
            case rel =>
              first
              | exact ⟨t + 1, by omega, by go_num, by rw [HRN.out]; exact hown4, HB4.out⟩
              | ((repeat apply Exists.intro); refine And.intro ?_ rfl; exact ⟨t + 1, by omega, by go_num, by rw [HRN.out]; exact hown4, HB4.out⟩)
            case measure => simp [intOf]; omega
      · obtain rfl : 8 = t := by omega
        obtain ⟨gh, ch, hde, hgh, hghl, hch⟩ := row_shapeC hown (by omega)
        cases hde
        have HN8 := hidD (NsAt.row hown)
        have hhw := HH1.out.next hbel
        obtain ⟨hc4', hc3', ⟨v2, hc2⟩, hfz⟩ := hhw.cells
        have hf2 := hfz 2
        have HF := hidD (hhw.setH HN8.out (TyB.row hown _ _ _ _ rfl))
        have HBW := hidD (Below.next HB1.out hbel)
        have HBF : Hid (Below w.heap.size w (wr.setCell ⟨g, 2, none⟩ (.slice (some ⟨gh, 0, none⟩) 8 cd))) := below_setCell HBW.out HG1.out 2 _
        clear hown hbel hhw hc4' hc3' hfz
        go_wp2_with fail
        refine bodyPost_ret (v := .tuple #[.pointer (some ⟨g, 0, none⟩), .int .i64 0]) (by simp [results, Try.results25, go_sem]) rfl ⟨g, rfl, HG1.out, HF.out, HBF.out⟩
  · go_enter Try.func25, Try.ntmps25
    go_wp2_with (first
      | (go_at_call 39; refine (HSZ.out _).mono ?_; rintro e wx ⟨rfl, hx⟩; subst wx; clear HSZ)
      | (go_at_call 31; refine (HBG.out _).mono ?_; rintro e w1 ⟨g, rfl, hg1, hh, hb1⟩; have hc3 := hh.cells.2.1; have hf3 := hh.cells.2.2.2 3; have HH1 := hidD (hh.setA n); have HB1 : Hid (Below w.heap.size w (w1.setCell ⟨g, 3, none⟩ (.int .u64 (n : Int)))) := below_setCell hb1 hg1 3 _; have HG1 := hidD hg1; clear hh hb1 hg1 HBG))
    all_goals try (apply False.elim; apply undef_boolT; assumption)
    generalize w1.setCell ⟨g, 3, none⟩ (.int .u64 (n : Int)) = wl at *
    clear hc3 hf3 hrem hrem2
    go_loopw [13, 14] (fun o tv wr => ∃ t : Nat, t ≤ 8 ∧ tv = .int .i64 (t : Int) ∧ wr.ownsRow wl.heap.size 41 1 o t (rangeC .u64 (fun t => beTo b (t * NB) NB) t) ∧ Below wl.heap.size wl wr) (fun _ tv _ => 8 - (intOf tv).toNat)
    case atStart => exact ⟨0, Nat.zero_le _, rfl, World.ownsRow_nil _ _ _ _, Below.refl _ _⟩
    case round =>
      obtain ⟨t, ht, rfl, hown, hbel⟩ := hrel
      obtain ⟨ad, cd, hde⟩ := row_shape hown
      subst hde
      have HOW := hidD hown
      have HBL := hidD hbel
      have hwz := hbel.size
      by_cases hlt : t < 8
      · have hlti : (t : Int) < 8 := by omega
        obtain ⟨P, hP⟩ : ∃ P : Nat, t * NB = P := ⟨_, rfl⟩
        have hPi : ((t : Int) * (SZ : Int)).tdiv 8 = (P : Int) := by
          have : (t : Int) * (SZ : Int) = ((8 * P : Nat) : Int) := by
            rw [← HSE.out, ← hP, ← Int.natCast_mul]
            congr 1
            rw [Nat.mul_left_comm]
          rw [this, Int.tdiv_eq_ediv_of_nonneg (by omega)]; omega
        have hPL : P + NB ≤ SZ := by
          rw [← HSE.out, ← hP]
          have : (t + 1) * NB ≤ 8 * NB := Nat.mul_le_mul_right _ (by omega)
          rw [Nat.add_mul, Nat.one_mul] at this
          exact this
        have hmb : (t : Int) * (SZ : Int) ≤ 4096 ∧ 0 ≤ (t : Int) * (SZ : Int) := by
          have h1 : t * SZ ≤ 8 * 64 := Nat.mul_le_mul (by omega) hSZ64
          have h2 : (t : Int) * (SZ : Int) = ((t * SZ : Nat) : Int) := by simp
          rw [h2]; omega
        have HRN : Hid (rangeC .u64 (fun t => beTo b (t * NB) NB) (t + 1) = rangeC .u64 (fun t => beTo b (t * NB) NB) t ++ [.int .u64 (beTo b P NB : Int)]) := by
          show _ = _
          rw [rangeC_next, hP]
        have HBW := hidD (Below.next HB1.out hbel)
        have HCW : Hid (∀ q, q < SZ → wr.cell? ⟨g0, off + q, none⟩ = some (.int .u8 ((b q).toNat : Int))) := fun q hq => (HBW.out.cell (p := ⟨g0, off + q, none⟩) hg).trans (HC.out q hq)
        clear hP hbel hown
        generalize hRG : rangeC .u64 (fun t => beTo b (t * NB) NB) t = RG at *
        clear hRG
        generalize hTS : (t : Int) * (SZ : Int) = TS at *
        have HTS := hidD hTS
        obtain ⟨wm, hwm⟩ : ∃ wm : World, wm = wr := ⟨_, rfl⟩
        subst hwm
        have hNB8 : NB ≤ 8 := by have := HNB.out; omega
        go_wp2_with fail
        go_loopw [15, 16] (fun xv kv wr => ∃ k : Nat, k ≤ NB ∧ kv = .int .i64 (k : Int) ∧ xv = .int .u64 (beTo b P k : Int) ∧ wr = wm) (fun _ kv _ => NB - (intOf kv).toNat)
        case atStart => exact ⟨0, by omega, rfl, rfl, rfl⟩
        case round =>
          obtain ⟨k, hk, rfl, rfl, rfl⟩ := hrel
          by_cases hkl : k < NB
          · have hkli : (k : Int) < (NB : Int) := by omega
            have hcc := HCW.out (P + k) (by omega)
            have hpk : (P : Int) + (k : Int) = ((P + k : Nat) : Int) := by omega
            have hpkl : P + k < SZ := by omega
            have hX : beTo b P k < 72057594037927936 := Nat.lt_of_lt_of_le (beTo_lt b P k) (show 2 ^ (8 * k) ≤ 2 ^ 56 from Nat.pow_le_pow_right (by omega) (by omega))
            have hY : (b (P + k)).toNat < 256 := UInt8.toNat_lt _
            have HNX : Hid (beTo b P (k + 1) = beTo b P k * 256 ||| (b (P + k)).toNat) := rfl
            have hor : bits .or .u64 ((beTo b P k : Int) * 256) ((b (P + k)).toNat : Int) = ((beTo b P k * 256 ||| (b (P + k)).toNat : Nat) : Int) := by
              rw [show (beTo b P k : Int) * 256 = ((beTo b P k * 256 : Nat) : Int) by simp]; exact u64_or_nat _ _ (by omega) (by omega)
            have hwr : IntKind.u64.wrap ((beTo b P k : Int) * 256) = (beTo b P k : Int) * 256 := by rw [IntKind.wrap_u64]; omega
            generalize beTo b P k * 256 ||| (b (P + k)).toNat = Z at *
            generalize beTo b P k = X at *
            generalize (b (P + k)).toNat = Y at *
            generalize P + k = PK at *
            go_wp2_with fail
            go_roundw
            case rel =>
              first
              | exact ⟨k + 1, by omega, by go_num, by rw [HNX.out], by first | rfl | trivial⟩
              | ((repeat apply Exists.intro); refine And.intro ?_ rfl; exact ⟨k + 1, by omega, by go_num, by rw [HNX.out], by first | rfl | trivial⟩)
            case measure => simp [intOf]; omega
          · obtain rfl : NB = k := by omega
            generalize beTo b P NB = X at *
            go_wp2_with (at_builtin; refine wpList_append_own _ rfl _ _ 52 rfl wl.heap.size 41 i0 (.int .u64 0) 1 8 Try.underlying52 hi hz0 hz1 hz2 rfl (by decide) (.slice ad t cd) t RG rfl (row_below HOW.out ((Below.refl _ _).alloc (Nat.le_refl _) _)) ⟨wr.heap.size, 0, none⟩ 1 1 [.int .u64 (X : Int)] rfl rfl (new_cell1 wr _ _) (by simp [Value.oneCell']) (by unfold maxLen; omega) (by omega) (by simp; omega) ?_; intro v4 w4 hown4 hg4 hnil4; have HB4 := hidD (row_grown (row_below HOW.out ((Below.refl _ _).alloc (Nat.le_refl _) _)) (HBL.out.alloc hwz _) hg4 (by simp; omega)); clear hg4 hnil4)
            go_roundw
            case rel =>
              first
              | exact ⟨t + 1, by omega, by go_num, by rw [HRN.out]; exact hown4, HB4.out⟩
              | ((repeat apply Exists.intro); refine And.intro ?_ rfl; exact ⟨t + 1, by omega, by go_num, by rw [HRN.out]; exact hown4, HB4.out⟩)
            case measure => simp [intOf]; omega
      · obtain rfl : 8 = t := by omega
        obtain ⟨gh, ch, hde, hgh, hghl, hch⟩ := row_shapeC hown (by omega)
        cases hde
        have HN8 := hidD (NsAt.row hown)
        have hhw := HH1.out.next hbel
        obtain ⟨hc4', hc3', ⟨v2, hc2⟩, hfz⟩ := hhw.cells
        have hf2 := hfz 2
        have HF := hidD (hhw.setH HN8.out (TyB.row hown _ _ _ _ rfl))
        have HBW := hidD (Below.next HB1.out hbel)
        have HBF : Hid (Below w.heap.size w (wr.setCell ⟨g, 2, none⟩ (.slice (some ⟨gh, 0, none⟩) 8 cd))) := below_setCell HBW.out HG1.out 2 _
        clear hown hbel hhw hc4' hc3' hfz
        go_wp2_with fail
        refine bodyPost_ret (v := .tuple #[.pointer (some ⟨g, 0, none⟩), .int .i64 0]) (by simp [results, Try.results25, go_sem]) rfl ⟨g, rfl, HG1.out, HF.out, HBF.out⟩
end Go.Proofs.Ytnldpofljeodiaa
/- ShaPads. -/
namespace Go.Proofs.Ytnldpofljeodiaa
open Go.RowKit
set_option linter.unusedVariables false

def AnsIs (w : World) (D : List UInt8) (E : Int) (e : Ending) (w' : World) : Prop := ∃ u, e = .returned (.tuple #[u, .int .i64 E]) ∧ ByAt w' u D ∧ Below w.heap.size w w'
theorem ByAt.nil (w : World) : ByAt w (.slice none 0 0) [] := .inl ⟨rfl, none, 0, rfl, fun _ => rfl⟩
theorem rowZ_byL {w : World} {g n : Nat} {f : Nat → UInt8} (h : RowZ w g .u8 n 5 (fun i => ((f i).toNat : Int))) : ByAt w (.slice (some ⟨g, 0, none⟩) n n) ((List.range n).map f) := by
  have := rowZ_by h
  rw [show ((List.range n).map f).length = n by simp] at this
  exact this
theorem own_off {w : World} {base n : Nat} {v : Value} {xs : List Value} (h : w.ownsRow base 5 1 v n xs) {g : Nat} (hg : g < base) : Off v g := fun h' o m c he => by
  rcases h.2 with ⟨h1, _⟩ | ⟨g', cap, cur, h1, hb, _⟩
  · rw [h1] at he; cases he
  · rw [h1] at he; cases he; omega
theorem row_block {w : World} {base n g c : Nat} {xs : List Value} (h : w.ownsRow base 5 1 (.slice (some ⟨g, 0, none⟩) n c) n xs) : ∃ cur : Array Value, w.heap[g]? = some (.cells cur (5 : TypeId) (0, 0)) := by
  rcases h.2 with ⟨h1, _⟩ | ⟨g', cap, cur, h1, _, hg, _⟩
  · cases h1
  · cases h1; exact ⟨cur, hg⟩
set_option maxRecDepth 100000 in
set_option maxHeartbeats 3000000 in
theorem pads_bad (x E : Int) (n : Nat) (PD D M : List UInt8) (hPD : PD.length ≤ 4611686018427387904) (hD : D.length ≤ 140737488354400) (aD : Option Addr) (cD : Nat) (vm : Value) (w : World) (hbD : ByAt w (.slice aD D.length cD) D)
    (h22 : ∀ w, Calls Try.prog 22 #[.int .i64 x, .int .u64 (n : Int)] w (AnsIs w PD E)) (h23 : ∀ w, Calls Try.prog 23 #[.int .i64 x, .int .u64 (n : Int)] w (AnsIs w PD E))
    (h24 : ∀ (a : Option Addr) (cap : Nat) w, Calls Try.prog 24 #[.int .i64 x, .slice a D.length cap, .int .u64 (n : Int)] w fun e w' => e = .returned (.tuple #[.pointer none, .int .i64 1]) ∧ w' = w) (h25 : ∀ (a : Option Addr) (cap : Nat) w, Calls Try.prog 25 #[.int .i64 x, .slice a D.length cap, .int .u64 (n : Int)] w fun e w' => e = .returned (.tuple #[.pointer none, .int .i64 1]) ∧ w' = w) : Calls Try.prog 6 #[.int .i64 x, .int .u64 (n : Int), .slice aD D.length cD, vm] w fun e w' => e = .returned (.bool true) ∧ Below w.heap.size w w' := by
  have HOD := hidD (ownB_any D (by omega))
  have H22 := hidD h22
  have H23 := hidD h23
  have HNE := hidD (no_any E)
  have HSP := hidD (same_true PD hPD)
  have HLV := hidD live_any
  have HYD := hidD hbD
  clear h22 h23 hPD
  have H24 := hidD h24
  have H25 := hidD h25
  have HN1 := hidD (no_any 1)
  clear h24 h25 hbD hD
  generalize D.length = DL at *
  go_enter Try.func6, Try.ntmps6
  go_wp2_with fail
  go_at_call 22
  refine (H22.out _).mono ?_
  rintro e w1 ⟨u1, rfl, hy1, hb1⟩
  have HB1 := hidD hb1
  have A1 := hidD hy1
  clear hy1 hb1 H22
  go_wp2_with fail
  go_at_call 23
  refine (H23.out _).mono ?_
  rintro e w2 ⟨u2, rfl, hy2, hb2⟩
  have HB2 := hidD (Below.next HB1.out hb2)
  have A2 := hidD (A1.out.next hb2)
  have B2 := hidD hy2
  clear hy2 hb2 H23 HB1 A1
  go_wp2_with fail
  go_at_call 11
  refine (HSP.out _ _ _ A2.out B2.out).mono ?_
  rintro e w3 ⟨rfl, hb3⟩
  have HB3 := hidD (Below.next HB2.out hb3)
  clear hb3 HB2 A2 B2 HSP
  go_wp2_with (first
    | (go_at_call 12; refine (HNE.out _).mono ?_; rintro e wz ⟨rfl, hwz⟩; subst wz; clear HNE)
    | (go_at_call 13; refine (HLV.out _).mono ?_; rintro e w4 ⟨rfl, hb4⟩; have HB4 := hidD (Below.next HB3.out hb4); clear hb4 HLV HB3))
  all_goals try (apply False.elim; apply undef_boolT; assumption)
  go_at_call 8
  refine (HOD.out _ _ _ (HYD.out.next HB4.out)).mono ?_
  rintro e w5 ⟨a5, c5, rfl, hown5, hb5⟩
  have HB5 := hidD (Below.next HB4.out hb5)
  have HO5 := hidD hown5
  have HW54 : Hid (w.heap.size ≤ w4.heap.size) := HB4.out.size
  clear hb5 hown5 HOD HB4
  go_wp2_with fail
  go_at_call 24
  refine (H24.out _ _ _).mono ?_
  rintro e wz ⟨rfl, hwz⟩
  subst wz
  clear H24
  go_wp2_with fail
  go_at_call 25
  refine (H25.out _ _ _).mono ?_
  rintro e wz ⟨rfl, hwz⟩
  subst wz
  clear H25
  go_wp2_with (go_at_call 12; refine (HN1.out _).mono ?_; rintro e wz ⟨rfl, hwz⟩; subst wz; clear HN1)
  all_goals try (apply False.elim; apply undef_boolT; assumption)
  refine bodyPost_ret (v := .bool true) (by simp [results, Try.results6, go_sem]) rfl ⟨rfl, HB5.out⟩
set_option maxRecDepth 100000 in
set_option maxHeartbeats 4000000 in
theorem pads_ok (k NB : Nat) (hk : (k = 256 ∧ NB = 4) ∨ (k = 512 ∧ NB = 8)) (E : Int) (n : Nat) (hn : n < 18446744073709551616) (hnb : n % (16 * NB) = 0) (PD D M : List UInt8) (hPD : PD.length ≤ 4611686018427387904) (hD : D.length = 8 * NB) (hM : M.length ≤ 140737488354400) (aD aM : Option Addr) (cD cM : Nat) (w : World) (hbD : ByAt w (.slice aD D.length cD) D) (hcD : D.length ≤ cD) (hbM : ByAt w (.slice aM M.length cM) M)
    (h22 : ∀ w, Calls Try.prog 22 #[.int .i64 (k : Int), .int .u64 (n : Int)] w (AnsIs w PD E)) (h23 : ∀ w, Calls Try.prog 23 #[.int .i64 (k : Int), .int .u64 (n : Int)] w (AnsIs w PD E)) : Calls Try.prog 6 #[.int .i64 (k : Int), .int .u64 (n : Int), .slice aD D.length cD, .slice aM M.length cM] w fun e w' => e = .returned (.bool true) ∧ Below w.heap.size w w' := by
  have HOD := hidD (ownB_any D (by omega))
  have H22 := hidD h22
  have H23 := hidD h23
  have HNE := hidD (no_any E)
  have HSP := hidD (same_true PD hPD)
  have HLV := hidD live_any
  have HYD := hidD hbD
  clear h22 h23 hPD
  have hKK : Kind k := by unfold Kind; omega
  have hblk : n % blkN k = 0 := by rcases hk with ⟨rfl, rfl⟩ | ⟨rfl, rfl⟩ <;> exact hnb
  have hcl : ∀ j, beTo (fun i => D.getD i 0) (j * NB) NB < mdK k := fun j => by
    have := beTo_lt (fun i => D.getD i 0) (j * NB) NB
    rcases hk with ⟨rfl, rfl⟩ | ⟨rfl, rfl⟩ <;> exact this
  have H24 : Hid (∀ (g0 cap : Nat) (w : World), 8 * NB ≤ cap → DcAt w g0 (8 * NB) (fun i => D.getD i 0) → Calls Try.prog 24 #[.int .i64 (k : Int), .slice (some ⟨g0, 0, none⟩) (8 * NB) cap, .int .u64 (n : Int)] w fun e w' => ∃ g, e = .returned (.tuple #[.pointer (some ⟨g, 0, none⟩), .int .i64 0]) ∧ w.heap.size ≤ g ∧ StAt w' g k ⟨n, fun _ => 0, fun j => beTo (fun i => D.getD i 0) (j * NB) NB⟩ ∧ Below w.heap.size w w') := fun g0 cap w h1 h3 => by
    rcases hk with ⟨rfl, rfl⟩ | ⟨rfl, rfl⟩
    · exact resume256c_any cap h1 _ n hn hnb g0 w h3
    · exact resume512c_any cap h1 _ n hn hnb g0 w h3
  have H25 : Hid (∀ wA, Below w.heap.size w wA → Calls Try.prog 25 #[.int .i64 (k : Int), .slice aD D.length cD, .int .u64 (n : Int)] wA fun e w' => ∃ g, e = .returned (.tuple #[.pointer (some ⟨g, 0, none⟩), .int .i64 0]) ∧ wA.heap.size ≤ g ∧ HfT w' g k (fun j => beTo (fun i => D.getD i 0) (j * NB) NB) n (.slice none 0 0) ∧ Below wA.heap.size wA w') := fun wA hA => by
    have hNBp : 0 < NB := by omega
    obtain ⟨a0, c0, he, hh⟩ := hbD.shape
    cases he
    obtain ⟨g1, o1, rfl, hg1, _⟩ := hh 0 (by omega)
    rw [hD]
    refine rRes_ok k NB hk _ n hn hnb g1 o1 _ (by omega) wA (Nat.lt_of_lt_of_le hg1 hA.size) fun q hq => ?_
    obtain ⟨g2, o2, he2, _, h2⟩ := hh q (by omega)
    cases he2
    exact (hA.cell (p := ⟨g1, o1 + q, none⟩) hg1).trans h2
  have HN0 := hidD (no_any 0)
  have HOM : Hid (∀ (a : Option Addr) (cap : Nat) (w : World), ByAt w (.slice a M.length cap) M → Calls Try.prog 8 #[.slice a M.length cap] w fun e w' => ∃ a' c', e = .returned (.slice a' M.length c') ∧ w'.ownsRow w.heap.size 5 1 (.slice a' M.length c') M.length (M.map encB) ∧ ByAt w' (.slice a' M.length c') M ∧ Below w.heap.size w w') := fun a cap w h => (ownB_any M (by omega) a cap w h).mono fun e w' ⟨a', c', he, ho, hb⟩ => ⟨a', c', he, ho, row_by ho, hb⟩
  have HWR : Hid (∀ (g : Nat) (a : Option Addr) (cap : Nat) (w : World), StAt w g k ⟨n, fun _ => 0, fun j => beTo (fun i => D.getD i 0) (j * NB) NB⟩ → ByAt w (.slice a M.length cap) M → (M ≠ [] → Off (.slice a M.length cap) g) → Calls Try.prog 26 #[.pointer (some ⟨g, 0, none⟩), .slice a M.length cap] w fun e w' => e = .returned (.int .i64 (M.length : Int)) ∧ StAt w' g k (feedP k ⟨n, fun _ => 0, fun j => beTo (fun i => D.getD i 0) (j * NB) NB⟩ M) ∧ But g w w') := fun g a cap w h1 h2 h3 => write_any k hKK g _ hn hcl M (by omega) a cap w h1 h2 h3
  have HLN : Hid (∀ (g : Nat) (w : World), StAt w g k (feedP k ⟨n, fun _ => 0, fun j => beTo (fun i => D.getD i 0) (j * NB) NB⟩ M) → Calls Try.prog 27 #[.pointer (some ⟨g, 0, none⟩)] w fun e w' => e = .returned (.int .u64 (((n + M.length) % 18446744073709551616 : Nat) : Int)) ∧ w' = w) := fun g w h => by
    have := len_any g k _ w h
    rw [feed_n k M _ hn] at this
    exact this
  have HSS : Hid (∀ (g : Nat) (w : World), StAt w g k (feedP k ⟨n, fun _ => 0, fun j => beTo (fun i => D.getD i 0) (j * NB) NB⟩ M) → Calls Try.prog 28 #[.pointer (some ⟨g, 0, none⟩)] w fun e w' => ∃ u, e = .returned u ∧ ByAt w' u (dgL k (feedP k ⟨n, fun _ => 0, fun j => beTo (fun i => D.getD i 0) (j * NB) NB⟩ M)) ∧ Below w.heap.size w w') := fun g w h => (stSum_any k hKK g _ (by rw [feed_n k M _ hn]; exact Nat.mod_lt _ (by omega)) (feed_lt k M _ hcl) w h).mono fun e w' ⟨g', he, _, hz, hb⟩ => ⟨_, he, rowZ_byL hz, hb⟩
  have HRS : Hid (∀ (g : Nat) (wA : World), HfT wA g k (fun j => beTo (fun i => D.getD i 0) (j * NB) NB) n (.slice aM M.length cM) → Below w.heap.size w wA → Calls Try.prog 29 #[.pointer (some ⟨g, 0, none⟩)] wA fun e w' => ∃ u, e = .returned u ∧ ByAt w' u (dgL k (feedP k ⟨n, fun _ => 0, fun j => beTo (fun i => D.getD i 0) (j * NB) NB⟩ M)) ∧ Below wA.heap.size wA w') := fun g wA h hA => (h.hf.sum hKK hn hblk hcl (by omega) (hbM.next hA)).mono fun e w' ⟨g', cap, he, _, _, _, hby, hb⟩ => ⟨_, he, hby, hb⟩
  have hk8 : (dgL k (feedP k ⟨n, fun _ => 0, fun j => beTo (fun i => D.getD i 0) (j * NB) NB⟩ M)).length ≤ 4611686018427387904 := by rw [dgL_len]; omega
  have HSD := hidD (same_true _ hk8)
  have HYM := hidD hbM
  have hadd : IntKind.u64.wrap ((n : Int) + (M.length : Int)) = (((n + M.length) % 18446744073709551616 : Nat) : Int) := by rw [IntKind.wrap_u64]; omega
  have hML := hM
  have hNB8 : NB ≤ 8 ∧ 0 < NB := by omega
  clear hbD hbM hk hblk hcl hKK hnb hcD hk8 hM
  obtain ⟨DF, hDF⟩ : ∃ DF : Nat → UInt8, (fun i => D.getD i 0) = DF := ⟨_, rfl⟩
  have HDF : Hid (∀ i, D.getD i 0 = DF i) := fun i => by rw [← hDF]
  rw [hDF] at H24 H25 HWR HLN HSS HRS HSD
  clear hDF
  generalize (fun j => beTo DF (j * NB) NB) = C at *
  generalize feedP k ⟨n, fun _ => 0, C⟩ M = PS at *
  generalize dgL k PS = DG at *
  generalize (n + M.length) % 18446744073709551616 = NM at *
  generalize M.length = ML at *
  have HDL := hidD hD
  obtain ⟨DL, hDL⟩ : ∃ DL : Nat, D.length = DL := ⟨_, rfl⟩
  rw [hDL] at HOD HYD H25 HDL ⊢
  rw [← HDL.out] at H24
  have HDL2 := hidD hDL
  have hDLb : 0 < DL ∧ DL ≤ 64 := by have := HDL.out; omega
  clear hD hDL
  go_enter Try.func6, Try.ntmps6
  go_wp2_with fail
  go_at_call 22
  refine (H22.out _).mono ?_
  rintro e w1 ⟨u1, rfl, hy1, hb1⟩
  have HB1 := hidD hb1
  have A1 := hidD hy1
  clear hy1 hb1 H22
  go_wp2_with fail
  go_at_call 23
  refine (H23.out _).mono ?_
  rintro e w2 ⟨u2, rfl, hy2, hb2⟩
  have HB2 := hidD (Below.next HB1.out hb2)
  have A2 := hidD (A1.out.next hb2)
  have B2 := hidD hy2
  clear hy2 hb2 H23 HB1 A1
  go_wp2_with fail
  go_at_call 11
  refine (HSP.out _ _ _ A2.out B2.out).mono ?_
  rintro e w3 ⟨rfl, hb3⟩
  have HB3 := hidD (Below.next HB2.out hb3)
  clear hb3 HB2 A2 B2 HSP
  go_wp2_with (first
    | (go_at_call 12; refine (HNE.out _).mono ?_; rintro e wz ⟨rfl, hwz⟩; subst wz; clear HNE)
    | (go_at_call 13; refine (HLV.out _).mono ?_; rintro e w4 ⟨rfl, hb4⟩; have HB4 := hidD (Below.next HB3.out hb4); clear hb4 HLV HB3))
  all_goals try (apply False.elim; apply undef_boolT; assumption)
  go_at_call 8
  refine (HOD.out _ _ _ (HYD.out.next HB4.out)).mono ?_
  rintro e w5 ⟨a5, c5, rfl, hown5, hb5⟩
  have HB5 := hidD (Below.next HB4.out hb5)
  have HO5 := hidD hown5
  have HW54 : Hid (w.heap.size ≤ w4.heap.size) := HB4.out.size
  clear hb5 hown5 HOD HB4
  go_wp2_with fail
  obtain ⟨gd, cd, hde, hgd, hgdl, hcd⟩ := row_shapeC HO5.out hDLb.1
  cases hde
  have HDC : Hid (DcAt w5 gd DL DF) := ⟨hgdl, fun q hq => by
    rw [HO5.out.cellAt q (by omega), List.getElem?_map, List.getElem?_eq_getElem (by have := HDL2.out; omega)]
    simp only [Option.map_some, encB]
    rw [← HDF.out q, List.getD_eq_getElem?_getD, List.getElem?_eq_getElem (by have := HDL2.out; omega)]; rfl⟩
  go_at_call 24
  refine (H24.out gd c5 w5 hcd HDC.out).mono ?_
  rintro e w6 ⟨gs, rfl, hgs, hst6, hb6⟩
  have HB6 := hidD (Below.next HB5.out hb6)
  have HO6 := hidD (row_below HO5.out hb6)
  have HS6 := hidD hst6
  have hgsd : gs ≠ gd := by omega
  clear hst6 hb6 H24 HDC
  go_wp2_with fail
  go_at_call 25
  refine (H25.out w6 HB6.out).mono ?_
  rintro e w7 ⟨gt, rfl, hgt, hht7, hb7⟩
  have HB7 := hidD (Below.next HB6.out hb7)
  have HO7 := hidD (row_below HO6.out hb7)
  have HS7 := hidD (HS6.out.next hb7)
  have HT7 := hidD hht7
  have hsl := HS6.out.lt
  have hgts : gt ≠ gs := by omega
  have hgd6 : gd < w6.heap.size := by
    obtain ⟨g', c', he, _, h2, _⟩ := row_shapeC HO6.out hDLb.1
    cases he; exact h2
  have hgtd : gt ≠ gd := by omega
  clear hht7 hb7 H25 HS6 HO6
  go_wp2_with (go_at_call 12; refine (HN0.out _).mono ?_; rintro e wz ⟨rfl, hwz⟩; subst wz)
  all_goals try (apply False.elim; apply undef_boolT; assumption)
  have HZ7 : Hid (w7.ownsRow w4.heap.size 5 1 (.slice (some ⟨gd, 0, none⟩) DL c5) DL (byR (fun q => if q < 0 then 0 else D.getD q 0) DL)) := by
    show World.ownsRow _ _ _ _ _ _ _
    have h := HO7.out
    rw [byR_list D DL HDL2.out] at h
    rw [byR_congr _ (fun i => D.getD i 0) DL (fun q _ => if_neg (by omega))]; exact h
  clear HO7
  go_loopw [16] (fun iv wr => ∃ i : Nat, i ≤ DL ∧ iv = .int .i64 (i : Int) ∧ wr.ownsRow w4.heap.size 5 1 (.slice (some ⟨gd, 0, none⟩) DL c5) DL (byR (fun q => if q < i then 0 else D.getD q 0) DL) ∧ StAt wr gs k ⟨n, fun _ => 0, C⟩ ∧ HfT wr gt k C n (.slice none 0 0) ∧ Below w.heap.size w wr ∧ w7.heap.size ≤ wr.heap.size) (fun iv _ => DL - (intOf iv).toNat)
  case atStart => exact ⟨0, by omega, rfl, HZ7.out, HS7.out, HT7.out, HB7.out, Nat.le_refl _⟩
  case round =>
    clear HZ7 HS7 HT7 HB7
    obtain ⟨i, hi, rfl, hrow, hst, hht, hbel, hszr⟩ := hrel
    by_cases hlt : i < DL
    · have hlti : (i : Int) < (DL : Int) := by omega
      have hc1 := (hrow.cellAt i (by omega)).trans (byR_at _ DL i hlt)
      have hf1 := hrow.frozenAt i
      obtain ⟨cur, hcur⟩ := row_block hrow
      have HST : Hid ((wr.setCell ⟨gd, i, none⟩ (.int .u8 0)).ownsRow w4.heap.size 5 1 (.slice (some ⟨gd, 0, none⟩) DL c5) DL (byR (fun q => if q < i + 1 then 0 else D.getD q 0) DL)) := by
        show World.ownsRow _ _ _ _ _ _ _
        have h := (hrow.stored i (.int .u8 ((0 : UInt8).toNat : Int))).1
        rw [byR_set _ (fun q => if q < i + 1 then 0 else D.getD q 0) DL i 0 hlt (fun q hq => by
          by_cases e1 : q = i
          · subst e1; rw [if_pos rfl, if_pos (by omega)]
          · rw [if_neg e1]
            by_cases e2 : q < i
            · rw [if_pos (by omega), if_pos e2]
            · rw [if_neg (by omega), if_neg e2])] at h
        exact h
      have hbp : But gd wr (wr.setCell ⟨gd, i, none⟩ (.int .u8 0)) := (But.refl gd wr).put i _
      have HS2 := hidD (hst.but hbp hgsd)
      have HT2 := hidD (hht.but hbp hcur (by decide) hgtd)
      have HB2' : Hid (Below w.heap.size w (wr.setCell ⟨gd, i, none⟩ (.int .u8 0))) := below_setCell hbel (by have := HW54.out; omega) i _
      have HSZ2 : Hid (w7.heap.size ≤ (wr.setCell ⟨gd, i, none⟩ (.int .u8 0)).heap.size) := by show _ ≤ _; simpa using hszr
      clear hrow hst hht hbel hcur hbp
      go_wp2_with fail
      go_roundw
      case rel =>
        first
        | exact ⟨i + 1, by omega, by go_num, HST.out, HS2.out, HT2.out, HB2'.out, HSZ2.out⟩
        | ((repeat apply Exists.intro); refine And.intro ?_ rfl; exact ⟨i + 1, by omega, by go_num, HST.out, HS2.out, HT2.out, HB2'.out, HSZ2.out⟩)
      case measure => simp [intOf]; omega
    · obtain rfl : DL = i := by omega
      have HS8 := hidD hst
      have HT8 := hidD hht
      have HB8 := hidD hbel
      clear hrow hst hht hbel
      go_wp2_with fail
      go_at_call 8
      refine (HOM.out _ _ _ (HYM.out.next HB8.out)).mono ?_
      rintro e w9 ⟨a9, c9, rfl, hown9, hby9, hb9⟩
      have hsg := HS8.out.lt
      have W9 := hidD (HWR.out gs a9 c9 w9 (HS8.out.next hb9) hby9 (fun _ => own_off hown9 hsg))
      have HT9 := hidD (HT8.out.next hb9)
      have HS9 := hidD (HS8.out.next hb9)
      have HB9 := hidD (Below.next HB8.out hb9)
      clear hown9 hby9 hb9 HS8 HT8 HB8 HOM HWR
      go_wp2_with fail
      go_at_call 26
      refine W9.out.mono ?_
      rintro e w10 ⟨rfl, hs10, hb10⟩
      have HS10 := hidD hs10
      have HT10 := hidD (HT9.out.but hb10 (show w9.heap[gs]? = some (.cells ((List.range 226).map (stV k n (fun _ => 0) C)).toArray (92 : TypeId) (0, 0)) from HS9.out) (by decide) hgts)
      have HB10 : Hid (Below w.heap.size w w10) := HB9.out.trans (hb10.bel.mono (by have := HB6.out.size; have := HB5.out.size; omega))
      have HL10 := hidD (HLN.out gs w10 hs10)
      clear hs10 hb10 W9 HT9 HS9 HB9 HLN
      go_wp2_with (go_at_call 27; refine HL10.out.mono ?_; rintro e wz ⟨rfl, hwz⟩; subst wz; have hc4 := HT10.out.cells.1; have hf4 := HT10.out.cells.2.2.2 4)
      all_goals try (apply False.elim; apply undef_boolT; assumption)
      have HT11 := hidD (HT10.out.setB (.slice aM ML cM))
      have hbp : But gt w10 (w10.setCell ⟨gt, 4, none⟩ (.slice aM ML cM)) := (But.refl gt w10).put 4 _
      have HS11 := hidD (HS10.out.but hbp (Ne.symm hgts))
      have HB11 : Hid (Below w.heap.size w (w10.setCell ⟨gt, 4, none⟩ (.slice aM ML cM))) := below_setCell HB10.out (by have := HB6.out.size; omega) 4 _
      clear hbp HT10 HS10 HB10 hc4 hf4
      generalize w10.setCell ⟨gt, 4, none⟩ (.slice aM ML cM) = w11 at *
      go_at_call 28
      refine (HSS.out gs w11 HS11.out).mono ?_
      rintro e w12 ⟨u12, rfl, hy12, hb12⟩
      have HT12 := hidD (HT11.out.next hb12)
      have HB12 := hidD (Below.next HB11.out hb12)
      have HU12 := hidD hy12
      clear hy12 hb12 HT11 HS11 HB11 HSS
      go_wp2_with fail
      go_at_call 29
      refine (HRS.out gt w12 HT12.out HB12.out).mono ?_
      rintro e w13 ⟨u13, rfl, hy13, hb13⟩
      have HB13 := hidD (Below.next HB12.out hb13)
      have HU13 := hidD (HU12.out.next hb13)
      have HV13 := hidD hy13
      clear hy13 hb13 HT12 HB12 HU12 HRS
      go_wp2_with (go_at_call 11; refine (HSD.out _ _ _ HU13.out HV13.out).mono ?_; rintro e w14 ⟨rfl, hb14⟩)
      go_ret
      exact ⟨rfl, Below.next HB13.out hb14⟩
theorem pads_any (x : Int) (n : Nat) (hn : n < 18446744073709551616) (D M : List UInt8) (hD : D.length ≤ 140737488354400) (hM : M.length ≤ 140737488354400) (aD aM : Option Addr) (cD cM : Nat) (hcD : D.length ≤ cD) (w : World) (hbD : ByAt w (.slice aD D.length cD) D) (hbM : ByAt w (.slice aM M.length cM) M) : Calls Try.prog 6 #[.int .i64 x, .int .u64 (n : Int), .slice aD D.length cD, .slice aM M.length cM] w fun e w' => e = .returned (.bool true) ∧ Below w.heap.size w w' := by
  have bad : ∀ (E : Int) (PD : List UInt8), PD.length ≤ 4611686018427387904 → (∀ w, Calls Try.prog 22 #[.int .i64 x, .int .u64 (n : Int)] w (AnsIs w PD E)) → (∀ w, Calls Try.prog 23 #[.int .i64 x, .int .u64 (n : Int)] w (AnsIs w PD E)) → ((x ≠ 224 ∧ x ≠ 256 ∧ x ≠ 384 ∧ x ≠ 512) ∨ x = 224 ∨ x = 384 ∨ (x = 256 ∧ (D.length ≠ 32 ∨ n % 64 ≠ 0)) ∨ (x = 512 ∧ (D.length ≠ 64 ∨ n % 128 ≠ 0))) → Calls Try.prog 6 #[.int .i64 x, .int .u64 (n : Int), .slice aD D.length cD, .slice aM M.length cM] w fun e w' => e = .returned (.bool true) ∧ Below w.heap.size w w' := fun E PD hPD h22 h23 h => pads_bad x E n PD D M hPD hD aD cD _ w hbD h22 h23 (fun a cap w => resume_bad x a D.length cap n (by omega) hn h w) (fun a cap w => rRes_bad x a D.length cap n (by omega) hn h w)
  rcases kind_or x with ⟨k, hk, rfl⟩ | hno
  · obtain ⟨PD, E, hPD, h22, h23⟩ : ∃ (PD : List UInt8) (E : Int), PD.length ≤ 4611686018427387904 ∧ (∀ w, Calls Try.prog 22 #[.int .i64 (k : Int), .int .u64 (n : Int)] w (AnsIs w PD E)) ∧ (∀ w, Calls Try.prog 23 #[.int .i64 (k : Int), .int .u64 (n : Int)] w (AnsIs w PD E)) := by
      by_cases hb : n < 2305843009213693952
      · have hbk : blkN k = 64 ∨ blkN k = 128 := by unfold blkN; split <;> omega
        have hrm := (rm_bound (blkN k) n hbk).2.1
        refine ⟨padL k n, 0, by rw [padL_len]; omega, fun w => ?_, fun w => ?_⟩
        · exact (padLaw_any k hk n hb w).mono fun e w' ⟨g, he, _, hz, hbl⟩ => ⟨_, he, rowZ_byL hz, hbl⟩
        · exact (rPad_any k hk n hb w).mono fun e w' ⟨v, he, ho, hbl⟩ => ⟨v, he, row_by ho, hbl⟩
      · refine ⟨[], 3, by decide, fun w => ?_, fun w => ?_⟩
        · exact (padLaw_big k hk n hn (by omega) w).mono fun e w' ⟨he, hw⟩ => ⟨_, he, ByAt.nil _, by rw [hw]; exact Below.refl _ _⟩
        · exact (rPad_big k hk n hn (by omega) w).mono fun e w' ⟨he, hw⟩ => ⟨_, he, ByAt.nil _, by rw [hw]; exact Below.refl _ _⟩
    rcases hk with rfl | rfl | rfl | rfl
    · exact bad E PD hPD h22 h23 (.inr (.inl rfl))
    · by_cases h1 : D.length = 32 ∧ n % 64 = 0
      · exact pads_ok 256 4 (.inl ⟨rfl, rfl⟩) E n hn h1.2 PD D M hPD h1.1 hM aD aM cD cM w hbD hcD hbM h22 h23
      · exact bad E PD hPD h22 h23 (.inr (.inr (.inr (.inl ⟨rfl, by omega⟩))))
    · exact bad E PD hPD h22 h23 (.inr (.inr (.inl rfl)))
    · by_cases h1 : D.length = 64 ∧ n % 128 = 0
      · exact pads_ok 512 8 (.inr ⟨rfl, rfl⟩) E n hn h1.2 PD D M hPD h1.1 hM aD aM cD cM w hbD hcD hbM h22 h23
      · exact bad E PD hPD h22 h23 (.inr (.inr (.inr (.inr ⟨rfl, by omega⟩))))
  · exact bad 1 [] (by decide) (fun w => (padLaw_no x hno n w).mono fun e w' ⟨he, hw⟩ => ⟨_, he, ByAt.nil _, by rw [hw]; exact Below.refl _ _⟩) (fun w => (rPad_no x hno n w).mono fun e w' ⟨he, hw⟩ => ⟨_, he, ByAt.nil _, by rw [hw]; exact Below.refl _ _⟩) (.inl hno)
end Go.Proofs.Ytnldpofljeodiaa
/- Two blocks that are written; a fork; what own answers, always with a block; pieces. -/
namespace Go.Proofs.Ytnldpofljeodiaa
open Go.RowKit
set_option linter.unusedVariables false

structure But2 (a b : Nat) (w w' : World) : Prop where
  bel : Below 0 w w'
  rest : ∀ i, i < w.heap.size → i ≠ a → i ≠ b → w'.heap[i]? = w.heap[i]?
theorem But2.refl (a b : Nat) (w : World) : But2 a b w w := ⟨Below.refl _ _, fun _ _ _ _ => rfl⟩
theorem But2.next {a b : Nat} {w w1 w2 : World} (h : But2 a b w w1) (k : Below w1.heap.size w1 w2) : But2 a b w w2 :=
  ⟨h.bel.trans (k.mono (Nat.zero_le _)), fun i hi h1 h2 => (k.block i (Nat.lt_of_lt_of_le hi h.bel.size)).trans (h.rest i hi h1 h2)⟩
theorem But2.fst {a b : Nat} {w w1 w2 : World} (h : But2 a b w w1) (k : But a w1 w2) : But2 a b w w2 :=
  ⟨h.bel.trans (k.bel.mono (Nat.zero_le _)), fun i hi h1 h2 => (k.rest i (Nat.lt_of_lt_of_le hi h.bel.size) h1).trans (h.rest i hi h1 h2)⟩
theorem But2.snd {a b : Nat} {w w1 w2 : World} (h : But2 a b w w1) (k : But b w1 w2) : But2 a b w w2 :=
  ⟨h.bel.trans (k.bel.mono (Nat.zero_le _)), fun i hi h1 h2 => (k.rest i (Nat.lt_of_lt_of_le hi h.bel.size) h2).trans (h.rest i hi h1 h2)⟩
theorem But2.new {a b q : Nat} {w w1 w2 : World} (h : But2 a b w w1) (k : But q w1 w2) (hq : w.heap.size ≤ q) : But2 a b w w2 :=
  ⟨h.bel.trans (k.bel.mono (Nat.zero_le _)), fun i hi h1 h2 => (k.rest i (Nat.lt_of_lt_of_le hi h.bel.size) (by omega)).trans (h.rest i hi h1 h2)⟩
theorem But2.below {a b n : Nat} {w w' : World} (h : But2 a b w w') (hn : n ≤ w.heap.size) (ha : n ≤ a) (hb : n ≤ b) : Below n w w' :=
  ⟨h.bel.os, h.bel.tape, h.bel.output, h.bel.size, fun i hi => h.rest i (by omega) (by omega) (by omega)⟩
theorem StAt.but2 {a b g k : Nat} {w w' : World} {s : Ps} (h : StAt w g k s) (hb : But2 a b w w') (h1 : g ≠ a) (h2 : g ≠ b) : StAt w' g k s := (hb.rest g h.lt h1 h2).trans h
theorem row_but2 {a b B e n : Nat} {w w' : World} {v : Value} {xs : List Value} (h : w.ownsRow B e 1 v n xs) (hb : But2 a b w w') (hne : ∀ g, v.ownBlock = some g → g ≠ a ∧ g ≠ b) : w'.ownsRow B e 1 v n xs := by
  refine ⟨h.1, ?_⟩
  rcases h.2 with h1 | ⟨g, cap, cur, h1, h2, h3, h4⟩
  · exact .inl h1
  · have hn := hne g (by rw [h1]; rfl)
    exact .inr ⟨g, cap, cur, h1, h2, (hb.rest g (row_lt h3) hn.1 hn.2).trans h3, h4⟩
theorem row_butQ {q B e n : Nat} {w w' : World} {v : Value} {xs : List Value} (h : w.ownsRow B e 1 v n xs) (hb : But q w w') (hne : ∀ g, v.ownBlock = some g → g ≠ q) : w'.ownsRow B e 1 v n xs := by
  refine ⟨h.1, ?_⟩
  rcases h.2 with h1 | ⟨g, cap, cur, h1, h2, h3, h4⟩
  · exact .inl h1
  · exact .inr ⟨g, cap, cur, h1, h2, (hb.rest g (row_lt h3) (hne g (by rw [h1]; rfl))).trans h3, h4⟩
theorem row_type {B n g q : Nat} {w : World} {v : Value} {xs : List Value} (h : w.ownsRow B 5 1 v n xs) (hg : v.ownBlock = some g) {cs : Array Value} {ty : TypeId} {m : Nat × Nat} (hq : w.heap[q]? = some (.cells cs ty m)) (hty : ty ≠ 5) : g ≠ q := by
  rintro rfl
  rcases h.2 with ⟨h1, _⟩ | ⟨g', cap, cur, h1, _, h3, _⟩
  · rw [h1] at hg; cases hg
  · rw [h1] at hg
    have : g' = g := by simpa [Value.ownBlock] using hg
    subst this
    rw [h3] at hq
    cases hq
    exact hty rfl
/- the fork: none yet, or a state and its bytes -/
def FkAt (k : Nat) (F : Nat → List UInt8) (B gs gt : Nat) (w : World) (cv fv : Value) : Prop := (cv = .pointer none ∧ fv = .slice none 0 0) ∨ ∃ gc f g c, cv = .pointer (some ⟨gc, 0, none⟩) ∧ StAt w gc k (feedP k (newP k) (F f)) ∧ gc ≠ gs ∧ gc ≠ gt ∧ B ≤ gc ∧ fv = .slice (some ⟨g, 0, none⟩) (F f).length c ∧ (F f).length ≤ 1099511627776 ∧ w.ownsRow B 5 1 (.slice (some ⟨g, 0, none⟩) (F f).length c) (F f).length ((F f).map encB)
theorem FkAt.next {k B gs gt : Nat} {F : Nat → List UInt8} {w w' : World} {cv fv : Value} (h : FkAt k F B gs gt w cv fv) (hb : Below w.heap.size w w') : FkAt k F B gs gt w' cv fv := by
  rcases h with h | ⟨gc, f, g, c, h1, h2, h3, h4, h5, h6, h7, h8⟩
  · exact .inl h
  · exact .inr ⟨gc, f, g, c, h1, h2.next hb, h3, h4, h5, h6, h7, row_below h8 hb⟩
theorem FkAt.but2 {k B gs gt : Nat} {F : Nat → List UInt8} {w w' : World} {cv fv : Value} (h : FkAt k F B gs gt w cv fv) (hb : But2 gs gt w w') {cs ds : Array Value} {m1 m2 : Nat × Nat} (hs : w.heap[gs]? = some (.cells cs (92 : TypeId) m1)) (ht : w.heap[gt]? = some (.cells ds (54 : TypeId) m2)) : FkAt k F B gs gt w' cv fv := by
  rcases h with h | ⟨gc, f, g, c, h1, h2, h3, h4, h5, h6, h7, h8⟩
  · exact .inl h
  · exact .inr ⟨gc, f, g, c, h1, h2.but2 hb h3 h4, h3, h4, h5, h6, h7, row_but2 h8 hb fun q hq => ⟨row_type h8 hq hs (by decide), row_type h8 hq ht (by decide)⟩⟩
theorem HfT.block {w : World} {g k A : Nat} {c : Nat → Nat} {vb : Value} (h : HfT w g k c A vb) : ∃ ds : Array Value, w.heap[g]? = some (.cells ds (54 : TypeId) (0, 0)) := by
  obtain ⟨gk, ok, ck, gh, oh, ch, h1, _⟩ := h
  exact ⟨_, h1⟩
theorem StAt.block {w : World} {g k : Nat} {s : Ps} (h : StAt w g k s) : ∃ ds : Array Value, w.heap[g]? = some (.cells ds (92 : TypeId) (0, 0)) := ⟨_, h⟩
/-- A slice of slices reads as these texts. -/
def PcAt (w : World) (sl : Value) (L : List (List UInt8)) : Prop := ∃ a cap, sl = .slice a L.length cap ∧ ∀ k, k < L.length → ∃ g off v, a = some ⟨g, off, none⟩ ∧ g < w.heap.size ∧ w.cell? ⟨g, off + k, none⟩ = some v ∧ ByAt w v (L.getD k [])
theorem flat_take {L : List (List UInt8)} {k : Nat} (h : k < L.length) : (L.take (k + 1)).flatten = (L.take k).flatten ++ L.getD k [] := by
  rw [List.take_add_one, List.flatten_append, List.getElem?_eq_getElem h, List.getD_eq_getElem?_getD, List.getElem?_eq_getElem h]; simp
theorem flat_le {L : List (List UInt8)} (hp : ∀ k, k < L.length → (L.getD k []).length ≤ 1048576) : ∀ k, k ≤ L.length → (L.take k).flatten.length ≤ k * 1048576
  | 0, _ => by simp
  | k + 1, h => by
    have h1 := flat_le hp k (by omega)
    have h2 := hp k (by omega)
    rw [flat_take (by omega), List.length_append]; omega
/- own's answer has a block of its own, however short it is -/
def OwIs (L : List UInt8) (w : World) (e : Ending) (w' : World) : Prop := ∃ g c, e = .returned (.slice (some ⟨g, 0, none⟩) L.length c) ∧ w.heap.size ≤ g ∧ g < w'.heap.size ∧ L.length ≤ c ∧ w'.ownsRow w.heap.size 5 1 (.slice (some ⟨g, 0, none⟩) L.length c) L.length (L.map encB) ∧ Below w.heap.size w w'
theorem OwIs.of {L : List UInt8} {w w' : World} {v : Value} (h : w'.ownsRow w.heap.size 5 1 v L.length (L.map encB)) (hn : v ≠ .slice none 0 0) (hb : Below w.heap.size w w') : OwIs L w (.returned v) w' := by
  rcases id h.2 with ⟨h1, _⟩ | ⟨g, cap, cur, rfl, h2, h3, h4, _⟩
  · exact absurd h1 hn
  · exact ⟨g, cap, rfl, h2, row_lt h3, h4, h, hb⟩
set_option maxRecDepth 100000 in
theorem ownC_any (L : List UInt8) (hL : L.length ≤ 140737488355328) (a : Option Addr) (cap : Nat) (w : World) (hB : ByAt w (.slice a L.length cap) L) : Calls Try.prog 8 #[.slice a L.length cap] w (OwIs L w) := by
  rcases Nat.eq_zero_or_pos L.length with h0 | h0
  · obtain rfl : L = [] := List.length_eq_zero_iff.1 h0
    have HR0 : Hid ((w.alloc (.cells #[] (5 : TypeId))).ownsRow w.heap.size 5 1 (.slice (some ⟨w.heap.size, 0, none⟩) 0 0) 0 []) := World.ownsRow_made w #[] 0 (Nat.le_refl _) (by unfold maxLen; omega) rfl
    have HB0 : Hid (Below w.heap.size w (w.alloc (.cells #[] (5 : TypeId)))) := (Below.refl _ _).alloc (Nat.le_refl _) _
    obtain ⟨i0, hi, hz0, hz1, hz2⟩ := info_parts Try.info5
    cases a with
    | none =>
      obtain rfl : cap = 0 := by
        rcases hB with ⟨_, a', c', he, hc⟩ | ⟨g, off, c', he, _⟩
        · cases he; exact hc rfl
        · cases he
      clear hB
      go_enter Try.func8, Try.ntmps8
      go_wp2_with (at_builtin; refine wpList_append_own_none rfl _ _ 22 rfl w.heap.size 5 i0 1 Try.underlying22 hi (.slice (some ⟨w.heap.size, 0, none⟩) 0 0) 0 [] rfl HR0.out rfl ?_)
      refine bodyPost_ret (v := .slice (some ⟨w.heap.size, 0, none⟩) 0 0) (by simp [results, Try.results8, go_sem]) rfl ?_
      exact OwIs.of (L := []) HR0.out (by simp) HB0.out
    | some ad =>
      clear hB
      go_enter Try.func8, Try.ntmps8
      go_wp2_with (at_builtin; refine wpList_append_own _ rfl _ _ 22 rfl w.heap.size 5 i0 (.int .u8 0) 1 1 Try.underlying22 hi hz0 hz1 hz2 rfl (by decide) (.slice (some ⟨w.heap.size, 0, none⟩) 0 0) 0 [] rfl HR0.out ad 0 cap [] rfl (by simp) (fun j u hu => by simp at hu) (by simp) (by unfold maxLen; omega) (by omega) HB0.out.size ?_; intro v1 w1 hown1 hg1 hnil1; have HB1 := hidD (row_grown HR0.out HB0.out hg1 HB0.out.size); clear hg1)
      rw [List.nil_append, Nat.zero_add] at hown1
      obtain ⟨a1, k1, rfl⟩ := row_shape hown1
      refine bodyPost_ret (v := .slice a1 0 k1) (by simp [results, Try.results8, go_sem]) rfl ?_
      exact OwIs.of (L := []) hown1 (fun he => by have := hnil1.1 he; simp at this) HB1.out
  · refine (ownB_any L hL a cap w hB).mono fun e w' ⟨a', c', he, ho, hb⟩ => ?_
    subst he
    exact OwIs.of ho (fun he => by injection he with _ h2 _; omega) hb
end Go.Proofs.Ytnldpofljeodiaa
