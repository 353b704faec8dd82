/- What the program's Counter, Chain and Unchain answer. -/
import Derived.Test.YtgefampdfhbmbaaMl
import Derived.Test.YtgefampdfhbmbaaMo
import Derived.Test.YtgefampdfhbmbaaMp
import Derived.Laws.ByValue
namespace Go.Proofs.Ytgefampdfhbmbaa
open Go.RowKit
set_option linter.unusedVariables false

/-- Block k of these data. -/
def cutS (d : List UInt8) (k : Nat) : Nat → UInt8 := blk ((d.drop (16 * k)).take 16)
theorem cut_at (d : List UInt8) (k : Nat) {j : Nat} (hj : j < 16) : cutS d k j = d.getD (16 * k + j) 0 := by
  unfold cutS blk
  rw [List.getD_eq_getElem?_getD, List.getElem?_take_of_lt hj, List.getElem?_drop, ← List.getD_eq_getElem?_getD]
theorem cut_bk (d : List UInt8) (k : Nat) : Same16 (cutS d k) (bkA d k) := fun j hj => cut_at d k hj
theorem cut_here (d : List UInt8) (i : Nat) : cutS d (i / 16) (i % 16) = d.getD i 0 := by
  rw [cut_at d _ (Nat.mod_lt _ (by omega)), show 16 * (i / 16) + i % 16 = i by omega]
theorem ctr_map (E : (Nat → UInt8) → Nat → UInt8) (s : Nat → UInt8) (d : List UInt8) : ((List.range d.length).map fun i => xoB (cutS d (i / 16)) (E (ctrS s (i / 16))) (i % 16)) = cntS E s d := by
  unfold cntS
  refine List.map_congr_left fun i _ => ?_
  unfold xoB ksS
  rw [cut_here]
/-- The chain as the program has it. -/
def chP (E : (Nat → UInt8) → Nat → UInt8) (s : Nat → UInt8) (d : List UInt8) : Nat → Nat → UInt8
  | 0 => s
  | k + 1 => E (xoB (cutS d k) (chP E s d k))
theorem chP_same {E : (Nat → UInt8) → Nat → UInt8} (hE : ∀ {a b}, Same16 a b → Same16 (E a) (E b)) (s : Nat → UInt8) (d : List UInt8) : ∀ k, Same16 (chP E s d k) (chTo E s d k)
  | 0 => Same16.rfl' _
  | k + 1 => hE (xo_same (cut_bk d k) (chP_same hE s d k))
theorem ch_map {E : (Nat → UInt8) → Nat → UInt8} (hE : ∀ {a b}, Same16 a b → Same16 (E a) (E b)) (s : Nat → UInt8) (d : List UInt8) : ((List.range d.length).map fun i => chP E s d (i / 16 + 1) (i % 16)) = chS E s d := by
  unfold chS
  exact List.map_congr_left fun i _ => chP_same hE s d _ _ (Nat.mod_lt _ (by omega))
/-- The block ahead, as the program has it. -/
def ahP (s : Nat → UInt8) (d : List UInt8) : Nat → Nat → UInt8
  | 0 => s
  | k + 1 => cutS d k
theorem ahP_same (s : Nat → UInt8) (d : List UInt8) : ∀ k, Same16 (ahP s d k) (ahA s d k)
  | 0 => Same16.rfl' _
  | k + 1 => cut_bk d k
theorem unch_map {D : (Nat → UInt8) → Nat → UInt8} (hD : ∀ {a b}, Same16 a b → Same16 (D a) (D b)) (s : Nat → UInt8) (d : List UInt8) : ((List.range d.length).map fun i => xoB (D (cutS d (i / 16))) (ahP s d (i / 16)) (i % 16)) = unchS D s d := by
  unfold unchS
  refine List.map_congr_left fun i _ => ?_
  unfold xoB
  rw [hD (cut_bk d _) _ (Nat.mod_lt _ (by omega)), ahP_same s d _ _ (Nat.mod_lt _ (by omega))]
theorem enS_same {R : Nat} {rk : Nat → Nat → UInt8} {a b : Nat → UInt8} (h : Same16 a b) : Same16 (enS R rk a) (enS R rk b) := en_same h R
theorem deS_same {R : Nat} {rk : Nat → Nat → UInt8} {a b : Nat → UInt8} (h : Same16 a b) : Same16 (deS R rk a) (deS R rk b) := xo_same (de_same h R) (Same16.rfl' _)
theorem SlAt.off {w : World} {v : Value} {l : List UInt8} (h : SlAt w v l) {g : Nat} (hg : w.heap.size ≤ g) (h0 : 0 < l.length) : Off v g := h.by'.off hg (fun he => by rw [he] at h0; simp at h0)
theorem pRefCh_nil (v u : Value) (w : World) : Calls Try.prog 53 #[.pointer none, v, u] w fun e w' => e = .returned (.int .i64 2) ∧ w' = w := by
  have HR := hidD (fun w => pRefused_nil v w)
  go_enter Try.func53, Try.ntmps53
  go_wp2_with (go_at_call 41; refine (HR.out _).mono ?_; rintro e w1 ⟨rfl, rfl⟩)
  go_ret
  exact ⟨rfl, rfl⟩
theorem pRefCh_no (p len cap : Nat) (a : Option Addr) (hl : len ≠ 16) (u : Value) (w : World) : Calls Try.prog 53 #[.pointer (some ⟨p, 0, none⟩), .slice a len cap, u] w fun e w' => e = .returned (.int .i64 91) ∧ w' = w := by
  have HR := hidD (fun w => pRefused_no p len cap a hl w)
  clear hl
  go_enter Try.func53, Try.ntmps53
  go_wp2_with (go_at_call 41; refine (HR.out _).mono ?_; rintro e w1 ⟨rfl, rfl⟩)
  go_ret
  exact ⟨rfl, rfl⟩
theorem pRefCh_bad (p cap len c2 : Nat) (a b : Option Addr) (hl : len % 16 ≠ 0) (hm : len ≤ 9223372036854775807) (w : World) : Calls Try.prog 53 #[.pointer (some ⟨p, 0, none⟩), .slice a 16 cap, .slice b len c2] w fun e w' => e = .returned (.int .i64 91) ∧ w' = w := by
  have HR := hidD (fun w => pRefused_ok p cap a w)
  have hq : (len : Int).tmod 16 = ((len % 16 : Nat) : Int) := by rw [Int.tmod_eq_emod_of_nonneg (by omega)]; omega
  have h1 : ¬ ((len % 16 : Nat) : Int) = 0 := by omega
  have h2 : (((len % 16 : Nat) : Int) != 0) = true := bne_iff_ne.2 h1
  clear hl
  generalize len % 16 = q at *
  go_enter Try.func53, Try.ntmps53
  go_wp2_with (go_at_call 41; refine (HR.out _).mono ?_; rintro e w1 ⟨rfl, rfl⟩)
  go_ret
  exact ⟨rfl, rfl⟩
theorem pRefCh_ok (p cap len c2 : Nat) (a b : Option Addr) (hl : len % 16 = 0) (hm : len ≤ 9223372036854775807) (w : World) : Calls Try.prog 53 #[.pointer (some ⟨p, 0, none⟩), .slice a 16 cap, .slice b len c2] w fun e w' => e = .returned (.int .i64 0) ∧ w' = w := by
  have HR := hidD (fun w => pRefused_ok p cap a w)
  have hq : (len : Int).tmod 16 = 0 := by rw [Int.tmod_eq_emod_of_nonneg (by omega)]; omega
  clear hl
  go_enter Try.func53, Try.ntmps53
  go_wp2_with (go_at_call 41; refine (HR.out _).mono ?_; rintro e w1 ⟨rfl, rfl⟩)
  go_ret
  exact ⟨rfl, rfl⟩
set_option maxRecDepth 100000 in
set_option maxHeartbeats 1600000 in
theorem pChaining_any (n B p : Nat) (key c : Nat → UInt8) (w : World) (h : AcAt w B p n key) : Calls Try.prog 54 #[.pointer (some ⟨p, 0, none⟩), .agg (bR c)] w fun e w' => e = .returned (.func (.func 71) #[] #[.pointer (some ⟨w.heap.size, 0, none⟩), .pointer (some ⟨w.heap.size + 1, 0, none⟩)]) ∧ CsAt w' B p n key w.heap.size (w.heap.size + 1) c ∧ Below w.heap.size w w' := by
  have HA := hidD h
  have sz : ∀ (w : World) o, (w.alloc o).heap.size = w.heap.size + 1 := fun w o => by simp
  have B1 : Hid (Below w.heap.size w ((w.alloc (.cells #[.pointer (some ⟨p, 0, none⟩)] (23 : TypeId))).alloc (.cells (bR c) (59 : TypeId)))) := ((Below.refl _ _).alloc (Nat.le_refl _) _).alloc (by rw [sz]; omega) _
  have C1 : Hid (((w.alloc (.cells #[.pointer (some ⟨p, 0, none⟩)] (23 : TypeId))).alloc (.cells (bR c) (59 : TypeId))).heap[w.heap.size]? = some (.cells #[.pointer (some ⟨p, 0, none⟩)] (23 : TypeId) (0, 0))) := by
    show _ = _
    rw [Below.heap_alloc _ _ _ (by rw [sz]; omega)]; exact heap_alloc_last _ _
  have R1 : Hid (RowZ ((w.alloc (.cells #[.pointer (some ⟨p, 0, none⟩)] (23 : TypeId))).alloc (.cells (bR c) (59 : TypeId))) (w.heap.size + 1) .u8 16 59 (fun i => ((c i).toNat : Int))) := by
    have := heap_alloc_last (w.alloc (.cells #[.pointer (some ⟨p, 0, none⟩)] (23 : TypeId))) (.cells (bR c) (59 : TypeId)); rw [sz] at this; exact this
  have P1 : Hid (((w.alloc (.cells #[.pointer (some ⟨p, 0, none⟩)] (23 : TypeId))).alloc (.cells (bR c) (59 : TypeId))).cell? ⟨w.heap.size, 0, none⟩ = some (.pointer (some ⟨p, 0, none⟩))) := by
    show _ = _
    rw [cell_of_row _ _ _ _ _ _ C1.out]; rfl
  clear h sz
  go_enter Try.func54, Try.ntmps54
  go_wp2_with fail
  refine bodyPost_ret (v := .func (.func 71) #[] #[.pointer (some ⟨w.heap.size, 0, none⟩), .pointer (some ⟨w.heap.size + 1, 0, none⟩)]) (by simp [results, Try.results54, go_sem]) rfl ?_
  exact ⟨rfl, ⟨HA.out.next B1.out, P1.out, row_lt C1.out, R1.out, by have := HA.out.lt; omega, by omega⟩, B1.out⟩
theorem pCounter_nil (v u : Value) (w : World) : Calls Try.prog 22 #[.pointer none, v, u] w fun e w' => ∃ vo, e = .returned (.tuple #[vo, .int .i64 2]) ∧ SlAt w' vo [] ∧ Below w.heap.size w w' := by
  have HR := hidD (fun w => pRefused_nil v w)
  have Y1 : Hid (Below w.heap.size w (w.alloc (.cells #[.pointer none] (23 : TypeId)))) := (Below.refl _ _).alloc (Nat.le_refl _) _
  have y2 : (w.alloc (.cells #[.pointer none] (23 : TypeId))).cell? ⟨w.heap.size, 0, none⟩ = some (.pointer none) := by rw [cell_of_row _ _ _ _ _ _ (heap_alloc_last _ _)]; rfl
  go_enter Try.func22, Try.ntmps22
  go_wp2_with (go_at_call 41; refine (HR.out _).mono ?_; rintro e w1 ⟨rfl, hw1⟩; subst hw1)
  refine bodyPost_ret (v := .tuple #[.slice none 0 0, .int .i64 2]) (by simp [results, Try.results22, go_sem]) rfl ?_
  exact ⟨_, rfl, sl_nil _, Y1.out⟩
theorem pCounter_no (l d : List UInt8) (hl : l.length ≠ 16) (n B p : Nat) (key : Nat → UInt8) (v u : Value) (w : World) (h : AcAt w B p n key) (hv : ByAt w v l) (hu : SlAt w u d) : Calls Try.prog 22 #[.pointer (some ⟨p, 0, none⟩), v, u] w fun e w' => ∃ vo, e = .returned (.tuple #[vo, .int .i64 91]) ∧ SlAt w' vo [] ∧ Below w.heap.size w w' := by
  obtain ⟨a, cap, rfl⟩ := hv.len
  have HR := hidD (fun w => pRefused_no p l.length cap a hl w)
  have Y1 : Hid (Below w.heap.size w (w.alloc (.cells #[.pointer (some ⟨p, 0, none⟩)] (23 : TypeId)))) := (Below.refl _ _).alloc (Nat.le_refl _) _
  have y2 : (w.alloc (.cells #[.pointer (some ⟨p, 0, none⟩)] (23 : TypeId))).cell? ⟨w.heap.size, 0, none⟩ = some (.pointer (some ⟨p, 0, none⟩)) := by rw [cell_of_row _ _ _ _ _ _ (heap_alloc_last _ _)]; rfl
  clear hv h hl
  go_enter Try.func22, Try.ntmps22
  go_wp2_with (go_at_call 41; refine (HR.out _).mono ?_; rintro e w1 ⟨rfl, hw1⟩; subst hw1)
  refine bodyPost_ret (v := .tuple #[.slice none 0 0, .int .i64 91]) (by simp [results, Try.results22, go_sem]) rfl ?_
  exact ⟨_, rfl, sl_nil _, Y1.out⟩
theorem pChain_nil (v u : Value) (w : World) : Calls Try.prog 24 #[.pointer none, v, u] w fun e w' => ∃ vo, e = .returned (.tuple #[vo, .int .i64 2]) ∧ SlAt w' vo [] ∧ Below w.heap.size w w' := by
  have HR := hidD (fun w => pRefCh_nil v u w)
  go_enter Try.func24, Try.ntmps24
  go_wp2_with (go_at_call 53; refine (HR.out _).mono ?_; rintro e w1 ⟨rfl, hw1⟩; subst hw1)
  refine bodyPost_ret (v := .tuple #[.slice none 0 0, .int .i64 2]) (by simp [results, Try.results24, go_sem]) rfl ?_
  exact ⟨_, rfl, sl_nil _, Below.refl _ _⟩
theorem pChain_no (l d : List UInt8) (hl : l.length ≠ 16 ∨ d.length % 16 ≠ 0) (n B p : Nat) (key : Nat → UInt8) (v u : Value) (w : World) (h : AcAt w B p n key) (hv : ByAt w v l) (hu : SlAt w u d) : Calls Try.prog 24 #[.pointer (some ⟨p, 0, none⟩), v, u] w fun e w' => ∃ vo, e = .returned (.tuple #[vo, .int .i64 91]) ∧ SlAt w' vo [] ∧ Below w.heap.size w w' := by
  obtain ⟨a, cap, rfl⟩ := hv.len
  obtain ⟨⟨b, c2, rfl, hc2, hc3⟩, _⟩ := hu
  have HR : Hid (∀ w : World, Calls Try.prog 53 #[.pointer (some ⟨p, 0, none⟩), .slice a l.length cap, .slice b d.length c2] w fun e w' => e = .returned (.int .i64 91) ∧ w' = w) := fun w => by
    by_cases h16 : l.length = 16
    · rw [h16]; exact pRefCh_bad p cap d.length c2 a b (by omega) (by omega) w
    · exact pRefCh_no p l.length cap a h16 _ w
  clear hv h hl
  go_enter Try.func24, Try.ntmps24
  go_wp2_with (go_at_call 53; refine (HR.out _).mono ?_; rintro e w1 ⟨rfl, hw1⟩; subst hw1)
  refine bodyPost_ret (v := .tuple #[.slice none 0 0, .int .i64 91]) (by simp [results, Try.results24, go_sem]) rfl ?_
  exact ⟨_, rfl, sl_nil _, Below.refl _ _⟩
theorem pUnchain_nil (v u : Value) (w : World) : Calls Try.prog 26 #[.pointer none, v, u] w fun e w' => ∃ vo, e = .returned (.tuple #[vo, .int .i64 2]) ∧ SlAt w' vo [] ∧ Below w.heap.size w w' := by
  have HR := hidD (fun w => pRefCh_nil v u w)
  have Y1 : Hid (Below w.heap.size w (w.alloc (.cells #[.pointer none] (23 : TypeId)))) := (Below.refl _ _).alloc (Nat.le_refl _) _
  have y2 : (w.alloc (.cells #[.pointer none] (23 : TypeId))).cell? ⟨w.heap.size, 0, none⟩ = some (.pointer none) := by rw [cell_of_row _ _ _ _ _ _ (heap_alloc_last _ _)]; rfl
  go_enter Try.func26, Try.ntmps26
  go_wp2_with (go_at_call 53; refine (HR.out _).mono ?_; rintro e w1 ⟨rfl, hw1⟩; subst hw1)
  refine bodyPost_ret (v := .tuple #[.slice none 0 0, .int .i64 2]) (by simp [results, Try.results26, go_sem]) rfl ?_
  exact ⟨_, rfl, sl_nil _, Y1.out⟩
theorem pUnchain_no (l d : List UInt8) (hl : l.length ≠ 16 ∨ d.length % 16 ≠ 0) (n B p : Nat) (key : Nat → UInt8) (v u : Value) (w : World) (h : AcAt w B p n key) (hv : ByAt w v l) (hu : SlAt w u d) : Calls Try.prog 26 #[.pointer (some ⟨p, 0, none⟩), v, u] w fun e w' => ∃ vo, e = .returned (.tuple #[vo, .int .i64 91]) ∧ SlAt w' vo [] ∧ Below w.heap.size w w' := by
  obtain ⟨a, cap, rfl⟩ := hv.len
  obtain ⟨⟨b, c2, rfl, hc2, hc3⟩, _⟩ := hu
  have HR : Hid (∀ w : World, Calls Try.prog 53 #[.pointer (some ⟨p, 0, none⟩), .slice a l.length cap, .slice b d.length c2] w fun e w' => e = .returned (.int .i64 91) ∧ w' = w) := fun w => by
    by_cases h16 : l.length = 16
    · rw [h16]; exact pRefCh_bad p cap d.length c2 a b (by omega) (by omega) w
    · exact pRefCh_no p l.length cap a h16 _ w
  have Y1 : Hid (Below w.heap.size w (w.alloc (.cells #[.pointer (some ⟨p, 0, none⟩)] (23 : TypeId)))) := (Below.refl _ _).alloc (Nat.le_refl _) _
  have y2 : (w.alloc (.cells #[.pointer (some ⟨p, 0, none⟩)] (23 : TypeId))).cell? ⟨w.heap.size, 0, none⟩ = some (.pointer (some ⟨p, 0, none⟩)) := by rw [cell_of_row _ _ _ _ _ _ (heap_alloc_last _ _)]; rfl
  clear hv h hl
  go_enter Try.func26, Try.ntmps26
  go_wp2_with (go_at_call 53; refine (HR.out _).mono ?_; rintro e w1 ⟨rfl, hw1⟩; subst hw1)
  refine bodyPost_ret (v := .tuple #[.slice none 0 0, .int .i64 91]) (by simp [results, Try.results26, go_sem]) rfl ?_
  exact ⟨_, rfl, sl_nil _, Y1.out⟩
set_option maxRecDepth 100000 in
set_option maxHeartbeats 3200000 in
theorem pCounter_any (l d : List UInt8) (hl : l.length = 16) (hd : d.length ≤ 140737488355300)  (n B p : Nat) (hn : n ≤ 8) (key : Nat → UInt8) (v u : Value) (w : World) (h : AcAt w B p n key) (hv : ByAt w v l) (hu : SlAt w u d) : Calls Try.prog 22 #[.pointer (some ⟨p, 0, none⟩), v, u] w fun e w' => ∃ vo, e = .returned (.tuple #[vo, .int .i64 0]) ∧ SlAt w' vo (cntS (enS (n + 6) (rkS n key)) (blk l) d) ∧ Below w.heap.size w w' := by
  have X1 : Hid (Below w.heap.size w (w.alloc (.cells #[.pointer (some ⟨p, 0, none⟩)] (23 : TypeId)))) := (Below.refl _ _).alloc (Nat.le_refl _) _
  have X2 : Hid ((w.alloc (.cells #[.pointer (some ⟨p, 0, none⟩)] (23 : TypeId))).heap[w.heap.size]? = some (.cells #[.pointer (some ⟨p, 0, none⟩)] (23 : TypeId) (0, 0))) := heap_alloc_last _ _
  have x3 : (w.alloc (.cells #[.pointer (some ⟨p, 0, none⟩)] (23 : TypeId))).cell? ⟨w.heap.size, 0, none⟩ = some (.pointer (some ⟨p, 0, none⟩)) := by rw [cell_of_row _ _ _ _ _ _ X2.out]; rfl
  have HBO := hidD (pBlockOf16_any l hl v (w.alloc (.cells #[.pointer (some ⟨p, 0, none⟩)] (23 : TypeId))) (hv.next X1.out))
  obtain ⟨a, cap, rfl⟩ := hv.len
  rw [hl] at *
  have HU := hidD hu
  have HA := hidD h
  obtain ⟨⟨ub, uc, rfl, hc2, hc3⟩, _⟩ := hu
  have HR := hidD (fun w => pRefused_ok p cap a w)
  obtain ⟨hz, hsz⟩ := zero_of_info Try.zero59
  have hz0 : (rowZ .u8 16 (fun _ => 0)) = bR (fun _ => 0) := rfl
  rw [hz0] at hz
  have hbs : ∀ c : Nat → UInt8, (bR c).size = 16 := fun c => rowZ_size _ _ _
  have HIB : Hid (∀ c : Nat → UInt8, (Try.prog.info? 59).map (·.size) = some (bR c).size) := fun c => by rw [hsz, hbs]
  have HON : Hid (∀ c : Nat → UInt8, (bR c).all (·.oneCell') = true) := fun c => rowZ_one _ _ _
  have HSB : Hid (∀ c d : Nat → UInt8, (bR c).size = (bR d).size) := fun c d => by rw [hbs, hbs]
  have HMAP := hidD (ctr_map (enS (n + 6) (rkS n key)) (blk l) d)
  -- the walk, from whatever world in which the closure's blocks lie
  have HWK : Hid (∀ (w4 : World) (cn : Nat), Below w.heap.size w w4 → w.heap.size < cn → CsAt w4 B p n key w.heap.size cn (blk l) → Calls Try.prog 49 #[.slice ub d.length uc, .func (.func 50) #[] #[.pointer (some ⟨w.heap.size, 0, none⟩), .pointer (some ⟨cn, 0, none⟩)]] w4 fun e w' => ∃ vo, e = .returned vo ∧ SlAt w' vo (cntS (enS (n + 6) (rkS n key)) (blk l) d) ∧ Below w.heap.size w w') := fun w4 cn hb hcn hcs => by
    have hw := pWalk50_any d hd w.heap.size cn (fun a k => CsAt a B p n key w.heap.size cn (ctrS (blk l) k)) (fun k => xoB (cutS d k) (enS (n + 6) (rkS n key) (ctrS (blk l) k))) (.slice ub d.length uc) w4 (HU.out.next hb) hcs.row.lt (fun h0 => HU.out.off (by omega) h0)
      (fun k a b ha hs hk hle => ha.same hcs.ac.lt hcs.cbl hcs.row.lt hk hle) hcs (fun k hk a ha => pCtr_any n B p hn key w.heap.size cn _ _ a ha)
    refine hw.mono ?_
    rintro e w' ⟨vo, rfl, hsl, _, hbu⟩
    refine ⟨vo, rfl, ?_, hb.trans (hbu.bel.mono (by omega))⟩
    rw [← HMAP.out]; exact hsl
  clear hv h hl hbs hsz hz0 hn
  go_enter Try.func22, Try.ntmps22
  go_wp2_with (first
    | (go_at_call 41; refine (HR.out _).mono ?_; rintro e w1 ⟨rfl, hw1⟩; subst hw1)
    | (go_at_call 43; refine HBO.out.mono ?_; rintro e w2 ⟨rfl, hb2⟩; have HB2 := hidD hb2; have HN2 : Hid (RowZ (w2.alloc (.cells (bR (fun _ => 0)) (59 : TypeId))) w2.heap.size .u8 16 59 (fun i => (((fun _ => 0 : Nat → UInt8) i).toNat : Int))) := RowZ.new w2 .u8 16 59 _; clear hb2)
    | (refine wpList_store_row rfl 59 _ _ rfl w2.heap.size (bR (blk l)) rfl rfl 59 (bR (fun _ => 0)) HN2.out (HIB.out _) (HSB.out _ _) (HON.out _) ?_; have R4 : Hid (RowZ ((w2.alloc (.cells (bR (fun _ => 0)) (59 : TypeId))).setRow w2.heap.size (bR (blk l))) w2.heap.size .u8 16 59 (fun i => ((blk l i).toNat : Int))) := row_new HN2.out; have B4 : Hid (Below w2.heap.size w2 ((w2.alloc (.cells (bR (fun _ => 0)) (59 : TypeId))).setRow w2.heap.size (bR (blk l)))) := below_setRow ((Below.refl _ _).alloc (Nat.le_refl _) _) (Nat.le_refl _) _; generalize (w2.alloc (.cells (bR (fun _ => 0)) (59 : TypeId))).setRow w2.heap.size (bR (blk l)) = w4 at *; have BW4 : Hid (Below w.heap.size w w4) := (X1.out.trans (HB2.out.mono X1.out.size)).trans (B4.out.mono (Nat.le_trans X1.out.size HB2.out.size)); have L4 : Hid (w.heap.size < w2.heap.size) := Nat.lt_of_lt_of_le (row_lt X2.out) HB2.out.size; have H4 : Hid (w4.heap[w.heap.size]? = some (.cells #[.pointer (some ⟨p, 0, none⟩)] (23 : TypeId) (0, 0))) := (B4.out.block _ L4.out).trans ((HB2.out.block _ (row_lt X2.out)).trans X2.out); have CS4 : Hid (CsAt w4 B p n key w.heap.size w2.heap.size (blk l)) := ⟨HA.out.next BW4.out, (by rw [cell_of_row _ _ _ _ _ _ H4.out]; rfl), row_lt H4.out, R4.out, (by have := HA.out.lt; have := L4.out; omega), (by have := L4.out; omega)⟩; clear R4 B4 H4 HN2 HB2)
    | (go_at_call 49; refine (HWK.out _ _ BW4.out L4.out CS4.out).mono ?_; rintro e w6 ⟨vo, rfl, hs6, hb6⟩; have HS6 := hidD hs6; have HB6 := hidD hb6; clear hs6 hb6))
  refine bodyPost_ret (v := .tuple #[vo, .int .i64 0]) (by simp [results, Try.results22, go_sem]) rfl ?_
  exact ⟨_, rfl, HS6.out, HB6.out⟩
set_option maxRecDepth 100000 in
set_option maxHeartbeats 3200000 in
theorem pUnchain_any (l d : List UInt8) (hl : l.length = 16) (hd : d.length ≤ 140737488355300) (hd16 : d.length % 16 = 0) (n B p : Nat) (hn : n ≤ 8) (key : Nat → UInt8) (v u : Value) (w : World) (h : AcAt w B p n key) (hv : ByAt w v l) (hu : SlAt w u d) : Calls Try.prog 26 #[.pointer (some ⟨p, 0, none⟩), v, u] w fun e w' => ∃ vo, e = .returned (.tuple #[vo, .int .i64 0]) ∧ SlAt w' vo (unchS (deS (n + 6) (rkS n key)) (blk l) d) ∧ Below w.heap.size w w' := by
  have X1 : Hid (Below w.heap.size w (w.alloc (.cells #[.pointer (some ⟨p, 0, none⟩)] (23 : TypeId)))) := (Below.refl _ _).alloc (Nat.le_refl _) _
  have X2 : Hid ((w.alloc (.cells #[.pointer (some ⟨p, 0, none⟩)] (23 : TypeId))).heap[w.heap.size]? = some (.cells #[.pointer (some ⟨p, 0, none⟩)] (23 : TypeId) (0, 0))) := heap_alloc_last _ _
  have x3 : (w.alloc (.cells #[.pointer (some ⟨p, 0, none⟩)] (23 : TypeId))).cell? ⟨w.heap.size, 0, none⟩ = some (.pointer (some ⟨p, 0, none⟩)) := by rw [cell_of_row _ _ _ _ _ _ X2.out]; rfl
  have HBO := hidD (pBlockOf16_any l hl v (w.alloc (.cells #[.pointer (some ⟨p, 0, none⟩)] (23 : TypeId))) (hv.next X1.out))
  obtain ⟨a, cap, rfl⟩ := hv.len
  rw [hl] at *
  have HU := hidD hu
  have HA := hidD h
  obtain ⟨⟨ub, uc, rfl, hc2, hc3⟩, _⟩ := hu
  have HR := hidD (fun w => pRefCh_ok p cap d.length uc a ub hd16 (by omega) w)
  obtain ⟨hz, hsz⟩ := zero_of_info Try.zero59
  have hz0 : (rowZ .u8 16 (fun _ => 0)) = bR (fun _ => 0) := rfl
  rw [hz0] at hz
  have hbs : ∀ c : Nat → UInt8, (bR c).size = 16 := fun c => rowZ_size _ _ _
  have HIB : Hid (∀ c : Nat → UInt8, (Try.prog.info? 59).map (·.size) = some (bR c).size) := fun c => by rw [hsz, hbs]
  have HON : Hid (∀ c : Nat → UInt8, (bR c).all (·.oneCell') = true) := fun c => rowZ_one _ _ _
  have HSB : Hid (∀ c d : Nat → UInt8, (bR c).size = (bR d).size) := fun c d => by rw [hbs, hbs]
  have HMAP := hidD (unch_map (D := deS (n + 6) (rkS n key)) (fun h => deS_same h) (blk l) d)
  -- the walk, from whatever world in which the closure's blocks lie
  have HWK : Hid (∀ (w4 : World) (cn : Nat), Below w.heap.size w w4 → w.heap.size < cn → CsAt w4 B p n key w.heap.size cn (blk l) → Calls Try.prog 49 #[.slice ub d.length uc, .func (.func 56) #[] #[.pointer (some ⟨w.heap.size, 0, none⟩), .pointer (some ⟨cn, 0, none⟩)]] w4 fun e w' => ∃ vo, e = .returned vo ∧ SlAt w' vo (unchS (deS (n + 6) (rkS n key)) (blk l) d) ∧ Below w.heap.size w w') := fun w4 cn hb hcn hcs => by
    have hw := pWalk56_any d hd w.heap.size cn (fun a k => CsAt a B p n key w.heap.size cn (ahP (blk l) d k)) (fun k => xoB (deS (n + 6) (rkS n key) (cutS d k)) (ahP (blk l) d k)) (.slice ub d.length uc) w4 (HU.out.next hb) hcs.row.lt (fun h0 => HU.out.off (by omega) h0)
      (fun k a b ha hs hk hle => ha.same hcs.ac.lt hcs.cbl hcs.row.lt hk hle) hcs (fun k hk a ha => pUnc_any n B p hn key w.heap.size cn _ _ a ha)
    refine hw.mono ?_
    rintro e w' ⟨vo, rfl, hsl, _, hbu⟩
    refine ⟨vo, rfl, ?_, hb.trans (hbu.bel.mono (by omega))⟩
    rw [← HMAP.out]; exact hsl
  clear hv h hl hbs hsz hz0 hn
  go_enter Try.func26, Try.ntmps26
  go_wp2_with (first
    | (go_at_call 53; refine (HR.out _).mono ?_; rintro e w1 ⟨rfl, hw1⟩; subst hw1)
    | (go_at_call 43; refine HBO.out.mono ?_; rintro e w2 ⟨rfl, hb2⟩; have HB2 := hidD hb2; have HN2 : Hid (RowZ (w2.alloc (.cells (bR (fun _ => 0)) (59 : TypeId))) w2.heap.size .u8 16 59 (fun i => (((fun _ => 0 : Nat → UInt8) i).toNat : Int))) := RowZ.new w2 .u8 16 59 _; clear hb2)
    | (refine wpList_store_row rfl 59 _ _ rfl w2.heap.size (bR (blk l)) rfl rfl 59 (bR (fun _ => 0)) HN2.out (HIB.out _) (HSB.out _ _) (HON.out _) ?_; have R4 : Hid (RowZ ((w2.alloc (.cells (bR (fun _ => 0)) (59 : TypeId))).setRow w2.heap.size (bR (blk l))) w2.heap.size .u8 16 59 (fun i => ((blk l i).toNat : Int))) := row_new HN2.out; have B4 : Hid (Below w2.heap.size w2 ((w2.alloc (.cells (bR (fun _ => 0)) (59 : TypeId))).setRow w2.heap.size (bR (blk l)))) := below_setRow ((Below.refl _ _).alloc (Nat.le_refl _) _) (Nat.le_refl _) _; generalize (w2.alloc (.cells (bR (fun _ => 0)) (59 : TypeId))).setRow w2.heap.size (bR (blk l)) = w4 at *; have BW4 : Hid (Below w.heap.size w w4) := (X1.out.trans (HB2.out.mono X1.out.size)).trans (B4.out.mono (Nat.le_trans X1.out.size HB2.out.size)); have L4 : Hid (w.heap.size < w2.heap.size) := Nat.lt_of_lt_of_le (row_lt X2.out) HB2.out.size; have H4 : Hid (w4.heap[w.heap.size]? = some (.cells #[.pointer (some ⟨p, 0, none⟩)] (23 : TypeId) (0, 0))) := (B4.out.block _ L4.out).trans ((HB2.out.block _ (row_lt X2.out)).trans X2.out); have CS4 : Hid (CsAt w4 B p n key w.heap.size w2.heap.size (blk l)) := ⟨HA.out.next BW4.out, (by rw [cell_of_row _ _ _ _ _ _ H4.out]; rfl), row_lt H4.out, R4.out, (by have := HA.out.lt; have := L4.out; omega), (by have := L4.out; omega)⟩; clear R4 B4 H4 HN2 HB2)
    | (go_at_call 49; refine (HWK.out _ _ BW4.out L4.out CS4.out).mono ?_; rintro e w6 ⟨vo, rfl, hs6, hb6⟩; have HS6 := hidD hs6; have HB6 := hidD hb6; clear hs6 hb6))
  refine bodyPost_ret (v := .tuple #[vo, .int .i64 0]) (by simp [results, Try.results26, go_sem]) rfl ?_
  exact ⟨_, rfl, HS6.out, HB6.out⟩
set_option maxRecDepth 100000 in
set_option maxHeartbeats 3200000 in
theorem pChain_any (l d : List UInt8) (hl : l.length = 16) (hd : d.length ≤ 140737488355300) (hd16 : d.length % 16 = 0) (n B p : Nat) (hn : n ≤ 8) (key : Nat → UInt8) (v u : Value) (w : World) (h : AcAt w B p n key) (hv : ByAt w v l) (hu : SlAt w u d) : Calls Try.prog 24 #[.pointer (some ⟨p, 0, none⟩), v, u] w fun e w' => ∃ vo, e = .returned (.tuple #[vo, .int .i64 0]) ∧ SlAt w' vo (chS (enS (n + 6) (rkS n key)) (blk l) d) ∧ Below w.heap.size w w' := by
  have HBO := hidD (pBlockOf16_any l hl v w hv)
  obtain ⟨a, cap, rfl⟩ := hv.len
  rw [hl] at *
  have HU := hidD hu
  have HA := hidD h
  obtain ⟨⟨ub, uc, rfl, hc2, hc3⟩, _⟩ := hu
  have HR := hidD (fun w => pRefCh_ok p cap d.length uc a ub hd16 (by omega) w)
  have HCH := hidD (fun w h => pChaining_any n B p key (blk l) w h)
  have HMAP := hidD (ch_map (E := enS (n + 6) (rkS n key)) (fun h => enS_same h) (blk l) d)
  have HWK : Hid (∀ (w4 : World) (cb cn : Nat), Below w.heap.size w w4 → w.heap.size ≤ cn → CsAt w4 B p n key cb cn (blk l) → Calls Try.prog 49 #[.slice ub d.length uc, .func (.func 71) #[] #[.pointer (some ⟨cb, 0, none⟩), .pointer (some ⟨cn, 0, none⟩)]] w4 fun e w' => ∃ vo, e = .returned vo ∧ SlAt w' vo (chS (enS (n + 6) (rkS n key)) (blk l) d) ∧ Below w.heap.size w w') := fun w4 cb cn hb hcn hcs => by
    have hw := pWalk71_any d hd cb cn (fun a k => CsAt a B p n key cb cn (chP (enS (n + 6) (rkS n key)) (blk l) d k)) (fun k => chP (enS (n + 6) (rkS n key)) (blk l) d (k + 1)) (.slice ub d.length uc) w4 (HU.out.next hb) hcs.row.lt (fun h0 => HU.out.off (by omega) h0)
      (fun k a b ha hs hk hle => ha.same hcs.ac.lt hcs.cbl hcs.row.lt hk hle) hcs (fun k hk a ha => pChn_any n B p hn key cb cn _ _ a ha)
    refine hw.mono ?_
    rintro e w' ⟨vo, rfl, hsl, _, hbu⟩
    refine ⟨vo, rfl, ?_, hb.trans (hbu.bel.mono hcn)⟩
    rw [← HMAP.out]; exact hsl
  clear hv h hl hn
  go_enter Try.func24, Try.ntmps24
  go_wp2_with (first
    | (go_at_call 53; refine (HR.out _).mono ?_; rintro e w1 ⟨rfl, hw1⟩; subst w1)
    | (go_at_call 43; refine HBO.out.mono ?_; rintro e w2 ⟨rfl, hb2⟩; have HB2 := hidD hb2; clear hb2)
    | (go_at_call 54; refine (HCH.out _ (HA.out.next HB2.out)).mono ?_; rintro e w4 ⟨rfl, hcs, hb4⟩; have CS4 := hidD hcs; have BW4 : Hid (Below w.heap.size w w4) := Below.next HB2.out hb4; have L4 : Hid (w.heap.size ≤ w2.heap.size + 1) := Nat.le_succ_of_le HB2.out.size; clear hcs hb4)
    | (go_at_call 49; refine (HWK.out _ _ _ BW4.out L4.out CS4.out).mono ?_; rintro e w6 ⟨vo, rfl, hs6, hb6⟩; have HS6 := hidD hs6; have HB6 := hidD hb6; clear hs6 hb6))
  refine bodyPost_ret (v := .tuple #[vo, .int .i64 0]) (by simp [results, Try.results24, go_sem]) rfl ?_
  exact ⟨_, rfl, HS6.out, HB6.out⟩
end Go.Proofs.Ytgefampdfhbmbaa
