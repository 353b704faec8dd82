/- What Modes answers: the program's, with slices.Sort of the library. -/
import Derived.Test.YtfecadongbmfhaaShelf
import Derived.Test.YtfecadongbmfhaaNmo
import Derived.Sort.Grow
namespace Go.Proofs.Ytfecadongbmfhaa
open Go.RowKit
set_option linter.unusedVariables false

theorem own_holds {w : World} {base g cap : Nat} {L : List Int} (h : w.ownsRow base 3 1 (.slice (some ⟨g, 0, none⟩) L.length cap) L.length (L.map encI)) : Go.Sort.Holds (Value.int .i64) w g 0 L.toArray ∧ g < w.heap.size ∧ base ≤ g := by
  rcases h.2 with ⟨hc, _⟩ | ⟨g', cap', cur, he, hb, hg, hc, hm, hs, ht⟩
  · cases hc
  · cases he
    refine ⟨fun j hj => ?_, row_lt hg, hb⟩
    have hjl : j < L.length := by simpa using hj
    refine ⟨?_, frozen_of_row _ _ _ _ _ hg⟩
    rw [Nat.zero_add, cell_of_row _ _ _ _ _ _ hg]
    have h1 : cur.toList[j]? = (L.map encI)[j]? := by
      rw [← ht, List.getElem?_take, if_pos (by rw [Nat.mul_one]; exact hjl)]
    rw [← Array.getElem?_toList, h1, List.getElem?_map, List.getElem?_eq_getElem hjl]
    simp [hjl, encI]
theorem put_size (w : World) (n g : Nat) (d : Array Int) : (Go.Sort.putRow (Value.int .i64) (Go.Sort.ahead w n) g 0 d).heap.size = w.heap.size := by
  simp [Go.Sort.putRow, Go.Sort.mapBlock, Go.Sort.ahead]
theorem put_below (w : World) (n g : Nat) (d : Array Int) (os : Array Obj) (hg : g < w.heap.size) : Below g w (Go.Sort.grow (Go.Sort.putRow (Value.int .i64) (Go.Sort.ahead w n) g 0 d) os) := by
  refine ⟨rfl, rfl, rfl, ?_, fun i hi => ?_⟩
  · rw [Go.Sort.size_grow, put_size]; omega
  · rw [Go.Sort.heap_grow_old _ _ (by rw [put_size]; omega)]
    show (w.heap.modify g _)[i]? = w.heap[i]?
    rw [Array.getElem?_modify, if_neg (by omega)]
theorem put_holds {w : World} {g : Nat} {L M : List Int} (h : Go.Sort.Holds (Value.int .i64) w g 0 L.toArray) (hg : g < w.heap.size) (hl : M.length = L.length) (n : Nat) (os : Array Obj) :
    Go.Sort.Holds (Value.int .i64) (Go.Sort.grow (Go.Sort.putRow (Value.int .i64) (Go.Sort.ahead w n) g 0 M.toArray) os) g 0 M.toArray ∧ Below g w (Go.Sort.grow (Go.Sort.putRow (Value.int .i64) (Go.Sort.ahead w n) g 0 M.toArray) os) ∧ g < (Go.Sort.grow (Go.Sort.putRow (Value.int .i64) (Go.Sort.ahead w n) g 0 M.toArray) os).heap.size :=
  ⟨Go.Sort.holds_grow _ _ _ _ _ _ (by rw [put_size]; exact hg) (Go.Sort.holds_putRow _ _ _ _ L.toArray _ (Go.Sort.holds_ahead _ _ _ _ _ _ h) (by simpa using hl)), put_below _ _ _ _ _ hg, by rw [Go.Sort.size_grow, put_size]; omega⟩
theorem holds_cells {w : World} {g : Nat} {L : List Int} (h : Go.Sort.Holds (Value.int .i64) w g 0 L.toArray) : ∀ k, k < L.length → w.cell? ⟨g, k, none⟩ = some (.int .i64 (L.getD k 0)) := by
  intro k hk
  have := (h k (by simpa using hk)).1
  rw [Nat.zero_add] at this
  rw [this]
  simp [hk]
theorem sort_any (L : List Int) (g cap : Nat) (w : World) (h : Go.Sort.Holds (Value.int .i64) w g 0 L.toArray) (hg : g < w.heap.size) (hl : L.length ≤ 1000) : Calls Try.prog 51 #[.slice (some ⟨g, 0, none⟩) L.length cap] w fun e w' => e = .returned (.tuple #[]) ∧ Go.Sort.Holds (Value.int .i64) w' g 0 (L.mergeSort fun x y => decide (x ≤ y)).toArray ∧ Below g w w' ∧ g < w'.heap.size :=
  (Try.slices_Sort_int g 0 cap L w h hg (by omega)).mono fun e w' ⟨h1, n, os, h2⟩ => ⟨h1, by rw [h2]; exact put_holds h hg (List.length_mergeSort _) n os⟩
theorem size_alloc2 (w : World) (o o2 : Obj) : ((w.alloc o).alloc o2).heap.size = w.heap.size + 2 := by simp
theorem new_one2 (w : World) (o : Obj) (u : Value) (t : TypeId) : ((w.alloc o).alloc (.cells #[u] t)).cell? ⟨w.heap.size + 1, 0, none⟩ = some u := by
  have := new_one (w.alloc o) u t
  rwa [show (w.alloc o).heap.size = w.heap.size + 1 by simp] at this
theorem pm_step (f k : Nat) (h : (inS k).1 = f) : (pmL f (k + 1)).map encI = (pmL f k).map encI ++ [.int .i64 ((inS k).2 : Int)] ∧ (pmL f (k + 1)).length = (pmL f k).length + 1 := by
  rw [pmL, if_pos h]
  exact ⟨by simp [encI], by simp⟩
theorem pm_skip (f k : Nat) (h : ¬ (inS k).1 = f) : pmL f (k + 1) = pmL f k := by rw [pmL, if_neg h, List.append_nil]
set_option maxRecDepth 100000 in
set_option maxHeartbeats 3200000 in
theorem modes_none (s : List UInt8) (hs : s.length ≤ 140737488355328) (h0 : fiS s = 0) (w : World) : Calls Try.prog 29 #[.string (bA s)] w fun e w' => e = .returned (.slice none 0 0) ∧ Below w.heap.size w w' := by
  have HF : Hid (∀ w, Calls Try.prog 48 #[.string (bA s)] w fun e w' => e = .returned (.int .i64 0) ∧ Below w.heap.size w w') := fun w => by have := find_any s hs w; rw [h0] at this; exact this
  generalize bA s = SS at *
  go_enter Try.func29, Try.ntmps29
  go_wp2_with (go_at_call 48; refine (HF.out _).mono ?_; rintro e w1 ⟨rfl, b1⟩)
  go_ret
  exact ⟨rfl, b1⟩
set_option maxRecDepth 100000 in
set_option maxHeartbeats 3200000 in
theorem modes_some (s : List UInt8) (hs : s.length ≤ 140737488355328) (h0 : fiS s ≠ 0) (w : World) : Calls Try.prog 29 #[.string (bA s)] w fun e w' => ∃ g cap, e = .returned (.slice (some ⟨g, 0, none⟩) (mdT (fiS s) 13).length cap) ∧ g < w'.heap.size ∧ (∀ k, k < (mdT (fiS s) 13).length → w'.cell? ⟨g, k, none⟩ = some (.int .i64 ((mdT (fiS s) 13).getD k 0))) ∧ Below w.heap.size w w' := by
  have HF : Hid (∀ w, Calls Try.prog 48 #[.string (bA s)] w fun e w' => e = .returned (.int .i64 (fiS s : Int)) ∧ Below w.heap.size w w') := fun w => find_any s hs w
  have HI : Hid (∀ op : Nat, op < 256 → ∀ w, Calls Try.prog 40 #[.int .u8 (op : Int)] w fun e w' => e = .returned (.agg #[.int .i64 ((inS op).1 : Int), .int .i64 ((inS op).2 : Int)]) ∧ Below w.heap.size w w') := fun op ho w => instructionOf_any op ho w
  have HS : Hid ((pmL (fiS s) 256).mergeSort (fun x y => decide (x ≤ y)) = mdT (fiS s) 13) := sort_md _ (fi_le s) (by omega)
  have HP : Hid (0 < (pmL (fiS s) 256).length) := (md_perm _ (fi_le s) (by omega)).2
  have hle := fi_le s
  generalize fiS s = f at *
  generalize bA s = SS at *
  have h0i : ¬ (f : Int) = 0 := by omega
  have h0b : ((f : Int) == 0) = false := beq_eq_false_iff_ne.2 h0i
  go_enter Try.func29, Try.ntmps29
  go_wp2_with (go_at_call 48; refine (HF.out _).mono ?_; rintro e w1 ⟨rfl, b1⟩)
  have HB1 := hidD b1
  clear HF b1 h0b h0i
  go_loopw [4, 5, 6, 11] (fun v _ _ i wr => ∃ k : Nat, k ≤ 256 ∧ i = .int .i64 k ∧ wr.ownsRow w.heap.size 3 1 v (pmL f k).length ((pmL f k).map encI) ∧ Below w.heap.size w wr) (fun _ _ _ i _ => 256 - (intOf i).toNat)
  case atStart => exact ⟨0, Nat.zero_le _, rfl, ⟨rfl, .inl ⟨rfl, rfl⟩⟩, HB1.out⟩
  case round =>
    obtain ⟨k, hk, rfl, how, hbel⟩ := hrel
    have HOW := hidD how
    have HBL := hidD hbel
    clear how hbel HB1
    by_cases hlt : k < 256
    · have hlti : (k : Int) < 256 := by omega
      have HI1 := hidD (HI.out k hlt)
      have HLN : Hid ((pmL f k).length ≤ 256) := Nat.le_trans (pmL_len f k) hk
      clear HI HS HP
      have HG : Hid (∀ w1 : World, (w1.alloc (.cells #[.int .i64 ((inS k).1 : Int), .int .i64 ((inS k).2 : Int)] (64 : TypeId))).heap[w1.heap.size]? = some (.cells (inC (inS k).1 (inS k).2) (64 : TypeId) (0, 0))) := fun w1 => heap_alloc_last _ _
      have HL : Hid (∀ w1 : World, Below w1.heap.size w1 (w1.alloc (.cells #[.int .i64 ((inS k).1 : Int), .int .i64 ((inS k).2 : Int)] (64 : TypeId)))) := fun w1 => (Below.refl _ _).alloc (Nat.le_refl _) _
      by_cases hm : (inS k).1 = f
      · have HS2 := hidD (pm_step f k hm)
        generalize (inS k).2 = kk at *
        generalize (inS k).1 = m at *
        have hff : ((m : Int) == (f : Int)) = true := beq_iff_eq.2 (by omega)
        clear hm
        go_wp2_with (first | (at_builtin; refine wpList_append_i rfl _ _ rfl w.heap.size u4 (pmL f k).length ((pmL f k).map encI) rfl (HO2.out.alloc _) _ (kk : Int) rfl (new_one2 _ _ _ _) (by have := HLN.out; omega) (by have := HB2.out.size; rw [size_alloc2]; simp at this; omega) ?_; intro v8 w8 hown8 hg8; have HO8 := hidD hown8; have HB8 := hidD (row_grown (a := w) (HO2.out.alloc _) (HB2.out.alloc HB2.out.size _) hg8 (by have := HB2.out.size; rw [size_alloc2]; simp at this; omega)); clear hown8 hg8) | (go_at_call 40; refine (HI1.out _).mono ?_; rintro e w2 ⟨rfl, b2⟩; have c0 := in_row (HG.out w2); have c1 := in_row1 (HG.out w2); have HO2 := hidD (row_below HOW.out (Below.next b2 (HL.out w2))); have HB2 := hidD (Below.next HBL.out (Below.next b2 (HL.out w2)))))
        go_roundw
        case rel => exact ⟨k + 1, by omega, by go_num, by rw [HS2.out.1, HS2.out.2]; exact HO8.out, HB8.out⟩
        case measure => simp [intOf]; omega
      · have HS2 := hidD (pm_skip f k hm)
        have hmi : ¬ ((inS k).1 : Int) = (f : Int) := by omega
        have hmb : (((inS k).1 : Int) == (f : Int)) = false := beq_eq_false_iff_ne.2 hmi
        clear hm
        generalize (inS k).1 = m at *
        generalize (inS k).2 = kk at *
        go_wp2_with (go_at_call 40; refine (HI1.out _).mono ?_; rintro e w2 ⟨rfl, b2⟩; have c0 := in_row (HG.out w2))
        go_roundw
        case rel => exact ⟨k + 1, by omega, by go_num, by rw [HS2.out]; exact row_below HOW.out (Below.next b2 (HL.out w2)), Below.next HBL.out (Below.next b2 (HL.out w2))⟩
        case measure => simp [intOf]; omega
    · obtain rfl : k = 256 := by omega
      clear HI
      obtain ⟨g, cap, rfl, hg1, hg2, _⟩ := owned_cells HOW.out HP.out
      obtain ⟨hH, hH2, hH3⟩ := own_holds HOW.out
      have HT : Hid (Calls Try.prog 51 #[.slice (some ⟨g, 0, none⟩) (pmL f 256).length cap] wr fun e w' => e = .returned (.tuple #[]) ∧ Go.Sort.Holds (Value.int .i64) w' g 0 (mdT f 13).toArray ∧ Below g wr w' ∧ g < w'.heap.size) := by
        have := sort_any (pmL f 256) g cap wr hH hg2 (by have := pmL_len f 256; omega)
        rw [HS.out] at this
        exact this
      have HE : Hid ((mdT f 13).length = (pmL f 256).length) := by show _ = _; rw [← HS.out]; exact List.length_mergeSort _
      have hg1' := hidD hg1
      clear hH hH2 hH3 HS HP HOW hg1 hg2
      generalize (pmL f 256).length = n at *
      go_wp2_with (go_at_call 51; refine HT.out.mono ?_; rintro e w2 ⟨rfl, hh, b2, hsz⟩)
      go_ret
      exact ⟨g, cap, by rw [HE.out]; rfl, hsz, fun k hk => holds_cells hh k hk, HBL.out.trans (b2.mono hg1'.out)⟩
end Go.Proofs.Ytfecadongbmfhaa
