/- What padding, Clone and Sum of sha answer. -/
import Derived.Test.YtjpcndhdlbkilaaSt3
namespace Go.Proofs.Ytjpcndhdlbkilaa
open Go.RowKit
set_option linter.unusedVariables false

theorem padding_any (k : Nat) (n : Nat) (hn : n < 18446744073709551616) (w : World) : Calls Try.prog 22 #[.int .i64 (blkN k : Int), .int .u64 (n : Int)] w fun e w' => ∃ g, e = .returned (.slice (some ⟨g, 0, none⟩) (rmS (blkN k) n) (rmS (blkN k) n)) ∧ w.heap.size ≤ g ∧ RowZ w' g .u8 (rmS (blkN k) n) 5 (fun j => ((pdS (blkN k) n j).toNat : Int)) ∧ Below w.heap.size w w' := by
  have key : ∀ bk R f : Nat, bk / 8 = f → rmS bk n = R → (Calls Try.prog 22 #[.int .i64 (bk : Int), .int .u64 (n : Int)] w fun e w' => ∃ g, e = .returned (.slice (some ⟨g, 0, none⟩) R R) ∧ w.heap.size ≤ g ∧ RowZ w' g .u8 R 5 (fun j => ((pdT R (8 * n) f j).toNat : Int)) ∧ Below w.heap.size w w') → Calls Try.prog 22 #[.int .i64 (bk : Int), .int .u64 (n : Int)] w fun e w' => ∃ g, e = .returned (.slice (some ⟨g, 0, none⟩) (rmS bk n) (rmS bk n)) ∧ w.heap.size ≤ g ∧ RowZ w' g .u8 (rmS bk n) 5 (fun j => ((pdS bk n j).toNat : Int)) ∧ Below w.heap.size w w' := by
    intro bk R f hf hR h
    refine h.mono fun e w' ⟨g, h1, h2, h3, h4⟩ => ⟨g, by rw [hR]; exact h1, h2, ?_, h4⟩
    rw [hR]
    refine h3.congr fun j _ => ?_
    unfold pdT pdS
    rw [hR, hf]
  unfold blkN
  by_cases hk : 256 < k
  · rw [if_pos hk]
    by_cases hc : 128 - n % 128 < 17
    · exact key 128 (128 - n % 128 + 128) 16 rfl (by unfold rmS; rw [if_pos hc]) (padding128lo_any n hn hc w)
    · exact key 128 (128 - n % 128) 16 rfl (by unfold rmS; rw [if_neg hc]) (padding128hi_any n hn hc w)
  · rw [if_neg hk]
    by_cases hc : 64 - n % 64 < 9
    · exact key 64 (64 - n % 64 + 64) 8 rfl (by unfold rmS; rw [if_pos hc]) (padding64lo_any n hn hc w)
    · exact key 64 (64 - n % 64) 8 rfl (by unfold rmS; rw [if_neg hc]) (padding64hi_any n hn hc w)
theorem rm_le (k n : Nat) : rmS (blkN k) n ≤ 256 := by
  have := blk_pos k
  unfold rmS; split <;> omega
/- a row of bytes that was made, read as a slice -/
theorem rowZ_by {w : World} {g n : Nat} {f : Nat → UInt8} (h : RowZ w g .u8 n 5 (fun i => ((f i).toNat : Int))) : ByAt w (.slice (some ⟨g, 0, none⟩) ((List.range n).map f).length n) ((List.range n).map f) := by
  have := (rowZ_at h).by 0 n n (by simp)
  rw [List.drop_zero, List.take_of_length_le (by simp)] at this
  simpa using this

def stZ (i : Nat) : Value := if i = 0 then .int .i64 0 else if i = 1 then .int .u64 0 else if i < 130 then .int .u8 0 else if i < 210 then .int .u64 0 else if i < 218 then .int .u32 0 else .int .u64 0
theorem Try.zero63z : (Try.prog.info? 63).map (fun i => (i.zero, i.size)) = some (some (.agg ((List.range 226).map stZ).toArray), 226) := by kernel_rfl
theorem st_one (k n : Nat) (r : Nat → UInt8) (c : Nat → Nat) : ((List.range 226).map (stV k n r c)).toArray.all (·.oneCell') = true := by
  refine all_oneCell_toArray fun v hv => ?_
  obtain ⟨i, _, rfl⟩ := List.mem_map.1 hv
  unfold stV
  repeat' split
  all_goals rfl
set_option maxRecDepth 100000 in
set_option maxHeartbeats 800000 in
theorem clone_any (k : Nat) (g : Nat) (s : Ps) (w : World) (hs : StAt w g k s) : Calls Try.prog 28 #[.pointer (some ⟨g, 0, none⟩)] w fun e w' => ∃ g', e = .returned (.pointer (some ⟨g', 0, none⟩)) ∧ w.heap.size ≤ g' ∧ StAt w' g' k s ∧ Below w.heap.size w w' := by
  obtain ⟨hz, hsz⟩ := zero_of_info Try.zero63z
  have HO := hidD (st_one k s.n s.r s.c)
  have HI : Hid ((Try.prog.info? 63).map (·.size) = some ((List.range 226).map (stV k s.n s.r s.c)).toArray.size) := by show _ = _; rw [hsz]; simp
  have HZ : Hid (((List.range 226).map stZ).toArray.size = ((List.range 226).map (stV k s.n s.r s.c)).toArray.size) := by show _ = _; simp
  have HS : Hid (w.heap[g]? = some (.cells ((List.range 226).map (stV k s.n s.r s.c)).toArray (63 : TypeId) (0, 0))) := hs
  have HF : Hid (∀ w', w'.heap[w.heap.size]? = some (.cells ((List.range 226).map (stV k s.n s.r s.c)).toArray (63 : TypeId) (0, 0)) → StAt w' w.heap.size k s) := fun _ h => h
  clear hs hsz
  generalize ((List.range 226).map (stV k s.n s.r s.c)).toArray = R at *
  generalize ((List.range 226).map stZ).toArray = Z at *
  go_enter Try.func28, Try.ntmps28
  go_wp2_with (first | (refine wpList_load_row rfl 63 _ rfl g rfl 63 R (0, 0) _ HS.out Try.underlying63 rfl HI.out ?_) | (refine wpList_store_row rfl 63 _ _ rfl w.heap.size R rfl rfl 63 Z (heap_alloc_last _ _) HI.out HZ.out HO.out ?_))
  go_ret
  exact ⟨w.heap.size, rfl, Nat.le_refl _, HF.out _ (setRow_heap _ _ _ _ _ _ (heap_alloc_last _ _)), below_setRow ((Below.refl _ _).alloc (Nat.le_refl _) _) (Nat.le_refl _) _⟩
end Go.Proofs.Ytjpcndhdlbkilaa
