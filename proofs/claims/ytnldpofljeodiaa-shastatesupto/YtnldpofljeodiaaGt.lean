/- Texts of one proof, one behind the other. -/
import Derived.Test.YtnldpofljeodiaaGs
/- What Write of sha does to a state. -/
namespace Go.Proofs.Ytnldpofljeodiaa
open Go.RowKit
set_option linter.unusedVariables false

theorem Kind.le {k : Nat} (h : Kind k) : k ≤ 512 ∧ 224 ≤ k := by rcases h with rfl | rfl | rfl | rfl <;> decide
theorem take_any (k : Nat) (hk : Kind k) (g : Nat) (s : Ps) (hcl : ∀ j, s.c j < mdK k) (w : World) (hs : StAt w g k s) : Calls Try.prog 49 #[.pointer (some ⟨g, 0, none⟩)] w fun e w' => e = .returned (.tuple #[]) ∧ StAt w' g k ⟨s.n, s.r, afK k s.r s.c⟩ ∧ But g w w' := by
  by_cases h : 256 < k
  · exact takeW_any k h hk.le.1 g s hcl w hs
  · exact takeN_any k h hk.le.1 g s hcl w hs
theorem lay_any (k : Nat) (hk : Kind k) (g : Nat) (s : Ps) (h : Nat → Nat) (hh : ∀ j, h j < mdK k) (w : World) (hs : StAt w g k s) : Calls Try.prog 48 #[.pointer (some ⟨g, 0, none⟩), .agg (rowZ .u64 8 (fun j => (h j : Int)))] w fun e w' => e = .returned (.tuple #[]) ∧ StAt w' g k ⟨s.n, s.r, h⟩ ∧ But g w w' := by
  by_cases hw : 256 < k
  · exact layChainW_any k hw hk.le.1 g s h hh w hs
  · exact layChainN_any k hw hk.le.1 g s h hh w hs
set_option maxRecDepth 100000 in
theorem write_nil (k : Nat) (hk : Kind k) (g : Nat) (s : Ps) (a : Option Addr) (cap : Nat) (w : World) (hs : StAt w g k s) : Calls Try.prog 26 #[.pointer (some ⟨g, 0, none⟩), .slice a 0 cap] w fun e w' => e = .returned (.int .i64 0) ∧ StAt w' g k s ∧ But g w w' := by
  have HSZ : Hid (∀ w, Calls Try.prog 36 #[.int .i64 (k : Int)] w fun e w' => e = .returned (.tuple #[.int .i64 ((k / 8 : Nat) : Int), .int .i64 (blkN k : Int), .int .i64 0]) ∧ w' = w) := fun w => size_any k hk w
  have ck := hs.kind
  have HS := hidD hs
  generalize k / 8 = K8 at *
  generalize blkN k = BK at *
  clear hs
  go_enter Try.func26, Try.ntmps26
  go_wp2_with (go_at_call 36; refine (HSZ.out _).mono ?_; rintro e wx ⟨rfl, hx⟩)
  go_loopw [24] (fun iv wr => iv = .int .i64 0 ∧ wr = w) (fun _ _ => 0)
  case atStart => exact ⟨rfl, by first | rfl | assumption⟩
  case round =>
    obtain ⟨rfl, rfl⟩ := hrel
    go_wp2_with fail
    go_ret
    exact ⟨rfl, HS.out, But.refl _ _⟩
set_option maxRecDepth 100000 in
set_option maxHeartbeats 3200000 in
theorem write_some (k : Nat) (hk : Kind k) (g : Nat) (s : Ps) (hn : s.n < 18446744073709551616) (hcl : ∀ j, s.c j < mdK k) (L : List UInt8) (hL : L.length ≤ 4611686018427387904) (g0 off cap : Nat) (hne : g0 ≠ g) (w : World) (hs : StAt w g k s) (hg0 : g0 < w.heap.size) (hb : ∀ j, j < L.length → w.cell? ⟨g0, off + j, none⟩ = some (.int .u8 ((L.getD j 0).toNat : Int))) : Calls Try.prog 26 #[.pointer (some ⟨g, 0, none⟩), .slice (some ⟨g0, off, none⟩) L.length cap] w fun e w' => e = .returned (.int .i64 (L.length : Int)) ∧ StAt w' g k (feedP k s L) ∧ But g w w' := by
  have HSZ : Hid (∀ w, Calls Try.prog 36 #[.int .i64 (k : Int)] w fun e w' => e = .returned (.tuple #[.int .i64 ((k / 8 : Nat) : Int), .int .i64 (blkN k : Int), .int .i64 0]) ∧ w' = w) := fun w => size_any k hk w
  have HTK : Hid (∀ (s : Ps), (∀ j, s.c j < mdK k) → ∀ w, StAt w g k s → Calls Try.prog 49 #[.pointer (some ⟨g, 0, none⟩)] w fun e w' => e = .returned (.tuple #[]) ∧ StAt w' g k ⟨s.n, s.r, afK k s.r s.c⟩ ∧ But g w w') := fun s h w hw => take_any k hk g s h w hw
  have HFL : Hid (∀ i, ∀ j, (feedP k s (L.take i)).c j < mdK k) := fun i => feed_lt k _ s hcl
  have HFN : Hid (∀ i, (feedP k s (L.take i)).n < 18446744073709551616) := fun i => by rw [feed_n k _ s hn]; exact Nat.mod_lt _ (by decide)
  have HFS : Hid (∀ i, i < L.length → feedP k s (L.take (i + 1)) = stepP k (feedP k s (L.take i)) (L.getD i 0)) := fun i hi => feed_snoc k s L i hi
  have HFE : Hid (feedP k s (L.take L.length) = feedP k s L) := by show _ = _; rw [List.take_length]
  have ck := hs.kind
  have HS := hidD hs
  have HG0 := hidD hg0
  have HB := hidD hb
  have HNE := hidD hne
  obtain ⟨hp1, hp2⟩ := blk_pos k
  have HST : Hid (∀ (S : Ps) (x : UInt8), stepP k S x = ⟨(S.n + 1) % 18446744073709551616, fun i => if i = S.n % blkN k then x else S.r i, if S.n % blkN k = blkN k - 1 then afK k (fun i => if i = S.n % blkN k then x else S.r i) S.c else S.c⟩) := fun _ _ => rfl
  generalize hK8 : k / 8 = K8 at *
  generalize hBK : blkN k = BK at *
  clear hs hg0 hb hne hK8 hBK hn hcl
  go_enter Try.func26, Try.ntmps26
  go_wp2_with (go_at_call 36; refine (HSZ.out _).mono ?_; rintro e wx ⟨rfl, hx⟩)
  clear ck HSZ
  generalize hLL : L.length = LL at *
  have HLL := hidD hLL
  clear hLL
  go_loopw [24] (fun iv wr => ∃ i : Nat, i ≤ LL ∧ iv = .int .i64 (i : Int) ∧ StAt wr g k (feedP k s (L.take i)) ∧ But g w wr) (fun iv _ => LL - (intOf iv).toNat)
  case atStart => exact ⟨0, Nat.zero_le _, rfl, by first | exact HS.out | (subst hx; exact HS.out), by first | exact But.refl _ _ | (subst hx; exact But.refl _ _)⟩
  case round =>
    clear HS
    obtain ⟨i, hi, rfl, hst, hbut⟩ := hrel
    by_cases hlt : i < LL
    · have hlti : (i : Int) < (LL : Int) := by omega
      have hstep := HFS.out i hlt
      have hnn := HFN.out i
      have hcc := HFL.out i
      rw [HST.out] at hstep
      generalize feedP k s (L.take i) = S at *
      generalize hx : L.getD i 0 = x at *
      have cb : wr.cell? ⟨g0, off + i, none⟩ = some (.int .u8 (x.toNat : Int)) := by rw [hbut.cell HG0.out HNE.out, HB.out i hlt, hx]
      have cn := hst.len
      obtain ⟨A, hA⟩ : ∃ A, S.n % BK = A := ⟨_, rfl⟩
      have hAl : A < BK := by rw [← hA]; exact Nat.mod_lt _ (by omega)
      have hrem : (S.n : Int).tmod (BK : Int) = (A : Int) := by rw [← hA]; rfl
      obtain ⟨N1, hN1⟩ : ∃ N1, (S.n + 1) % 18446744073709551616 = N1 := ⟨_, rfl⟩
      have hN1l : N1 < 18446744073709551616 := by rw [← hN1]; exact Nat.mod_lt _ (by decide)
      have hwr : IntKind.u64.wrap ((S.n : Int) + 1) = (N1 : Int) := by rw [← hN1, IntKind.wrap_u64]; omega
      have hwr2 : ((S.n : Int) + 1) % 18446744073709551616 = (N1 : Int) := by rw [← hN1]; omega
      rw [hA, hN1] at hstep
      have cr := hst.rest (show A < 128 by omega)
      have cf := StRow.frozen hst (2 + A)
      have hst1 := hst.one_rest (show A < 128 by omega) x
      have cn1 := hst1.len
      have cf1 := StRow.frozen hst1 1
      have hst2 := hst1.one_len N1
      have hb2 : But g w ((wr.setCell ⟨g, 2 + A, none⟩ (.int .u8 (x.toNat : Int))).setCell ⟨g, 1, none⟩ (.int .u64 (N1 : Int))) := (hbut.put _ _).put _ _
      have HS2 := hidD hst2
      have HB2 := hidD hb2
      clear hst hst1 hst2 hb2 hbut hA hN1 hx
      dsimp only at cn1
      by_cases hE : A = BK - 1
      · have hEi : ((A : Int) == (BK : Int) - 1) = true := beq_iff_eq.mpr (by omega)
        rw [if_pos hE] at hstep
        clear hE
        have HTT := hidD (HTK.out ⟨N1, fun i => if i = A then x else S.r i, S.c⟩ hcc _ HS2.out)
        have HSTEP := hidD hstep
        clear hstep
        generalize S.n = SN at *
        go_wp2_with (go_at_call 49; refine HTT.out.mono ?_; rintro e w3 ⟨rfl, hst3, hb3⟩)
        have HND : Hid (StAt w3 g k (feedP k s (L.take (i + 1)))) := by show StAt _ _ _ _; rw [HSTEP.out]; exact hst3
        have HB3 := hidD (HB2.out.trans hb3)
        clear hst3 hb3
        go_roundw
        case rel =>
          first
          | exact ⟨i + 1, by omega, by go_num, HND.out, HB3.out⟩
          | ((repeat apply Exists.intro); refine And.intro ?_ rfl; exact ⟨i + 1, by omega, by go_num, HND.out, HB3.out⟩)
        case measure => simp [intOf]; omega
      · have hEi : ¬ (A : Int) = (BK : Int) - 1 := by omega
        rw [if_neg hE] at hstep
        have HSTEP := hidD hstep
        clear hstep
        have HND : Hid (StAt ((wr.setCell ⟨g, 2 + A, none⟩ (.int .u8 (x.toNat : Int))).setCell ⟨g, 1, none⟩ (.int .u64 (N1 : Int))) g k (feedP k s (L.take (i + 1)))) := by show StAt _ _ _ _; rw [HSTEP.out]; exact HS2.out
        clear HS2
        generalize S.n = SN at *
        go_wp2_with fail
        go_roundw
        case rel =>
          first
          | exact ⟨i + 1, by omega, by go_num, HND.out, HB2.out⟩
          | ((repeat apply Exists.intro); refine And.intro ?_ rfl; exact ⟨i + 1, by omega, by go_num, HND.out, HB2.out⟩)
        case measure => simp [intOf]; omega
    · obtain rfl : i = LL := by omega
      have hlti : ¬ (i : Int) < (i : Int) := by omega
      have HSF : Hid (StAt wr g k (feedP k s L)) := by show StAt _ _ _ _; rw [← HFE.out]; exact hst
      have HBF := hidD hbut
      clear hst hbut
      go_wp2_with fail
      go_ret
      exact ⟨by rw [HLL.out]; rfl, HSF.out, HBF.out⟩
theorem write_any (k : Nat) (hk : Kind k) (g : Nat) (s : Ps) (hn : s.n < 18446744073709551616) (hcl : ∀ j, s.c j < mdK k) (L : List UInt8) (hL : L.length ≤ 4611686018427387904) (a : Option Addr) (cap : Nat) (w : World) (hs : StAt w g k s) (hb : ByAt w (.slice a L.length cap) L) (hoff : L ≠ [] → Off (.slice a L.length cap) g) : Calls Try.prog 26 #[.pointer (some ⟨g, 0, none⟩), .slice a L.length cap] w fun e w' => e = .returned (.int .i64 (L.length : Int)) ∧ StAt w' g k (feedP k s L) ∧ But g w w' := by
  rcases Nat.eq_zero_or_pos L.length with h0 | h0
  · obtain rfl : L = [] := List.length_eq_zero_iff.1 h0
    exact write_nil k hk g s a cap w hs
  · obtain ⟨g0, off, rfl, hg, hc⟩ := hb.src h0
    exact write_some k hk g s hn hcl L hL g0 off cap (hoff (by intro e; rw [e] at h0; simp at h0) _ _ _ _ rfl) w hs hg hc
end Go.Proofs.Ytnldpofljeodiaa
/- What padding, Clone and Sum of sha answer. -/
namespace Go.Proofs.Ytnldpofljeodiaa
open Go.RowKit
set_option linter.unusedVariables false

theorem padding_any (k : Nat) (n : Nat) (hn : n < 18446744073709551616) (w : World) : Calls Try.prog 43 #[.int .i64 (blkN k : Int), .int .u64 (n : Int)] w fun e w' => ∃ g, e = .returned (.slice (some ⟨g, 0, none⟩) (rmS (blkN k) n) (rmS (blkN k) n)) ∧ w.heap.size ≤ g ∧ RowZ w' g .u8 (rmS (blkN k) n) 5 (fun j => ((pdS (blkN k) n j).toNat : Int)) ∧ Below w.heap.size w w' := by
  have key : ∀ bk R f : Nat, bk / 8 = f → rmS bk n = R → (Calls Try.prog 43 #[.int .i64 (bk : Int), .int .u64 (n : Int)] w fun e w' => ∃ g, e = .returned (.slice (some ⟨g, 0, none⟩) R R) ∧ w.heap.size ≤ g ∧ RowZ w' g .u8 R 5 (fun j => ((pdT R (8 * n) f j).toNat : Int)) ∧ Below w.heap.size w w') → Calls Try.prog 43 #[.int .i64 (bk : Int), .int .u64 (n : Int)] w fun e w' => ∃ g, e = .returned (.slice (some ⟨g, 0, none⟩) (rmS bk n) (rmS bk n)) ∧ w.heap.size ≤ g ∧ RowZ w' g .u8 (rmS bk n) 5 (fun j => ((pdS bk n j).toNat : Int)) ∧ Below w.heap.size w w' := by
    intro bk R f hf hR h
    refine h.mono fun e w' ⟨g, h1, h2, h3, h4⟩ => ⟨g, by rw [hR]; exact h1, h2, ?_, h4⟩
    rw [hR]
    refine h3.congr fun j _ => ?_
    unfold pdT pdS
    rw [hR, hf]
  unfold blkN
  by_cases hk : 256 < k
  · rw [if_pos hk]
    by_cases hc : 128 - n % 128 < 17
    · exact key 128 (128 - n % 128 + 128) 16 rfl (by unfold rmS; rw [if_pos hc]) (padding128lo_any n hn hc w)
    · exact key 128 (128 - n % 128) 16 rfl (by unfold rmS; rw [if_neg hc]) (padding128hi_any n hn hc w)
  · rw [if_neg hk]
    by_cases hc : 64 - n % 64 < 9
    · exact key 64 (64 - n % 64 + 64) 8 rfl (by unfold rmS; rw [if_pos hc]) (padding64lo_any n hn hc w)
    · exact key 64 (64 - n % 64) 8 rfl (by unfold rmS; rw [if_neg hc]) (padding64hi_any n hn hc w)
theorem rm_le (k n : Nat) : rmS (blkN k) n ≤ 256 := by
  have := blk_pos k
  unfold rmS; split <;> omega
/- a row of bytes that was made, read as a slice -/
theorem rowZ_by {w : World} {g n : Nat} {f : Nat → UInt8} (h : RowZ w g .u8 n 5 (fun i => ((f i).toNat : Int))) : ByAt w (.slice (some ⟨g, 0, none⟩) ((List.range n).map f).length n) ((List.range n).map f) := by
  have := (rowZ_at h).by 0 n n (by simp)
  rw [List.drop_zero, List.take_of_length_le (by simp)] at this
  simpa using this

def stZ (i : Nat) : Value := if i = 0 then .int .i64 0 else if i = 1 then .int .u64 0 else if i < 130 then .int .u8 0 else if i < 210 then .int .u64 0 else if i < 218 then .int .u32 0 else .int .u64 0
theorem Try.zero63z : (Try.prog.info? 92).map (fun i => (i.zero, i.size)) = some (some (.agg ((List.range 226).map stZ).toArray), 226) := by kernel_rfl
theorem st_one (k n : Nat) (r : Nat → UInt8) (c : Nat → Nat) : ((List.range 226).map (stV k n r c)).toArray.all (·.oneCell') = true := by
  refine all_oneCell_toArray fun v hv => ?_
  obtain ⟨i, _, rfl⟩ := List.mem_map.1 hv
  unfold stV
  repeat' split
  all_goals rfl
set_option maxRecDepth 100000 in
set_option maxHeartbeats 800000 in
theorem clone_any (k : Nat) (g : Nat) (s : Ps) (w : World) (hs : StAt w g k s) : Calls Try.prog 32 #[.pointer (some ⟨g, 0, none⟩)] w fun e w' => ∃ g', e = .returned (.pointer (some ⟨g', 0, none⟩)) ∧ w.heap.size ≤ g' ∧ StAt w' g' k s ∧ Below w.heap.size w w' := by
  obtain ⟨hz, hsz⟩ := zero_of_info Try.zero63z
  have HO := hidD (st_one k s.n s.r s.c)
  have HI : Hid ((Try.prog.info? 92).map (·.size) = some ((List.range 226).map (stV k s.n s.r s.c)).toArray.size) := by show _ = _; rw [hsz]; simp
  have HZ : Hid (((List.range 226).map stZ).toArray.size = ((List.range 226).map (stV k s.n s.r s.c)).toArray.size) := by show _ = _; simp
  have HS : Hid (w.heap[g]? = some (.cells ((List.range 226).map (stV k s.n s.r s.c)).toArray (92 : TypeId) (0, 0))) := hs
  have HF : Hid (∀ w', w'.heap[w.heap.size]? = some (.cells ((List.range 226).map (stV k s.n s.r s.c)).toArray (92 : TypeId) (0, 0)) → StAt w' w.heap.size k s) := fun _ h => h
  clear hs hsz
  generalize ((List.range 226).map (stV k s.n s.r s.c)).toArray = R at *
  generalize ((List.range 226).map stZ).toArray = Z at *
  go_enter Try.func32, Try.ntmps32
  go_wp2_with (first | (refine wpList_load_row rfl 92 _ rfl g rfl 92 R (0, 0) _ HS.out Try.underlying92 rfl HI.out ?_) | (refine wpList_store_row rfl 92 _ _ rfl w.heap.size R rfl rfl 92 Z (heap_alloc_last _ _) HI.out HZ.out HO.out ?_))
  go_ret
  exact ⟨w.heap.size, rfl, Nat.le_refl _, HF.out _ (setRow_heap _ _ _ _ _ _ (heap_alloc_last _ _)), below_setRow ((Below.refl _ _).alloc (Nat.le_refl _) _) (Nat.le_refl _) _⟩
end Go.Proofs.Ytnldpofljeodiaa
