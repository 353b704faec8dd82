/- Rows of bytes; what Interleave answers. -/
import Derived.Test.YtdpkeffkpecmjaaRss
namespace Go.Proofs.Ytdpkeffkpecmjaa
open Go.RowKit
set_option linter.unusedVariables false

/-- A slice value reads as these rows of bytes. -/
def PcAt (w : World) (sl : Value) (L : List (List UInt8)) : Prop := ∃ a cap, sl = .slice a L.length cap ∧ ∀ k, k < L.length → ∃ g off v, a = some ⟨g, off, none⟩ ∧ g < w.heap.size ∧ w.cell? ⟨g, off + k, none⟩ = some v ∧ ByAt w v (L.getD k [])
theorem PcAt.next {w w' : World} {sl : Value} {L : List (List UInt8)} (h : PcAt w sl L) (hb : Below w.heap.size w w') : PcAt w' sl L := by
  obtain ⟨a, cap, rfl, hc⟩ := h
  refine ⟨a, cap, rfl, fun k hk => ?_⟩
  obtain ⟨g, off, v, h1, h2, h3, h4⟩ := hc k hk
  exact ⟨g, off, v, h1, Nat.lt_of_lt_of_le h2 hb.size, (hb.cell (p := ⟨g, off + k, none⟩) h2).trans h3, h4.next hb⟩
/-- The k-th column of rows, up to the i-th row. -/
def colTo (L : List (List UInt8)) (k i : Nat) : List UInt8 := (List.range i).map fun j => (L.getD j []).getD k 0
/-- The first k columns, one behind the other. -/
def ilvTo (L : List (List UInt8)) : Nat → List UInt8
  | 0 => []
  | k + 1 => ilvTo L k ++ colTo L k L.length
theorem colTo_length (L : List (List UInt8)) (k i : Nat) : (colTo L k i).length = i := by simp [colTo]
theorem colTo_next (L : List (List UInt8)) (k i : Nat) : colTo L k (i + 1) = colTo L k i ++ [(L.getD i []).getD k 0] := by simp [colTo, List.range_succ]
theorem ilvTo_length (L : List (List UInt8)) : ∀ k, (ilvTo L k).length = k * L.length
  | 0 => by simp [ilvTo]
  | k + 1 => by rw [ilvTo, List.length_append, ilvTo_length L k, colTo_length, Nat.succ_mul]
/-- Are all rows as long as the first one? -/
def Evn (L : List (List UInt8)) : Prop := ∀ k, k < L.length → (L.getD k []).length = (L.getD 0 []).length

set_option maxRecDepth 100000 in
set_option maxHeartbeats 1600000 in
theorem inter_odd (L : List (List UInt8)) (hn : L.length ≤ 1048576) (he : ¬ Evn L) (v : Value) (w : World) (hv : PcAt w v L) :
    Calls Try.prog 26 #[v] w fun e w' => e = .returned (.tuple #[.slice none 0 0, .int .i64 1]) ∧ Below w.heap.size w w' := by
  obtain ⟨a, cap, rfl, hc⟩ := hv
  have HCE := hidD hc
  have HE := hidD he
  have HD : Hid (∀ m, (∀ k, k < L.length → (L.getD k []).length = m) → m = (L.getD 0 []).length → False) := fun m h hm => he fun k hk => by rw [h k hk, hm]
  have HW : Hid (Below w.heap.size w w) := Below.refl _ _
  have hpos : 0 < L.length := by
    rcases Nat.eq_zero_or_pos L.length with h | h
    · exact absurd (fun k hk => by omega) he
    · exact h
  obtain ⟨g, off, v0, rfl, hg, hc0, hb0⟩ := hc 0 hpos
  have hc0' : w.cell? ⟨g, off, none⟩ = some v0 := hc0
  clear hc0 he hc
  obtain ⟨a0, cap0, rfl⟩ := by_shape hb0
  clear hb0
  generalize hm0 : (L.getD 0 []).length = m at *
  clear hm0
  generalize L.length = n at *
  have hni : (0 : Int) < n := by omega
  have hnz : ((n : Int) == 0) = false := beq_eq_false_iff_ne.2 (by omega)
  go_enter Try.func26, Try.ntmps26
  go_wp2_with fail
  go_loopw [20] (fun i wr => ∃ k : Nat, k ≤ n ∧ i = .int .i64 k ∧ (∀ j, j < k → (L.getD j []).length = m) ∧ Below w.heap.size w wr) (fun i _ => n - (intOf i).toNat)
  case atStart => exact ⟨0, Nat.zero_le _, rfl, fun j hj => absurd hj (by omega), HW.out⟩
  case round =>
    obtain ⟨k, hk, rfl, hok, hbel⟩ := hrel
    have HOK := hidD hok
    have HBW := hidD hbel
    clear hok
    by_cases hlt : k < n
    · have hlti : (k : Int) < n := by omega
      obtain ⟨gk, ok, vk, hgk, hgl, hck, hbk⟩ := HCE.out k hlt
      obtain ⟨rfl, rfl⟩ : g = gk ∧ off = ok := by simpa using hgk
      have f1 : wr.cell? ⟨g, off + k, none⟩ = some vk := (hbel.cell (p := ⟨g, _, none⟩) hgl).trans hck
      obtain ⟨ak, capk, rfl⟩ := by_shape hbk
      clear hck hbk hbel hgk
      by_cases hml : (L.getD k []).length = m
      · have HML := hidD hml
        rw [hml] at f1
        clear hml
        have hmm : ((m : Int) != m) = false := by simp
        go_wp2_with fail
        go_roundw
        case rel => exact ⟨k + 1, by omega, by go_num, fun j hj => by
          by_cases h : j = k
          · rw [h]; exact HML.out
          · exact HOK.out j (by omega), HBW.out⟩
        case measure => simp [intOf]; omega
      · have hmm : (((L.getD k []).length : Int) != m) = true := bne_iff_ne.2 (by omega)
        generalize (L.getD k []).length = q at *
        go_wp2_with fail
        refine bodyPost_ret (v := .tuple #[.slice none 0 0, .int .i64 1]) (by simp [results, Try.results26, go_sem]) rfl ?_
        exact ⟨rfl, HBW.out⟩
    · obtain rfl : k = n := by omega
      exact (HD.out m HOK.out rfl).elim

set_option maxRecDepth 100000 in
set_option maxHeartbeats 3200000 in
theorem inter_even (L : List (List UInt8)) (hn : L.length ≤ 1048576) (hm : (L.getD 0 []).length ≤ 1048576) (he : Evn L) (v : Value) (w : World) (hv : PcAt w v L) :
    Calls Try.prog 26 #[v] w fun e w' => ∃ u, e = .returned (.tuple #[u, .int .i64 0]) ∧ ByAt w' u (ilvTo L (L.getD 0 []).length) ∧ Below w.heap.size w w' := by
  obtain ⟨a, cap, rfl, hc⟩ := hv
  have HW : Hid (Below w.heap.size w w) := Below.refl _ _
  rcases Nat.eq_zero_or_pos L.length with h0 | hpos
  · have HZ : Hid (ilvTo L (L.getD 0 []).length = []) := by
      rw [List.length_eq_zero_iff.1 h0]; rfl
    rw [h0]
    go_enter Try.func26, Try.ntmps26
    go_wp2_with fail
    refine bodyPost_ret (v := .tuple #[.slice none 0 0, .int .i64 0]) (by simp [results, Try.results26, go_sem]) rfl ?_
    exact ⟨_, rfl, by rw [HZ.out]; exact .inl ⟨rfl, none, 0, rfl, fun _ => rfl⟩, HW.out⟩
  · have HCE := hidD hc
    have HE : Hid (∀ k, k < L.length → (L.getD k []).length = (L.getD 0 []).length) := he
    obtain ⟨g, off, v0, rfl, hg, hc0, hb0⟩ := hc 0 hpos
    have hc0' : w.cell? ⟨g, off, none⟩ = some v0 := hc0
    have HLN := hidD (ilvTo_length L)
    have HCN := hidD (colTo_next L)
    have HCL := hidD (colTo_length L)
    have HIN : Hid (∀ k, ilvTo L (k + 1) = ilvTo L k ++ colTo L k L.length) := fun k => rfl
    have HCB : Hid (∀ k, k < L.length → ∃ vk, w.cell? ⟨g, off + k, none⟩ = some vk ∧ ByAt w vk (L.getD k [])) := fun k hk => by
      obtain ⟨gk, ok, vk, hgk, hgl, hck, hbk⟩ := hc k hk
      obtain ⟨rfl, rfl⟩ : g = gk ∧ off = ok := by simpa using hgk
      exact ⟨vk, hck, hbk⟩
    clear hc0 he hc HCE
    obtain ⟨a0, cap0, rfl⟩ := by_shape hb0
    clear hb0
    generalize hm0 : (L.getD 0 []).length = m at *
    clear hm0
    generalize L.length = n at *
    obtain ⟨C, hC⟩ : ∃ C : Nat, C = n * m := ⟨_, rfl⟩
    have hmul : (n : Int) * (m : Int) = (C : Int) := by rw [hC]; push_cast; rfl
    have hCb : C ≤ 1048576 * 1048576 := by rw [hC]; exact Nat.mul_le_mul hn hm
    have HC : Hid (C = m * n) := by rw [hC]; exact Nat.mul_comm _ _
    clear hC
    have hni : (0 : Int) < n := by omega
    have hnz : ((n : Int) == 0) = false := beq_eq_false_iff_ne.2 (by omega)
    have HLB : Hid (∀ k i, k < m → i ≤ n → k * n + i ≤ C) := fun k i h1 h2 => by
      rw [HC.out]
      have : (k + 1) * n ≤ m * n := Nat.mul_le_mul_right _ h1
      rw [Nat.succ_mul] at this
      omega
    obtain ⟨i0, hi, hz0, hz1, hz2⟩ := info_parts Try.info5
    go_enter Try.func26, Try.ntmps26
    go_wp2_with fail
    go_loopw [20] (fun i wr => ∃ k : Nat, k ≤ n ∧ i = .int .i64 k ∧ wr = w) (fun i _ => n - (intOf i).toNat)
    case atStart => exact ⟨0, Nat.zero_le _, rfl, rfl⟩
    case round =>
      obtain ⟨k, hk, rfl, hwr⟩ := hrel
      subst wr
      by_cases hlt : k < n
      · have hlti : (k : Int) < n := by omega
        obtain ⟨vk, hck, hbk⟩ := HCB.out k hlt
        obtain ⟨ak, capk, rfl⟩ := by_shape hbk
        clear hbk
        rw [HE.out k hlt] at hck
        have hmm : ((m : Int) != m) = false := by simp
        go_wp2_with fail
        go_roundw
        case rel => exact ⟨k + 1, by omega, by go_num, by first | rfl | trivial⟩
        case measure => simp [intOf]; omega
      · obtain rfl : k = n := by omega
        go_wp2_with (at_make; refine wpList_make_own _ rfl _ _ 22 rfl w.heap.size 5 i0 (.int .u8 0) 1 Try.underlying22 hi hz0 hz1 _ _ _ C rfl rfl rfl (by rw [hz2]; omega) (by unfold maxLen; omega) (Nat.le_refl _) ?_; intro w3 hown3 hg3; have HO3 := hidD hown3; have HB3 : Hid (Below w.heap.size w w3) := ((Below.refl w.heap.size w).grown hg3 (Nat.le_refl _) (fun k hk => by cases hk)); clear hown3 hg3)
        go_loopw [7, 35] (fun o i wr => ∃ q : Nat, q ≤ m ∧ i = .int .i64 q ∧ wr.ownsRow w.heap.size 5 1 o (q * k) ((ilvTo L q).map encB) ∧ Below w.heap.size w wr) (fun _ i _ => m - (intOf i).toNat)
        case atStart => exact ⟨0, Nat.zero_le _, rfl, by rw [Nat.zero_mul]; exact HO3.out, HB3.out⟩
        case round =>
          obtain ⟨q, hq, rfl, hown, hbel⟩ := hrel
          have HOW := hidD hown
          have HBW := hidD hbel
          clear hown hbel
          by_cases hqt : q < m
          · have hqti : (q : Int) < m := by omega
            have HI := hidD (HIN.out q)
            have HOW0 : Hid (wr.ownsRow w.heap.size 5 1 u7 (q * k + 0) ((ilvTo L q ++ colTo L q 0).map encB)) := by
              show World.ownsRow _ _ _ _ _ _ _
              rw [Nat.add_zero, show colTo L q 0 = [] from rfl, List.append_nil]; exact HOW.out
            generalize hQK : q * k = QK at *
            have HQK := hidD hQK
            have hqkb : ∀ i, i ≤ k → QK + i ≤ 1048576 * 1048576 := fun i hi => Nat.le_trans (by rw [← hQK]; exact HLB.out q i hqt hi) hCb
            have HQB := hidD hqkb
            clear hQK hqkb
            go_wp2_with fail
            go_loopw [7, 40] (fun o i wr => ∃ j : Nat, j ≤ k ∧ i = .int .i64 j ∧ wr.ownsRow w.heap.size 5 1 o (QK + j) ((ilvTo L q ++ colTo L q j).map encB) ∧ Below w.heap.size w wr) (fun _ i _ => k - (intOf i).toNat)
            case atStart => exact ⟨0, Nat.zero_le _, rfl, HOW0.out, HBW.out⟩
            case round =>
              obtain ⟨j, hj, rfl, hown, hbel⟩ := hrel
              have HOQ := hidD hown
              have HBQ := hidD hbel
              clear hown
              by_cases hjt : j < k
              · have hjti : (j : Int) < k := by omega
                obtain ⟨vk, hck, hbk⟩ := HCB.out j hjt
                have hml := HE.out j hjt
                obtain ⟨ak, capk, rfl, hcells⟩ := hbk.shape
                obtain ⟨gk, ok, rfl, hgk, hcq⟩ := hcells q (by omega)
                have f1 : wr.cell? ⟨g, off + j, none⟩ = some (.slice (some ⟨gk, ok, none⟩) m capk) := by
                  rw [hml] at hck
                  exact (hbel.cell (p := ⟨g, off + j, none⟩) hg).trans hck
                have f2 : wr.cell? ⟨gk, ok + q, none⟩ = some (.int .u8 (((L.getD j []).getD q 0).toNat : Int)) := (hbel.cell (p := ⟨gk, ok + q, none⟩) hgk).trans hcq
                have HN := hidD (HCN.out q j)
                have hjb := HQB.out j hj
                have HBS : Hid (∀ (w' : World) (x : UInt8), ByAt (w'.alloc (.cells #[.int .u8 (x.toNat : Int)] (5 : TypeId))) (.slice (some ⟨w'.heap.size, 0, none⟩) 1 1) [x]) := fun w' x => (sl_new w' [x] _ 1 rfl rfl (by omega)).by'
                clear hck hcells hcq hbel hml hbk
                generalize (L.getD j []).getD q 0 = X at *
                generalize hRR : (ilvTo L q ++ colTo L q j).map encB = RR at *
                have HRR := hidD hRR
                clear hRR
                go_wp2_with (at_builtin; refine wpList_append_by rfl _ _ rfl w.heap.size u7 (QK + j) RR rfl (HOQ.out.alloc _) (.slice (some ⟨wr.heap.size, 0, none⟩) 1 1) [X] rfl (HBS.out wr X) (by simp; omega) (by have := HBQ.out.size; simp; omega) ?_; intro v8 w8 hown8 hg8; have HO8 := hidD hown8; have HB8 := hidD (row_grown (HOQ.out.alloc _) (HBQ.out.alloc (by have := HBQ.out.size; omega) _) hg8 (by have := HBQ.out.size; simp; omega)); clear hown8 hg8)
                go_roundw
                case rel => exact ⟨j + 1, by omega, by go_num, by rw [HN.out, ← List.append_assoc, List.map_append, HRR.out]; exact HO8.out, HB8.out⟩
                case measure => simp [intOf]; omega
              · obtain rfl : j = k := by omega
                clear hbel
                go_wp2_with fail
                go_roundw
                case rel => exact ⟨q + 1, by omega, by go_num, by rw [HI.out, Nat.succ_mul, HQK.out]; exact HOQ.out, HBQ.out⟩
                case measure => simp [intOf]; omega
          · obtain rfl : q = m := by omega
            have HSL : Hid (ByAt wr u7 (ilvTo L q)) := by
              have := HOW.out
              refine row_by (base := w.heap.size) (e := 5) ?_
              rw [HLN.out]; exact this
            obtain ⟨a7, c7, h7⟩ := row_shape HOW.out
            subst h7
            go_wp2_with fail
            refine bodyPost_ret (v := .tuple #[.slice a7 (q * k) c7, .int .i64 0]) (by simp [results, Try.results26, go_sem]) rfl ?_
            exact ⟨_, rfl, HSL.out, HBW.out⟩
end Go.Proofs.Ytdpkeffkpecmjaa
