/- What the document's Interleave answers. -/
import Derived.Test.YtdpkeffkpecmjaaRwa
namespace Go.Proofs.Ytdpkeffkpecmjaa
open Go.RowKit
set_option linter.unusedVariables false

set_option maxRecDepth 100000 in
set_option maxHeartbeats 1600000 in
theorem rinter_odd (L : List (List UInt8)) (hn : L.length ≤ 1048576) (he : ¬ Evn L) (v : Value) (w : World) (hv : PcAt w v L) :
    Calls Try.prog 27 #[v] w fun e w' => e = .returned (.tuple #[.slice none 0 0, .int .i64 1]) ∧ Below w.heap.size w w' := by
  obtain ⟨a, cap, rfl, hc⟩ := hv
  have HD : Hid (∀ m, (∀ k, k < L.length → (L.getD k []).length = m) → m = (L.getD 0 []).length → False) := fun m h hm => he fun k hk => by rw [h k hk, hm]
  have HW : Hid (Below w.heap.size w w) := Below.refl _ _
  have hpos : 0 < L.length := by
    rcases Nat.eq_zero_or_pos L.length with h | h
    · exact absurd (fun k hk => by omega) he
    · exact h
  obtain ⟨g, off, v0, rfl, hg, hc0, hb0⟩ := hc 0 hpos
  have hc0' : w.cell? ⟨g, off, none⟩ = some v0 := hc0
  have HCB : Hid (∀ k, k < L.length → ∃ vk, w.cell? ⟨g, off + k, none⟩ = some vk ∧ ByAt w vk (L.getD k [])) := fun k hk => by
    obtain ⟨gk, ok, vk, hgk, hgl, hck, hbk⟩ := hc k hk
    obtain ⟨rfl, rfl⟩ : g = gk ∧ off = ok := by simpa using hgk
    exact ⟨vk, hck, hbk⟩
  have H0 : Hid ((L.getD 0 []).length = (L.getD 0 []).length) := rfl
  clear hc0 he hc
  obtain ⟨a0, cap0, rfl⟩ := by_shape hb0
  clear hb0
  generalize hm0 : (L.getD 0 []).length = m at *
  have HM0 := hidD hm0
  clear hm0 H0
  generalize L.length = n at *
  have hni : (0 : Int) < n := by omega
  go_enter Try.func27, Try.ntmps27
  go_wp2_with fail
  go_loopw [5] (fun i wr => ∃ k : Nat, 1 ≤ k ∧ k ≤ n ∧ i = .int .i64 k ∧ (∀ j, j < k → (L.getD j []).length = m) ∧ Below w.heap.size w wr) (fun i _ => n - (intOf i).toNat)
  case atStart => exact ⟨1, Nat.le_refl _, hpos, rfl, fun j hj => by rw [show j = 0 by omega]; exact HM0.out, HW.out⟩
  case round =>
    obtain ⟨k, hk1, hk, rfl, hok, hbel⟩ := hrel
    have HOK := hidD hok
    have HBW := hidD hbel
    clear hok
    by_cases hlt : k < n
    · have hlti : (k : Int) < n := by omega
      obtain ⟨vk, hck, hbk⟩ := HCB.out k hlt
      have f1 : wr.cell? ⟨g, off + k, none⟩ = some vk := (hbel.cell (p := ⟨g, _, none⟩) hg).trans hck
      have f0 : wr.cell? ⟨g, off, none⟩ = some (.slice a0 m cap0) := (hbel.cell (p := ⟨g, _, none⟩) hg).trans hc0'
      obtain ⟨ak, capk, rfl⟩ := by_shape hbk
      clear hck hbk hbel
      by_cases hml : (L.getD k []).length = m
      · have HML := hidD hml
        rw [hml] at f1
        clear hml
        have hmm : ((m : Int) != m) = false := by simp
        go_wp2_with fail
        go_quiet (fail)
        go_wp2_with fail
        go_roundw
        case rel => exact ⟨k + 1, by omega, by omega, by go_num, fun j hj => by
          by_cases h : j = k
          · rw [h]; exact HML.out
          · exact HOK.out j (by omega), below_drewN HBW.out _⟩
        case measure => simp [intOf]; omega
      · have hmm : (((L.getD k []).length : Int) != m) = true := bne_iff_ne.2 (by omega)
        generalize (L.getD k []).length = q at *
        go_wp2_with fail
        go_quiet (fail)
        go_wp2_with fail
        refine bodyPost_ret (v := .tuple #[.slice none 0 0, .int .i64 1]) (by simp [results, Try.results27, go_sem]) rfl ?_
        exact ⟨rfl, below_drewN HBW.out _⟩
    · obtain rfl : k = n := by omega
      exact (HD.out m HOK.out rfl).elim

set_option maxRecDepth 100000 in
set_option maxHeartbeats 3200000 in
theorem rinter_even (L : List (List UInt8)) (hn : L.length ≤ 1048576) (hm : (L.getD 0 []).length ≤ 1048576) (he : Evn L) (v : Value) (w : World) (hv : PcAt w v L) :
    Calls Try.prog 27 #[v] w fun e w' => ∃ u, e = .returned (.tuple #[u, .int .i64 0]) ∧ ByAt w' u (ilvTo L (L.getD 0 []).length) ∧ Below w.heap.size w w' := by
  obtain ⟨a, cap, rfl, hc⟩ := hv
  have HW : Hid (Below w.heap.size w w) := Below.refl _ _
  rcases Nat.eq_zero_or_pos L.length with h0 | hpos
  · have HZ : Hid (ilvTo L (L.getD 0 []).length = []) := by
      rw [List.length_eq_zero_iff.1 h0]; rfl
    rw [h0]
    go_enter Try.func27, Try.ntmps27
    go_wp2_with fail
    go_loopw [5] (fun i wr => i = .int .i64 1 ∧ wr = w) (fun _ _ => 0)
    case atStart => exact ⟨rfl, rfl⟩
    case round =>
      obtain ⟨rfl, hw⟩ := hrel
      subst wr
      go_wp2_with fail
      go_loopw [4, 6] (fun o i wr => o = .slice none 0 0 ∧ i = .int .i64 0 ∧ wr = w) (fun _ _ _ => 0)
      case atStart => exact ⟨rfl, rfl, rfl⟩
      case round =>
        obtain ⟨rfl, rfl, hw⟩ := hrel
        subst wr
        go_wp2_with fail
        refine bodyPost_ret (v := .tuple #[.slice none 0 0, .int .i64 0]) (by simp [results, Try.results27, go_sem]) rfl ?_
        exact ⟨_, rfl, by rw [HZ.out]; exact .inl ⟨rfl, none, 0, rfl, fun _ => rfl⟩, HW.out⟩
  · have HE : Hid (∀ k, k < L.length → (L.getD k []).length = (L.getD 0 []).length) := he
    obtain ⟨g, off, v0, rfl, hg, hc0, hb0⟩ := hc 0 hpos
    have hc0' : w.cell? ⟨g, off, none⟩ = some v0 := hc0
    have HLN := hidD (ilvTo_length L)
    have HCN := hidD (colTo_next L)
    have HIN : Hid (∀ k, ilvTo L (k + 1) = ilvTo L k ++ colTo L k L.length) := fun k => rfl
    have HCB : Hid (∀ k, k < L.length → ∃ vk, w.cell? ⟨g, off + k, none⟩ = some vk ∧ ByAt w vk (L.getD k [])) := fun k hk => by
      obtain ⟨gk, ok, vk, hgk, hgl, hck, hbk⟩ := hc k hk
      obtain ⟨rfl, rfl⟩ : g = gk ∧ off = ok := by simpa using hgk
      exact ⟨vk, hck, hbk⟩
    clear hc0 he hc
    obtain ⟨a0, cap0, rfl⟩ := by_shape hb0
    clear hb0
    generalize hm0 : (L.getD 0 []).length = m at *
    clear hm0
    generalize L.length = n at *
    obtain ⟨C, hC⟩ : ∃ C : Nat, C = n * m := ⟨_, rfl⟩
    have hCb : C ≤ 1048576 * 1048576 := by rw [hC]; exact Nat.mul_le_mul hn hm
    have HC : Hid (C = m * n) := by rw [hC]; exact Nat.mul_comm _ _
    clear hC
    have hni : (0 : Int) < n := by omega
    have HLB : Hid (∀ k i, k < m → i ≤ n → k * n + i ≤ C) := fun k i h1 h2 => by
      rw [HC.out]
      have : (k + 1) * n ≤ m * n := Nat.mul_le_mul_right _ h1
      rw [Nat.succ_mul] at this
      omega
    go_enter Try.func27, Try.ntmps27
    go_wp2_with fail
    go_loopw [5] (fun i wr => ∃ k : Nat, 1 ≤ k ∧ k ≤ n ∧ i = .int .i64 k ∧ Below w.heap.size w wr) (fun i _ => n - (intOf i).toNat)
    case atStart => exact ⟨1, Nat.le_refl _, hpos, rfl, HW.out⟩
    case round =>
      obtain ⟨k, hk1, hk, rfl, hbel⟩ := hrel
      have HBW := hidD hbel
      by_cases hlt : k < n
      · have hlti : (k : Int) < n := by omega
        obtain ⟨vk, hck, hbk⟩ := HCB.out k hlt
        have f0 : wr.cell? ⟨g, off, none⟩ = some (.slice a0 m cap0) := (hbel.cell (p := ⟨g, _, none⟩) hg).trans hc0'
        obtain ⟨ak, capk, rfl⟩ := by_shape hbk
        clear hbk
        rw [HE.out k hlt] at hck
        have f1 : wr.cell? ⟨g, off + k, none⟩ = some (.slice ak m capk) := (hbel.cell (p := ⟨g, _, none⟩) hg).trans hck
        have hmm : ((m : Int) != m) = false := by simp
        clear hbel hck
        go_wp2_with fail
        go_quiet (fail)
        go_wp2_with fail
        go_roundw
        case rel => exact ⟨k + 1, by omega, by omega, by go_num, below_drewN HBW.out _⟩
        case measure => simp [intOf]; omega
      · obtain rfl : k = n := by omega
        obtain ⟨wo, hwo⟩ : ∃ wo, wo = wr := ⟨_, rfl⟩
        subst hwo
        clear hbel
        go_wp2_with fail
        go_loopw [4, 6] (fun o i wr => ∃ q : Nat, q ≤ m ∧ i = .int .i64 q ∧ wr.ownsRow w.heap.size 5 1 o (q * k) ((ilvTo L q).map encB) ∧ Below w.heap.size w wr) (fun _ i _ => m - (intOf i).toNat)
        case atStart => exact ⟨0, Nat.zero_le _, rfl, by rw [Nat.zero_mul]; exact World.ownsRow_nil _ _ _ _, HBW.out⟩
        case round =>
          obtain ⟨q, hq, rfl, hown, hbel⟩ := hrel
          have HOW := hidD hown
          have HBW := hidD hbel
          have f0 : wr.cell? ⟨g, off, none⟩ = some (.slice a0 m cap0) := (hbel.cell (p := ⟨g, _, none⟩) hg).trans hc0'
          clear hown hbel
          by_cases hqt : q < m
          · have hqti : (q : Int) < m := by omega
            have HI := hidD (HIN.out q)
            have HOW0 : Hid (wr.ownsRow w.heap.size 5 1 u4 (q * k + 0) ((ilvTo L q ++ colTo L q 0).map encB)) := by
              show World.ownsRow _ _ _ _ _ _ _
              rw [Nat.add_zero, show colTo L q 0 = [] from rfl, List.append_nil]; exact HOW.out
            generalize hQK : q * k = QK at *
            have HQK := hidD hQK
            have hqkb : ∀ i, i ≤ k → QK + i ≤ 1048576 * 1048576 := fun i hi => Nat.le_trans (by rw [← hQK]; exact HLB.out q i hqt hi) hCb
            have HQB := hidD hqkb
            clear hQK hqkb
            go_wp2_with fail
            go_loopw [4, 7] (fun o i wr => ∃ j : Nat, j ≤ k ∧ i = .int .i64 j ∧ wr.ownsRow w.heap.size 5 1 o (QK + j) ((ilvTo L q ++ colTo L q j).map encB) ∧ Below w.heap.size w wr) (fun _ i _ => k - (intOf i).toNat)
            case atStart => exact ⟨0, Nat.zero_le _, rfl, HOW0.out, HBW.out⟩
            case round =>
              obtain ⟨j, hj, rfl, hown, hbel⟩ := hrel
              have HOQ := hidD hown
              have HBQ := hidD hbel
              clear hown
              by_cases hjt : j < k
              · have hjti : (j : Int) < k := by omega
                obtain ⟨vk, hck, hbk⟩ := HCB.out j hjt
                have hml := HE.out j hjt
                obtain ⟨ak, capk, rfl, hcells⟩ := hbk.shape
                obtain ⟨gk, ok, rfl, hgk, hcq⟩ := hcells q (by omega)
                have f1 : wr.cell? ⟨g, off + j, none⟩ = some (.slice (some ⟨gk, ok, none⟩) m capk) := by
                  rw [hml] at hck
                  exact (hbel.cell (p := ⟨g, off + j, none⟩) hg).trans hck
                have f2 : wr.cell? ⟨gk, ok + q, none⟩ = some (.int .u8 (((L.getD j []).getD q 0).toNat : Int)) := (hbel.cell (p := ⟨gk, ok + q, none⟩) hgk).trans hcq
                have HN := hidD (HCN.out q j)
                have hjb := HQB.out j hj
                have HBS : Hid (∀ (w' : World) (x : UInt8), ByAt (w'.alloc (.cells #[.int .u8 (x.toNat : Int)] (5 : TypeId))) (.slice (some ⟨w'.heap.size, 0, none⟩) 1 1) [x]) := fun w' x => (sl_new w' [x] _ 1 rfl rfl (by omega)).by'
                clear hck hcells hcq hbel hml hbk
                generalize (L.getD j []).getD q 0 = X at *
                generalize hRR : (ilvTo L q ++ colTo L q j).map encB = RR at *
                have HRR := hidD hRR
                clear hRR
                go_wp2_with (at_builtin; refine wpList_append_by rfl _ _ rfl w.heap.size u4 (QK + j) RR rfl (HOQ.out.alloc _) (.slice (some ⟨wr.heap.size, 0, none⟩) 1 1) [X] rfl (HBS.out wr X) (by simp; omega) (by have := HBQ.out.size; simp; omega) ?_; intro v8 w8 hown8 hg8; have HO8 := hidD hown8; have HB8 := hidD (row_grown (HOQ.out.alloc _) (HBQ.out.alloc (by have := HBQ.out.size; omega) _) hg8 (by have := HBQ.out.size; simp; omega)); clear hown8 hg8)
                go_roundw
                case rel => exact ⟨j + 1, by omega, by go_num, by rw [HN.out, ← List.append_assoc, List.map_append, HRR.out]; exact HO8.out, HB8.out⟩
                case measure => simp [intOf]; omega
              · obtain rfl : j = k := by omega
                clear hbel
                go_wp2_with fail
                go_roundw
                case rel => exact ⟨q + 1, by omega, by go_num, by rw [HI.out, Nat.succ_mul, HQK.out]; exact HOQ.out, HBQ.out⟩
                case measure => simp [intOf]; omega
          · obtain rfl : q = m := by omega
            have HSL : Hid (ByAt wr u4 (ilvTo L q)) := by
              have := HOW.out
              refine row_by (base := w.heap.size) (e := 5) ?_
              rw [HLN.out]; exact this
            obtain ⟨a7, c7, h7⟩ := row_shape HOW.out
            subst h7
            go_wp2_with fail
            refine bodyPost_ret (v := .tuple #[.slice a7 (q * k) c7, .int .i64 0]) (by simp [results, Try.results27, go_sem]) rfl ?_
            exact ⟨_, rfl, HSL.out, HBW.out⟩
end Go.Proofs.Ytdpkeffkpecmjaa
