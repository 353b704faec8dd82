/- What total, twoBytes, counted, numberOf and round answer. -/
import Derived.Test.YtpemajghaceegaaGreatDoorHxc
namespace Go.Proofs.YtpemajghaceegaaGreatDoor
open Go.RowKit
set_option linter.unusedVariables false

set_option maxRecDepth 100000 in
theorem round_any (n : Nat) (hn : n ≤ 4611686018427387904) (w : World) : Calls Tryz.prog 79 #[.int .i64 (n : Int)] w fun e w' => e = .returned (.int .i64 ((n % 65536 : Nat) : Int)) ∧ w' = w := by
  go_enter Tryz.func79, Tryz.ntmps79
  go_wp2
  go_ret
  exact ⟨rfl, rfl⟩
theorem two_cells (n : Nat) : (#[.int .u8 ((n : Int) / 256 % 256), .int .u8 ((n : Int) % 256)] : Array Value) = ([hiB n, loB n].map encB).toArray := by
  have h1 := hiB_nat n
  have h2 := loB_nat n
  simp only [List.map_cons, List.map_nil, encB]
  rw [h1, h2]
  have e1 : ((n / 256 % 256 : Nat) : Int) = (n : Int) / 256 % 256 := by omega
  have e2 : ((n % 256 : Nat) : Int) = (n : Int) % 256 := by omega
  rw [e1, e2]
set_option maxRecDepth 100000 in
theorem twoBytes_any (n : Nat) (hn : n ≤ 140737488355328) (w : World) : Calls Tryz.prog 111 #[.int .i64 (n : Int)] w fun e w' => ∃ v, e = .returned v ∧ w'.ownsRow w.heap.size 5 1 v 2 ([hiB n, loB n].map encB) ∧ Below w.heap.size w w' := by
  go_enter Tryz.func111, Tryz.ntmps111
  go_wp2
  go_ret
  rw [two_cells n]
  exact ⟨_, rfl, full_row (Nat.le_refl _) rfl (by decide) (heap_alloc_last _ _), (Below.refl _ _).alloc (Nat.le_refl _) _⟩
theorem tot_take {l : List UInt8} {k : Nat} (h : k < l.length) : totS (l.take (k + 1)) = totS (l.take k) + (l.getD k 0).toNat := by
  rw [List.take_add_one, List.getElem?_eq_getElem h, tot_append, List.getD_eq_getElem?_getD, List.getElem?_eq_getElem h]
  simp [totS]
set_option maxRecDepth 100000 in
theorem total_any (v : Value) (l : List UInt8) (hl : l.length ≤ 140737488355000) (w : World) (h : ByAt w v l) : Calls Tryz.prog 108 #[v] w fun e w' => e = .returned (.int .i64 (totS l : Int)) ∧ w' = w := by
  obtain ⟨a, cap, rfl, h1, h2, h3, h4⟩ := h
  have H4 := hidD h4
  clear h3 h4
  obtain ⟨N, HN⟩ : ∃ N, Hid (l.length = N) := ⟨_, rfl⟩
  rw [HN.out] at h1 hl H4 ⊢
  have HT : Hid (∀ k, k < N → totS (l.take (k + 1)) = totS (l.take k) + (l.getD k 0).toNat) := fun k hk => tot_take (by rw [HN.out]; exact hk)
  have HL : Hid (∀ k, k ≤ N → totS (l.take k) ≤ 255 * k) := fun k hk => by have := tot_le (l.take k); rw [List.length_take] at this; omega
  have HE : Hid (l.take N = l) := by show _ = _; rw [← HN.out]; exact List.take_length
  go_enter Tryz.func108, Tryz.ntmps108
  go_wp2 
  go_loopw [3, 8] (fun s i wr => ∃ k : Nat, k ≤ N ∧ i = .int .i64 k ∧ s = .int .i64 (totS (l.take k) : Int) ∧ wr = w) (fun _ i _ => N - (intOf i).toNat)
  case atStart => exact ⟨0, Nat.zero_le _, rfl, rfl, rfl⟩
  case round =>
    obtain ⟨k, hk, rfl, rfl, rfl⟩ := hrel
    by_cases hlt : k < N
    · have hlti : (k : Int) < N := by omega
      obtain ⟨g, o, rfl, hg, hc⟩ := H4.out k hlt
      have HS := hidD (HT.out k hlt)
      have hb := HL.out k hk
      have hx := (l.getD k 0).toNat_lt
      have h2' : ((255 : Int) * k) ≤ 35888059530530000 := by omega
      generalize (l.getD k 0).toNat = x at *
      generalize totS (l.take k) = s0 at *
      go_wp2
      go_roundw
      case rel => exact ⟨k + 1, by omega, by go_num, by rw [HS.out]; go_num, trivial⟩
      case measure => simp [intOf]; omega
    · obtain rfl : k = N := by omega
      rw [HE.out]
      have hlt' : ¬ (k : Int) < k := by omega
      go_wp2
      go_ret
      exact ⟨rfl, rfl⟩
theorem or_nat (x y : Nat) (hy : y < 256) : x * 256 ||| y = 256 * x + y := by
  have := Nat.shiftLeft_add_eq_or_of_lt (i := 8) (b := y) (by simpa using hy) x
  rw [Nat.shiftLeft_eq] at this
  rw [show x * 256 = x * 2 ^ 8 from rfl, ← this]; omega
theorem or_word (x y : Nat) (hx : x < 256) (hy : y < 256) : bits .or .i64 ((x : Int) * 256) (y : Int) = ((256 * x + y : Nat) : Int) := by
  have h := or_nat x y hy
  have e1 : ((x : Int) * 256) = ((x * 256 : Nat) : Int) := by omega
  rw [e1]
  show IntKind.i64.wrap ((BitVec.ofInt 64 ((x * 256 : Nat) : Int) ||| BitVec.ofInt 64 (y : Int)).toNat : Int) = _
  rw [BitVec.toNat_or, ofInt_u64 _ (by omega), ofInt_u64 _ (by omega), h]
  simp only [IntKind.wrap, IntKind.bits, IntKind.signed]
  simp
  omega
set_option maxRecDepth 100000 in
theorem numberOf_any (v : Value) (l : List UInt8) (hl : 2 ≤ l.length) (w : World) (h : ByAt w v l) : Calls Tryz.prog 110 #[v] w fun e w' => e = .returned (.int .i64 (n2 l 0 : Int)) ∧ Below w.heap.size w w' := by
  obtain ⟨a, cap, rfl, h1, h2, h3, h4⟩ := h
  obtain ⟨g, o, rfl, hg, hc0⟩ := h4 0 (by omega)
  obtain ⟨g', o', e, _, hc1⟩ := h4 1 (by omega)
  cases e
  rw [Nat.add_zero] at hc0
  have HV := hidD (show n2 l 0 = 256 * (l.getD 0 0).toNat + (l.getD 1 0).toNat from rfl)
  have hx := (l.getD 0 0).toNat_lt
  have hy := (l.getD 1 0).toNat_lt
  clear h4 h3
  generalize (l.getD 0 0).toNat = x at *
  generalize (l.getD 1 0).toNat = y at *
  obtain ⟨N, HN⟩ : ∃ N, Hid (l.length = N) := ⟨_, rfl⟩
  rw [HN.out] at h1 hl ⊢
  have hl0' : 0 < N := by omega
  have hl1' : 1 < N := by omega
  have hl0 : (0 : Int) < N := by omega
  have hl1 : (1 : Int) < N := by omega
  go_enter Tryz.func110, Tryz.ntmps110
  go_wp2
  go_quiet (fail)
  rw [or_word x y hx hy, ← HV.out]
  go_wp2
  go_ret
  exact ⟨rfl, below_drewN (Below.refl _ _) _⟩
set_option maxRecDepth 100000 in
theorem counted_any (n a : Nat) (hn : n < 65536) (ha : a < 65536) (w : World) : Calls Tryz.prog 106 #[.int .i64 (n : Int), .int .i64 (a : Int)] w fun e w' => ∃ v, e = .returned v ∧ w'.ownsRow w.heap.size 5 1 v 3 ([UInt8.ofNat n, hiB a, loB a].map encB) ∧ Below w.heap.size w w' := by
  have HTB : Hid (∀ w, Calls Tryz.prog 111 #[.int .i64 (a : Int)] w fun e w' => ∃ v, e = .returned v ∧ w'.ownsRow w.heap.size 5 1 v 2 ([hiB a, loB a].map encB) ∧ Below w.heap.size w w') := fun w => twoBytes_any a (by omega) w
  have HC : Hid (∀ w : World, (w.alloc (Obj.cells #[Value.int IntKind.u8 ((n : Int) % 256)] 5)).ownsRow w.heap.size 5 1 (.slice (some ⟨w.heap.size, 0, none⟩) 1 1) 1 ([UInt8.ofNat n].map encB)) := fun w => by
    refine full_row (Nat.le_refl _) rfl (by decide) ?_
    rw [heap_alloc_last]
    have := of_nat n
    simp only [List.map_cons, List.map_nil, encB, this]
    rw [Int.natCast_emod]; rfl
  go_enter Tryz.func106, Tryz.ntmps106
  go_wp2_with first
    | (at_builtin
       refine wpList_append_by rfl _ _ rfl w.heap.size (.slice (some ⟨w.heap.size, 0, none⟩) 1 1) 1 ([UInt8.ofNat n].map encB) rfl HOW.out u [hiB a, loB a] rfl HBY.out (by simp) (Nat.le_trans HBL.out.size (Nat.le_refl _)) ?_
       intro v2 w2 hown2 hgrow
       have HOW2 := hidD hown2
       have HGR := hidD hgrow
       clear hown2 hgrow)
    | (go_at_call 111
       refine (HTB.out _).mono ?_
       rintro e w1 ⟨u, rfl, hown, hb⟩
       have HOW := hidD (row_below (HC.out w) hb)
       have HBY := hidD (by_of_own hown)
       have HBL := hidD (((Below.refl w.heap.size w).alloc (Nat.le_refl _) _).trans (hb.mono (Nat.le_of_lt (by simp))))
       clear hown hb)
  go_ret
  exact ⟨_, rfl, HOW2.out, row_grown HOW.out HBL.out HGR.out HBL.out.size⟩
end Go.Proofs.YtpemajghaceegaaGreatDoor
