/- What inDigits answers: bytes as digits. -/
import Derived.Test.YtpemajghaceegaaGreatDoorBld
namespace Go.Proofs.YtpemajghaceegaaGreatDoor
open Go.RowKit
set_option linter.unusedVariables false

theorem Tryz.zeroBu : (Tryz.prog.info? 93).map (fun i => (i.zero, i.size)) = some (some (.agg #[.pointer none, .slice none 0 0]), 2) := by kernel_rfl
theorem BdF.next {p : Value} {w w' : World} {B b : Nat} {l : List Value} (h : Lib.BuilderAtF 93 5 B b p l w) (hb : Below w.heap.size w w') : Lib.BuilderAtF 93 5 B b p l w' := by
  obtain ⟨h1, v, h2, h3, h4⟩ := h
  refine ⟨h1, v, (hb.block b (row_lt h2)).trans h2, ?_, h4⟩
  refine ⟨h3.1, ?_⟩
  rcases h3.2 with h | ⟨g, cap, cur, fz, e1, e2, e3, e4⟩
  · exact .inl h
  · exact .inr ⟨g, cap, cur, fz, e1, e2, (hb.block g (row_lt e3)).trans e3, e4⟩
theorem BdIs.next {w w' : World} {B b : Nat} {l : List UInt8} (h : BdIs w B b l) (hb : Below w.heap.size w w') : BdIs w' B b l := h.elim (fun h => .inl (BdF.next h hb)) (fun h => .inr (BdF.next h hb))
theorem bd_new (w : World) : BdIs (w.alloc (.cells #[.pointer none, .slice none 0 0] (93 : TypeId))) w.heap.size w.heap.size [] := .inl ⟨Nat.le_refl _, .slice none 0 0, heap_alloc_last _ _, ⟨rfl, .inl ⟨rfl, rfl⟩⟩, nofun⟩
theorem bdString_any (B b : Nat) (l : List UInt8) (w : World) (h : BdIs w B b l) (hB : B ≤ w.heap.size) : Calls Tryz.prog 48 #[.pointer (some ⟨b, 0, none⟩)] w fun e w' => e = .returned (.string (bA l)) ∧ Below B w w' :=
  (Go.Proofs.Tryz.Builder_String_any_f B b l w h hB).mono fun e w' hh => ⟨hh.1, hh.2.2⟩
theorem hex_take {l : List UInt8} {k : Nat} (h : k < l.length) : hexS (l.take (k + 1)) = (hexS (l.take k) ++ [dgS (l.getD k 0 / 16)]) ++ [dgS (l.getD k 0 % 16)] := by
  rw [List.take_add_one, List.getElem?_eq_getElem h, hex_append, List.getD_eq_getElem?_getD, List.getElem?_eq_getElem h]
  simp [hexS]
set_option maxRecDepth 100000 in
set_option maxHeartbeats 800000 in
theorem inDigits_any (v : Value) (l : List UInt8) (hl : l.length ≤ 1048576) (w : World) (h : ByAt w v l) : Calls Tryz.prog 107 #[v] w fun e w' => e = .returned (.string (bA (hexS l))) ∧ Below w.heap.size w w' := by
  obtain ⟨a, cap, rfl, h1, h2, h3, h4⟩ := h
  have H4 := hidD h4
  clear h3 h4
  have HAL := hidD ((Below.refl w.heap.size w).alloc (Nat.le_refl _) (.cells #[.pointer none, .slice none 0 0] (93 : TypeId)))
  have HBN := hidD (bd_new w)
  obtain ⟨hz, hsz⟩ := zero_of_info Tryz.zeroBu
  obtain ⟨N, HN⟩ : ∃ N, Hid (l.length = N) := ⟨_, rfl⟩
  rw [HN.out] at h1 hl H4 ⊢
  have HT : Hid (∀ k, k < N → hexS (l.take (k + 1)) = (hexS (l.take k) ++ [dgS (l.getD k 0 / 16)]) ++ [dgS (l.getD k 0 % 16)]) := fun k hk => hex_take (by rw [HN.out]; exact hk)
  have HL : Hid (∀ k, k ≤ N → (hexS (l.take k)).length = 2 * k) := fun k hk => by show _ = _; rw [hex_len, List.length_take, HN.out]; omega
  have HE : Hid (l.take N = l) := by show _ = _; rw [← HN.out]; exact List.take_length
  have HOD : Hid (∀ (v : UInt8) (hv : v.toNat < 16) (w : World), Calls Tryz.prog 114 #[.int .u8 (v.toNat : Int)] w fun e w' => e = .returned (.string (bA [dgS v])) ∧ w' = w) := fun v hv w => oneDigit_any v hv w
  have HWS : Hid (∀ (l x : List UInt8) (wr : World) (h : BdIs wr w.heap.size w.heap.size l) (hl : l.length + x.length ≤ 140737488355328) (hB : w.heap.size ≤ wr.heap.size), Calls Tryz.prog 47 #[.pointer (some ⟨w.heap.size, 0, none⟩), .string (bA x)] wr fun e w' => e = .returned (.tuple #[.int .i64 (x.length : Int), .nilIface]) ∧ BdAt w' w.heap.size w.heap.size (l ++ x) ∧ Below w.heap.size wr w') := fun l x wr h hl hB => writeString_any w.heap.size w.heap.size l x wr h hl hB
  have HST : Hid (∀ (l : List UInt8) (wr : World) (h : BdIs wr w.heap.size w.heap.size l) (hB : w.heap.size ≤ wr.heap.size), Calls Tryz.prog 48 #[.pointer (some ⟨w.heap.size, 0, none⟩)] wr fun e w' => e = .returned (.string (bA l)) ∧ Below w.heap.size wr w') := fun l wr h hB => bdString_any w.heap.size w.heap.size l wr h hB
  go_enter Tryz.func107, Tryz.ntmps107
  go_wp2_with fail
  go_loopw [8] (fun i wr => ∃ k : Nat, k ≤ N ∧ i = .int .i64 k ∧ BdIs wr w.heap.size w.heap.size (hexS (l.take k)) ∧ Below w.heap.size w wr) (fun i _ => N - (intOf i).toNat)
  case atStart => exact ⟨0, Nat.zero_le _, rfl, HBN.out, HAL.out⟩
  case round =>
    obtain ⟨k, hk, rfl, hbd, hbel⟩ := hrel
    have HBD := hidD hbd
    have HBW := hidD hbel
    clear hbd hbel
    by_cases hlt : k < N
    · have hlti : (k : Int) < N := by omega
      obtain ⟨g, o, rfl, hg, hc0⟩ := H4.out k hlt
      have hc : wr.cell? ⟨g, o + k, none⟩ = some (.int .u8 ((l.getD k 0).toNat : Int)) := (HBW.out.cell (p := ⟨g, o + k, none⟩) hg).trans hc0
      have HS := hidD (HT.out k hlt)
      have HLK := hidD (HL.out k hk)
      obtain ⟨y, HY⟩ : ∃ y, Hid (l.getD k 0 = y) := ⟨_, rfl⟩
      rw [HY.out] at hc HS
      obtain ⟨hh1, hh2, _⟩ := halves y
      have hx := y.toNat_lt
      have HO1 := hidD (HOD.out (y / 16) (by simpa [UInt8.lt_iff_toNat_lt] using hh1))
      have HO2 := hidD (HOD.out (y % 16) (by simpa [UInt8.lt_iff_toNat_lt] using hh2))
      rw [UInt8.toNat_div] at HO1
      rw [UInt8.toNat_mod] at HO2
      have e1 : ((y.toNat / (16 : UInt8).toNat : Nat) : Int) = (y.toNat : Int) / 16 := by show ((y.toNat / 16 : Nat) : Int) = _; omega
      have e2 : ((y.toNat % (16 : UInt8).toNat : Nat) : Int) = (y.toNat : Int) % 16 := by show ((y.toNat % 16 : Nat) : Int) = _; omega
      rw [e1] at HO1
      rw [e2] at HO2
      clear e1 e2 hc0 hh1 hh2 H4 HOD
      have HW1 := hidD (fun wr h hl hB => HWS.out (hexS (l.take k)) [dgS (y / 16)] wr h hl hB)
      have HW2 := hidD (fun wr h hl hB => HWS.out (hexS (l.take k) ++ [dgS (y / 16)]) [dgS (y % 16)] wr h hl hB)
      have HLL : Hid ((hexS (l.take k) ++ [dgS (y / 16)]).length = 2 * k + 1) := by show _ = _; rw [List.length_append, HLK.out]; rfl
      have HL1 := hidD (show ([dgS (y / 16)] : List UInt8).length = 1 from rfl)
      have HL2 := hidD (show ([dgS (y % 16)] : List UInt8).length = 1 from rfl)
      clear HWS HST
      generalize y.toNat = yn at *
      generalize [dgS (y / 16)] = d1 at *
      generalize [dgS (y % 16)] = d2 at *
      have HK3 : Hid (∀ i : Nat, i ≤ k → 2 * i + 3 ≤ 140737488355328) := fun i hi => by omega
      go_wp2_with fail
      go_at_call 114
      refine (HO1.out _).mono ?_
      rintro e w1 ⟨rfl, hw1⟩
      subst w1
      go_wp2_with fail
      go_at_call 47
      refine (HW1.out wr HBD.out (by have := HLK.out; have := HL1.out; have := HK3.out k (Nat.le_refl _); omega) HBW.out.size).mono ?_
      rintro e w1 ⟨rfl, hbd1, hb1⟩
      have HBD1 := hidD hbd1
      have HB1 := hidD hb1
      clear hbd1 hb1 HO1 HW1
      go_wp2_with fail
      go_at_call 114
      refine (HO2.out _).mono ?_
      rintro e w2 ⟨rfl, hw2⟩
      subst w2
      go_wp2_with fail
      go_at_call 47
      refine (HW2.out w1 (.inr HBD1.out) (by have := HLL.out; have := HL2.out; have := HK3.out k (Nat.le_refl _); omega) (Nat.le_trans HBW.out.size HB1.out.size)).mono ?_
      rintro e w2 ⟨rfl, hbd2, hb2⟩
      have HBD2 := hidD hbd2
      have HB2 := hidD hb2
      clear hbd2 hb2
      go_wp2_with fail
      go_roundw
      case rel => exact ⟨k + 1, by omega, by go_num, by rw [HS.out]; exact .inr HBD2.out, (HBW.out.trans HB1.out).trans HB2.out⟩
      case measure => simp [intOf]; omega
    · obtain rfl : k = N := by omega
      rw [HE.out] at HBD
      have hlt' : ¬ (k : Int) < k := by omega
      clear HWS HOD
      go_wp2_with fail
      go_at_call 48
      refine (HST.out _ wr HBD.out HBW.out.size).mono ?_
      rintro e w1 ⟨rfl, hb1⟩
      go_wp2_with fail
      go_ret
      exact ⟨rfl, HBW.out.trans hb1⟩
end Go.Proofs.YtpemajghaceegaaGreatDoor
