/- What digitsOf of the program answers. -/
import Derived.Test.YtmmlmpcalhfigaaShow
namespace Go.Proofs.Ytmmlmpcalhfigaa
open Go.RowKit
set_option linter.unusedVariables false

def roomC (acc : List UInt8) : Array Value := (List.replicate (64 - acc.length) (Value.int .u8 0) ++ acc.map (fun b => Value.int .u8 b.toNat)).toArray
theorem room_size (acc : List UInt8) (h : acc.length ≤ 64) : (roomC acc).size = 64 := by unfold roomC; simp; omega
theorem room_at (acc : List UInt8) (m : Nat) (h : acc.length + m = 63) : (roomC acc)[m]? = some (.int .u8 0) := by
  unfold roomC
  rw [List.getElem?_toArray, List.getElem?_append_left (by simp; omega), List.getElem?_replicate, if_pos (by omega)]
theorem room_set (acc : List UInt8) (c : UInt8) (m : Nat) (h : acc.length + m = 63) : (roomC acc).setIfInBounds m (.int .u8 (c.toNat : Int)) = roomC (c :: acc) := by
  unfold roomC
  apply Array.toList_inj.1
  rw [Array.toList_setIfInBounds]
  simp only [List.length_cons, List.map_cons]
  obtain rfl : m = 64 - (acc.length + 1) := by omega
  rw [show 64 - acc.length = 64 - (acc.length + 1) + 1 by omega, List.replicate_succ', List.append_assoc, List.set_append_right _ _ (by simp)]
  simp
theorem room_read (acc : List UInt8) (j : Nat) (hj : j < acc.length) (h : acc.length ≤ 64) : (roomC acc)[64 - acc.length + j]? = some (.int .u8 (acc[j].toNat : Int)) := by
  unfold roomC
  rw [List.getElem?_toArray, List.getElem?_append_right (by simp)]
  simp [hj]

set_option maxRecDepth 100000 in
set_option maxHeartbeats 400000 in
theorem digitsOf_any (v K : Nat) (hv : v ≤ 18446744073709551615) (hK2 : 2 ≤ K) (hK : K ≤ 16) (w : World) : Calls Try.prog 38 #[.int .u64 v, .int .u64 K] w fun e w' => e = .returned (.string ⟨(digS K 65 v []).toArray⟩) ∧ Below w.heap.size w w' := by
  generalize hDD : digS K 65 v [] = DD
  have HDD := hidD hDD
  clear hDD
  have hKi : ¬ ((K : Int) = 0) := by omega
  go_enter Try.func38, Try.ntmps38
  go_wp2_with fail
  go_loopw [0, 6] (fun vv bb wr => ∃ (V m : Nat) (acc : List UInt8), vv = .int .u64 V ∧ bb = .int .i64 (m + 1 : Nat) ∧ acc.length + m = 63 ∧ V * 2 ^ acc.length ≤ 18446744073709551615 ∧ V ≤ 18446744073709551615 ∧ (0 < V ∨ acc = []) ∧ digS K 65 v [] = digS K (65 - acc.length) V acc ∧ wr = w.alloc (.cells (roomC acc) (70 : TypeId))) (fun vv _ _ => (intOf vv).toNat)
  case atStart => exact ⟨v, 63, [], rfl, rfl, rfl, by simpa using hv, hv, .inr rfl, rfl, rfl⟩
  case round =>
    obtain ⟨V, m, acc, rfl, rfl, hm, hV, hVm, hp, hd, rfl⟩ := hrel
    have HV := hidD hV
    have hlen : acc.length ≤ 63 := by omega
    have HN := hidD (dig_next (by omega) hd hp)
    have hca : (w.alloc (.cells (roomC acc) (70 : TypeId))).cell? ⟨w.heap.size, m, none⟩ = some (.int .u8 0) := by
      rw [World.cell?_alloc_new]; exact room_at acc m hm
    have hst : (w.alloc (.cells (roomC acc) (70 : TypeId))).setCell ⟨w.heap.size, m, none⟩ (.int .u8 ((hexC (V % K)).toNat : Int)) = w.alloc (.cells (roomC (hexC (V % K) :: acc)) (70 : TypeId)) := by
      rw [← room_set acc _ m hm]
      exact World.setCell_alloc_new _ _ _ _
    have hm63 : m ≤ 63 := by omega
    have hmlt : V % K < 16 := Nat.lt_of_lt_of_le (Nat.mod_lt _ (by omega)) hK
    have HM := hidD hm
    clear hV hd hm
    have hbyte : ∀ h, (({ data := #[48, 49, 50, 51, 52, 53, 54, 55, 56, 57, 65, 66, 67, 68, 69, 70] } : ByteArray)[V % K]'h) = hexC (V % K) := fun h => by
      have h1 : ∀ d : Fin 16, (({ data := #[48, 49, 50, 51, 52, 53, 54, 55, 56, 57, 65, 66, 67, 68, 69, 70] } : ByteArray)[d.val]'(by exact d.isLt)) = hexC d.val := by decide
      exact h1 ⟨V % K, hmlt⟩
    have hqV : V / K ≤ V := Nat.div_le_self _ _
    have hdi : (V : Int) / (K : Int) = ((V / K : Nat) : Int) := (Int.natCast_ediv V K).symm
    have hrm : V / K * 2 ^ (acc.length + 1) ≤ 18446744073709551615 := dig_room hK2 HV.out
    have hlt : 0 < V → V / K < V := fun h => Nat.div_lt_self h (by omega)
    obtain ⟨q, hq⟩ : ∃ q, q = V / K := ⟨_, rfl⟩
    rw [← hq] at hqV hdi hrm hlt HN
    have HDV := hidD hq
    clear hq
    have hwr : IntKind.u64.wrap ((V : Int) / (K : Int)) = (q : Int) := by
      rw [hdi, IntKind.wrap_u64]
      omega
    clear hdi
    have HRM := hidD hrm
    have HLT := hidD hlt
    clear hrm hlt
    have HC : Hid (∀ j (hj : j < (hexC (V % K) :: acc).length), (w.alloc (.cells (roomC (hexC (V % K) :: acc)) (70 : TypeId))).cell? ⟨w.heap.size, m + j, none⟩ = some (.int .u8 (((hexC (V % K) :: acc)[j]).toNat : Int))) := fun j hj => by
      have := HM.out
      rw [World.cell?_alloc_new, ← room_read (hexC (V % K) :: acc) j hj (by simp; omega)]
      congr 1
      simp only [List.length_cons]
      omega
    generalize hexC (V % K) = c at *
    by_cases hz : q = 0
    · subst hz
      have hfin : Hid (c :: acc = DD) := by
        show _ = DD
        rw [← HDD.out, HN.out, digS_stop (by simp)]
      have hsl : ∀ W, (Instr.sliceAt (70 : TypeId) (.pointer (some ⟨w.heap.size, 0, none⟩)) (some (.int .i64 (m : Int))) none none).run Try.prog W = .ok (.slice (some ⟨w.heap.size, m, none⟩) (c :: acc).length (c :: acc).length) W := fun W => by
        have hal : Try.prog.arrayLen (70 : TypeId) = 64 := by simp [Program.arrayLen, Try.underlying70]
        have := HM.out
        rw [run_sliceAt_array_l W (70 : TypeId) ⟨w.heap.size, 0, none⟩ (by simp [Program.arrayLen, Program.elem, Try.underlying70]) .i64 (m : Int) (by omega) (by rw [hal]; omega)]
        go_simp
        omega
      have hcv : (convert (62 : TypeId) (9 : TypeId) (.slice (some ⟨w.heap.size, m, none⟩) (c :: acc).length (c :: acc).length)).run Try.prog (w.alloc (.cells (roomC (c :: acc)) (70 : TypeId))) = .ok (.string ⟨(c :: acc).toArray⟩) (w.alloc (.cells (roomC (c :: acc)) (70 : TypeId))) := by
        refine run_convert_bytes_back _ (62 : TypeId) (9 : TypeId) (5 : TypeId) ⟨w.heap.size, m, none⟩ (c :: acc).length (c :: acc) Try.underlying62 Try.underlying5 Try.underlying9 (fun j hj => ?_)
        rw [Go.WideShapes.add_plain]
        exact HC.out j hj
      rw [hfin.out] at hcv hst hsl
      have HB : Hid (Below w.heap.size w (w.alloc (.cells (roomC DD) (70 : TypeId)))) := (Below.refl _ _).alloc (Nat.le_refl _) _
      clear HV HN HC
      generalize roomC DD = C2 at *
      generalize roomC acc = C at *
      generalize DD.length = dl at *
      go_wp2_with fail
      go_ret
      exact ⟨rfl, HB.out⟩
    · have hzi : ¬ ((q : Int) = 0) := by omega
      have hzb : ((q : Int) == 0) = false := by simpa using hz
      have hq0 : 0 < q := by omega
      have HL := hidD (dig_len hq0 HRM.out)
      have HM1 := HM.out
      have HL1 := HL.out
      obtain ⟨m', rfl⟩ : ∃ m', m = m' + 1 := ⟨m - 1, by omega⟩
      clear HM1 HL1 HC
      generalize hC2 : roomC (c :: acc) = C2 at *
      have HC2 := hidD hC2
      clear hC2
      generalize roomC acc = C at *
      go_wp2_with fail
      refine ⟨⟨q, m', c :: acc, rfl, rfl, by have := HM.out; simp only [List.length_cons]; omega, HRM.out, by omega, .inl hq0, HN.out, ?_⟩, ?_⟩
      · rw [HC2.out]
      · show q < V
        exact HLT.out (by omega)
end Go.Proofs.Ytmmlmpcalhfigaa
