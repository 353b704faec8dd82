/- Texts of one proof, one behind the other. -/
import Derived.Test.YtgmbkelmgolkpaaDoorGn
/- What isName answers. -/
namespace Go.Proofs.YtgmbkelmgolkpaaDoor
open Go.RowKit
set_option linter.unusedVariables false

theorem all_ok {l : Tx} (h : ∀ j, j < l.length → okC (l.getD j 0) = true) : l.all okC = true := by
  rw [List.all_eq_true]
  intro x hx
  obtain ⟨j, hj, rfl⟩ := List.mem_iff_getElem.1 hx
  have := h j hj
  simpa [List.getD, List.getElem?_eq_getElem hj] using this
theorem all_no {l : Tx} {k : Nat} (hk : k < l.length) (h : okC (l.getD k 0) = false) : l.all okC = false := by
  cases ha : l.all okC with
  | false => rfl
  | true =>
    rw [List.all_eq_true] at ha
    have := ha l[k] (List.getElem_mem hk)
    simp [List.getD, List.getElem?_eq_getElem hk, this] at h
theorem ret_bool {a b : Bool} (h : a = b) : Ending.returned (.bool a) = .returned (.bool b) := by rw [h]
set_option maxRecDepth 100000 in
set_option maxHeartbeats 1600000 in
theorem isName_any (l : Tx) (w : World) (hl : l.length ≤ maxLen) : Calls Tryd.prog 88 #[encT l] w fun e w' => e = .returned (.bool (nmS l)) ∧ w' = w := by
  unfold maxLen at hl
  unfold encT
  have HSZ := hidD (ba_size l)
  have HBG := hidD (fun k h => ba_get l k h)
  have HBE : Hid (∀ m : Tx, ((bA l).toList = m) ↔ l = m) := fun m => by rw [ba_list]
  have hl2 : (bA l).size ≤ 9223372036854775807 := by rw [HSZ.out]; omega
  generalize (bA l) = b at *
  by_cases h1 : (b.size : Int) < 1
  · have HF : Hid (nmS l = false) := by have := HSZ.out; show _ = _; unfold nmS; rw [decide_eq_false (p := 1 ≤ l.length) (by omega)]; rfl
    clear hl
    go_enter Tryd.func88, Tryd.ntmps88
    go_wp2
    go_ret
    exact ⟨ret_bool HF.out.symm, rfl⟩
  by_cases h2 : (32 : Int) < b.size
  · have HF : Hid (nmS l = false) := by have := HSZ.out; show _ = _; unfold nmS; rw [decide_eq_false (p := l.length ≤ 32) (by omega), Bool.and_false]; rfl
    clear hl
    go_enter Tryd.func88, Tryd.ntmps88
    go_wp2
    go_ret
    exact ⟨ret_bool HF.out.symm, rfl⟩
  have HN : Hid (nmS l = (l.all okC && !(l == tEnd) && !(l == tArr) && !(l == tOr))) := by have := HSZ.out; show _ = _; unfold nmS; rw [decide_eq_true (by omega), decide_eq_true (by omega)]; rfl
  clear hl
  go_enter Tryd.func88, Tryd.ntmps88
  go_wp2
  go_loop [14] (fun i => ∃ k : Nat, k ≤ b.size ∧ i = .int .i64 k ∧ ∀ j, j < k → okC (l.getD j 0) = true) (fun i => b.size - (intOf i).toNat)
  case atStart => exact ⟨0, Nat.zero_le _, rfl, fun j hj => by omega⟩
  case round =>
    obtain ⟨k, hk, rfl, hall⟩ := hrel
    have HA := hidD hall
    clear hall
    by_cases hlt : k < b.size
    · have hlti : (k : Int) < b.size := by omega
      have HG := hidD (HBG.out k hlt)
      have HLT : Hid (k < l.length) := by have := HSZ.out; show _ < _; omega
      by_cases c1 : ((b[k]).toNat : Int) ≤ 32
      · have HF : Hid (nmS l = false) := by
          show _ = _
          rw [HN.out, all_no HLT.out]
          · rfl
          · rw [HG.out] at c1; unfold okC; rw [decide_eq_false (by omega)]; rfl
        go_wp2
        go_ret
        exact ⟨ret_bool HF.out.symm, rfl⟩
      · by_cases c2 : (127 : Int) ≤ ((b[k]).toNat : Int)
        · have HF : Hid (nmS l = false) := by
            show _ = _
            rw [HN.out, all_no HLT.out]
            · rfl
            · rw [HG.out] at c2; unfold okC; rw [decide_eq_false (p := (l.getD k 0).toNat < 127) (by omega), Bool.and_false]
          go_wp2
          go_ret
          exact ⟨ret_bool HF.out.symm, rfl⟩
        · have HO : Hid (okC (l.getD k 0) = true) := by
            show _ = _
            rw [HG.out] at c1 c2; unfold okC; rw [decide_eq_true (by omega), decide_eq_true (by omega)]; rfl
          go_wp2
          go_round
          case rel => exact ⟨k + 1, by omega, by go_num, fun j hj => by
            by_cases h : j = k
            · rw [h]; exact HO.out
            · exact HA.out j (by omega)⟩
          case measure => simp [intOf]; omega
    · have HAL : Hid (l.all okC = true) := all_ok fun j hj => HA.out j (by have := HSZ.out; omega)
      obtain rfl : k = b.size := by omega
      have HI : Hid (∀ m : Tx, b.toList = m ↔ l = m) := HBE.out
      by_cases e1 : b.toList = [36]
      · have HF : Hid (nmS l = false) := by show _ = _; rw [HN.out, (HI.out _).1 e1]; rfl
        go_wp2
        go_ret
        exact ⟨ret_bool HF.out.symm, rfl⟩
      · by_cases e2 : b.toList = [45, 62]
        · have HF : Hid (nmS l = false) := by show _ = _; rw [HN.out, (HI.out _).1 e2]; rfl
          go_wp2
          go_ret
          exact ⟨ret_bool HF.out.symm, rfl⟩
        · by_cases e3 : b.toList = [124]
          · have HF : Hid (nmS l = false) := by show _ = _; rw [HN.out, (HI.out _).1 e3]; rfl
            go_wp2
            go_ret
            exact ⟨ret_bool HF.out.symm, rfl⟩
          · have HF : Hid (nmS l = true) := by
              show _ = _
              rw [HN.out, HAL.out, beq_eq_false_iff_ne.2 (show l ≠ tEnd from fun h => e1 ((HI.out _).2 h)), beq_eq_false_iff_ne.2 (show l ≠ tArr from fun h => e2 ((HI.out _).2 h)), beq_eq_false_iff_ne.2 (show l ≠ tOr from fun h => e3 ((HI.out _).2 h))]; rfl
            go_wp2
            go_ret
            exact ⟨ret_bool (by rw [HF.out, beq_eq_false_iff_ne.2 e1, beq_eq_false_iff_ne.2 e2, beq_eq_false_iff_ne.2 e3]; rfl), rfl⟩
end Go.Proofs.YtgmbkelmgolkpaaDoor
/- What isLine answers. -/
namespace Go.Proofs.YtgmbkelmgolkpaaDoor
open Go.RowKit
set_option linter.unusedVariables false

theorem getD_drop (ss : List Tx) (i k : Nat) : (ss.drop i).getD k [] = ss.getD (i + k) [] := by
  rw [List.getD_eq_getElem?_getD, List.getD_eq_getElem?_getD, List.getElem?_drop]
theorem all_txt {ss : List Tx} {f : Tx → Bool} (h : ∀ q, q < ss.length → f (ss.getD q []) = true) : ss.all f = true := by
  rw [List.all_eq_true]
  intro x hx
  obtain ⟨q, hq, he⟩ := List.mem_iff_getElem.1 hx
  have := h q hq
  rwa [List.getD_eq_getElem?_getD, List.getElem?_eq_getElem hq, Option.getD_some, he] at this
theorem all_txt_no {ss : List Tx} {f : Tx → Bool} {q : Nat} (hq : q < ss.length) (h : f (ss.getD q []) = false) : ss.all f = false := by
  cases ha : ss.all f with
  | false => rfl
  | true =>
    rw [List.all_eq_true] at ha
    have := ha (ss.getD q []) (by rw [List.getD_eq_getElem?_getD, List.getElem?_eq_getElem hq]; exact List.getElem_mem hq)
    rw [h] at this; cases this
theorem Tryd.info9 : (Tryd.prog.info? 9).map (fun i => (i.zero, i.size, i.bytes)) = some (some (.string ByteArray.empty), 1, 16) := by kernel_rfl
theorem sliceL48 (a : Option Addr) (len cap C : Nat) (hC : C ≤ len) (w : World) : (Instr.sliceAt 35 (.slice a len cap) (some (.int .i64 (C : Int))) none none).run Tryd.prog w = .ok (.slice (if cap = C then a else a.map (·.add C)) (len - C) (cap - C)) w := by
  have hu : Tryd.prog.underlying 35 = some (.slice (Tryd.prog.elem 35)) := by kernel_rfl
  have he : Tryd.prog.elem 35 = 9 := by kernel_rfl
  obtain ⟨i0, hin, _, hz1, _⟩ := info_parts Tryd.info9
  rw [run_sliceAt_slice w 35 _ _ _ _ hu, run_slice_l w 35 a len cap hu .i64 (C : Int) (by omega) (by omega), he, run_sizeOf w hin, Result.andThen_ok]
  simp only [sliced, Int.toNat_natCast]
  rw [show Tryd.prog.cellsOf 9 = 1 by kernel_rfl, Nat.mul_one]
/-- Texts but the first ones. -/
theorem slice_from {w0 : World} {B : Nat} {a : Option Addr} {cap : Nat} {L : List Tx} {n : Nat} (hb : SrAt w0 B (.slice a n cap) L) (C : Nat) (hC : C ≤ n) : ∃ a2 c2, (∀ w, (Instr.sliceAt 35 (.slice a n cap) (some (.int .i64 (C : Int))) none none).run Tryd.prog w = .ok (.slice a2 (n - C) c2) w) ∧ SrAt w0 B (.slice a2 (n - C) c2) (L.drop C) := by
  obtain ⟨a', cap', e, h1, h2, h3⟩ := hb
  cases e
  refine ⟨if cap = C then a else a.map (·.add C), cap - C, fun w => sliceL48 a _ cap C hC w, if cap = C then a else a.map (·.add C), cap - C, by rw [List.length_drop], by rw [List.length_drop]; omega, ⟨by have := h2.1; omega, fun hn => ?_⟩, fun k hk => ?_⟩
  · have : a = none := by
      by_cases hcC : cap = C
      · rwa [if_pos hcC] at hn
      · rw [if_neg hcC] at hn
        cases a with
        | none => rfl
        | some x => cases hn
    have := h2.2 this
    omega
  rw [List.length_drop] at hk
  obtain ⟨g, o, cs, e1, e2, e3, e4⟩ := h3 (C + k) (by omega)
  refine ⟨g, o + C, cs, ?_, e2, e3, ?_⟩
  · rw [if_neg (by omega), e1]; show some ((⟨g, o, none⟩ : Addr).add C) = _; rw [Addr.add_lit]
  · rw [getD_drop, ← e4, Nat.add_assoc]
set_option maxRecDepth 100000 in
set_option maxHeartbeats 1600000 in
theorem isLine_any (ws : List Tx) (hok : TxOk ws) (hwl : ws.length ≤ 4294967296) (B : Nat) (v : Value) (w : World) (h : SrAt w B v ws) : Calls Tryd.prog 40 #[v] w fun e w' => e = .returned (.bool (lnS ws)) ∧ w' = w := by
  have HSR := hidD h
  obtain ⟨a, cap, rfl, hc1, ⟨hc2, _⟩, _⟩ := h
  have HOK := hidD hok
  have HNM := hidD (fun x (hx : x.length ≤ maxLen) => isName_any x w hx)
  have HLN : Hid (lnS ws = (decide (2 ≤ ws.length) && nmS (ws.getD 0 []) && (ws.getD 1 [] == tArr) && (ws.drop 2).all (fun x => x == tOr || nmS x))) := rfl
  have HDL : Hid ((ws.drop 2).length = ws.length - 2) := List.length_drop
  unfold encT at HNM
  clear hok
  by_cases h2 : 2 ≤ ws.length
  · obtain ⟨g, o, rfl, hg, _, f0⟩ := HSR.out.cell (k := 0) (by omega)
    obtain ⟨g', o', he, hg', _, f1⟩ := HSR.out.cell (k := 1) (by omega)
    cases he
    have HN0 := hidD (HNM.out (ws.getD 0 []) (HOK.out.get (by omega)))
    have HCL : Hid (∀ k, k < ws.length - 2 → w.cell? ⟨g, o + (2 + k), none⟩ = some (encT (ws.getD (2 + k) []))) := fun k hk => by
      obtain ⟨g', o', he, _, _, e⟩ := HSR.out.cell (k := 2 + k) (by omega)
      cases he; exact e
    rw [decide_eq_true h2, Bool.true_and] at HLN
    unfold encT at f0 f1 HCL
    have h2i : ¬ ((ws.length : Int) < 2) := by omega
    have h2d : decide ((ws.length : Int) < 2) = false := decide_eq_false h2i
    have h2e : decide (ws.length < 2) = false := decide_eq_false (by omega)
    rw [Nat.add_zero] at f0
    have hA := ba_list (ws.getD 1 [])
    have HAR : Hid ((bA (ws.getD 1 [])).toList = [45, 62] ↔ ws.getD 1 [] = tArr) := by show _ ↔ _; rw [hA]; rfl
    clear hA
    generalize ws.getD 0 [] = x0 at *
    generalize ws.getD 1 [] = x1 at *
    by_cases c1 : nmS x0 = true
    · rw [c1] at HN0 HLN
      by_cases c2 : (bA x1).toList = [45, 62]
      · have c3 := HAR.out.1 c2
        rw [c3, Bool.true_and, beq_self_eq_true, Bool.true_and] at HLN
        clear c3 c1 h2
        obtain ⟨a2, cp2, hsl, hsr⟩ := slice_from HSR.out 2 (by omega)
        have hsl : ∀ w, (Instr.sliceAt 35 (.slice (some ⟨g, o, none⟩) ws.length cap) (some (.int .i64 2)) none none).run Tryd.prog w = .ok (.slice a2 (ws.length - 2) cp2) w := hsl
        have HS2 := hidD hsr
        have HO2 : Hid (TxOk (ws.drop 2)) := fun x hx => HOK.out x (List.mem_of_mem_drop hx)
        have c2d : ((bA x1).toList == [45, 62]) = true := beq_iff_eq.2 c2
        have HDL : Hid (ws.length - 2 = (ws.drop 2).length) := List.length_drop.symm
        clear hsr
        generalize ws.drop 2 = L at *
        generalize hm : ws.length - 2 = m at *
        have hmb : m ≤ 4294967296 := by omega
        clear hm
        generalize ws.length = n at *
        go_enter Tryd.func40, Tryd.ntmps40
        go_wp2_with (go_at_call 88; refine HN0.out.mono ?_; rintro e w2 ⟨rfl, hw⟩; subst w2)
        go_loop [24] (fun i => ∃ k : Nat, k ≤ m ∧ i = .int .i64 k ∧ ∀ j, j < k → (L.getD j [] == tOr || nmS (L.getD j [])) = true) (fun i => m - (intOf i).toNat)
        case atStart => exact ⟨0, Nat.zero_le _, rfl, fun j hj => by omega⟩
        case round =>
          obtain ⟨k, hk, rfl, hall⟩ := hrel
          have HA := hidD hall
          clear hall
          by_cases hlt : k < m
          · have hlti : (k : Int) < m := by omega
            obtain ⟨g2, o2, rfl, hg2, _, fk⟩ := HS2.out.cell (k := k) (by have := HDL.out; omega)
            unfold encT at fk
            have HNK := hidD (HNM.out (L.getD k []) (HO2.out.get (by have := HDL.out; omega)))
            have hA := ba_list (L.getD k [])
            have HOR : Hid ((bA (L.getD k [])).toList = [124] ↔ L.getD k [] = tOr) := by show _ ↔ _; rw [hA]; rfl
            have HKL : Hid (k < L.length) := by have := HDL.out; show _ < _; omega
            clear hA
            have HXK : Hid (∀ x, L.getD k [] = x → (x == tOr || nmS x) = true → ∀ j, j < k + 1 → (L.getD j [] == tOr || nmS (L.getD j [])) = true) := fun x hx h j hj => by
              by_cases hjk : j = k
              · rw [hjk, hx]; exact h
              · exact HA.out j (by omega)
            have HNO : Hid (∀ x, L.getD k [] = x → (x == tOr || nmS x) = false → L.all (fun x => x == tOr || nmS x) = false) := fun x hx h => all_txt_no HKL.out (by rw [hx]; exact h)
            generalize hx : L.getD k [] = x at *
            have HX := hidD hx
            clear hx
            by_cases e1 : (bA x).toList = [124]
            · have HT : Hid ((x == tOr || nmS x) = true) := by show _ = _; rw [HOR.out.1 e1]; rfl
              have e1d : ((bA x).toList == [124]) = true := beq_iff_eq.2 e1
              go_wp2_with (go_at_call 88; refine HNK.out.mono ?_; rintro e w2 ⟨rfl, hw⟩; subst w2)
              go_round
              case rel => exact ⟨k + 1, by omega, by go_num, HXK.out x rfl HT.out⟩
              case measure => simp [intOf]; omega
            · have e1d : ((bA x).toList == [124]) = false := beq_eq_false_iff_ne.2 e1
              have HXO : Hid ((x == tOr) = false) := beq_eq_false_iff_ne.2 fun h => e1 (HOR.out.2 h)
              cases hn : nmS x with
              | true =>
                have HT : Hid ((x == tOr || nmS x) = true) := by show _ = _; rw [hn, Bool.or_true]
                rw [hn] at HNK
                clear hn
                go_wp2_with (go_at_call 88; refine HNK.out.mono ?_; rintro e w2 ⟨rfl, hw⟩; subst w2)
                go_round
                case rel => exact ⟨k + 1, by omega, by go_num, HXK.out x rfl HT.out⟩
                case measure => simp [intOf]; omega
              | false =>
                have HF : Hid (L.all (fun x => x == tOr || nmS x) = false) := HNO.out x rfl (by rw [HXO.out, hn]; rfl)
                rw [hn] at HNK
                clear hn
                go_wp2_with (go_at_call 88; refine HNK.out.mono ?_; rintro e w2 ⟨rfl, hw⟩; subst w2)
                go_ret
                exact ⟨ret_bool (by rw [HLN.out, HF.out]), rfl⟩
          · obtain rfl : m = k := by omega
            have HT : Hid (L.all (fun x => x == tOr || nmS x) = true) := all_txt (f := fun x => x == tOr || nmS x) fun q hq => HA.out q (by have := HDL.out; omega)
            go_wp2
            go_ret
            exact ⟨ret_bool (by rw [HLN.out, HT.out]), rfl⟩
      · have c3 : (x1 == tArr) = false := beq_eq_false_iff_ne.2 fun h => c2 (HAR.out.2 h)
        rw [c3] at HLN
        clear c3 c1
        have c2d : ((bA x1).toList == [45, 62]) = false := beq_eq_false_iff_ne.2 c2
        generalize ws.length = n at *
        go_enter Tryd.func40, Tryd.ntmps40
        go_wp2_with (go_at_call 88; refine HN0.out.mono ?_; rintro e w2 ⟨rfl, hw⟩; subst w2)
        go_ret
        exact ⟨ret_bool (by rw [HLN.out]; simp), rfl⟩
    · rw [Bool.not_eq_true] at c1
      rw [c1] at HN0 HLN
      clear c1
      generalize ws.length = n at *
      go_enter Tryd.func40, Tryd.ntmps40
      go_wp2_with (go_at_call 88; refine HN0.out.mono ?_; rintro e w2 ⟨rfl, hw⟩; subst w2)
      go_ret
      exact ⟨ret_bool (by rw [HLN.out]; rfl), rfl⟩
  · rw [decide_eq_false h2] at HLN
    generalize ws.length = n at *
    go_enter Tryd.func40, Tryd.ntmps40
    go_wp2
    go_ret
    exact ⟨ret_bool (by rw [HLN.out]; rfl), rfl⟩
end Go.Proofs.YtgmbkelmgolkpaaDoor
