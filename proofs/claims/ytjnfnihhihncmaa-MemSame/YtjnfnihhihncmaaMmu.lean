/- Same: two memories are compared. -/
import Derived.Test.YtjnfnihhihncmaaMms
import Derived.Laws.StructEq
namespace Go.Proofs.Ytjnfnihhihncmaa
open Go.RowKit
set_option linter.unusedVariables false

theorem Try.fields58 : (Try.prog.fieldsOf 58).toList.map (fun f => (f.name, f.type, f.offset)) = [("Data", 42, 0), ("Check", 5, 1)] := by kernel_rfl
theorem Try.fields35 : (Try.prog.fieldsOf 35).toList.map (fun f => (f.name, f.type, f.offset)) = [("From", 3, 0), ("To", 3, 1), ("Kind", 3, 2)] := by kernel_rfl
set_option maxRecDepth 100000 in
theorem neq_wd (D C D' C' : Int) (w : World) : (binOp .neq 58 (.agg #[.int .u64 D, .int .u8 C]) (.agg #[.int .u64 D', .int .u8 C'])).run Try.prog w = .ok (.bool (!(D == D' && C == C'))) w := by
  rw [run_neq_struct, run_equalIn_agg w 9999 58 _ _ (by kernel_rfl) (by kernel_rfl)]
  have h := Try.fields58
  generalize (Try.prog.fieldsOf 58).toList = fs at *
  have hl : fs.length = 2 := by have := congrArg List.length h; simpa using this
  match fs, hl, h with
  | [f0, f1], _, h =>
    simp only [List.map_cons, List.map_nil, List.cons.injEq, Prod.mk.injEq, and_true] at h
    obtain ⟨⟨a0, a1, a2⟩, ⟨b0, b1, b2⟩⟩ := h
    simp only [Op.eqFields, a0, a1, a2, b0, b1, b2]
    have e0 := fun w => run_equalIn_int (P := Try.prog) w 9998 42 .u64 .u64 D D' Try.underlying42
    have e1 := fun w => run_equalIn_int (P := Try.prog) w 9998 5 .u8 .u8 C C' Try.underlying5
    by_cases h0 : D = D' <;> by_cases h1 : C = C' <;> simp [go_sem, e0, e1, h0, h1, Try.isAgg42, Try.isAgg5, Try.sizeOf42, Try.sizeOf5]
set_option maxRecDepth 100000 in
theorem neq_rg (a b c a' b' c' : Int) (w : World) : (binOp .neq 35 (.agg #[.int .i64 a, .int .i64 b, .int .i64 c]) (.agg #[.int .i64 a', .int .i64 b', .int .i64 c'])).run Try.prog w = .ok (.bool (!(a == a' && b == b' && c == c'))) w := by
  rw [run_neq_struct, run_equalIn_agg w 9999 35 _ _ (by kernel_rfl) (by kernel_rfl)]
  have h := Try.fields35
  generalize (Try.prog.fieldsOf 35).toList = fs at *
  have hl : fs.length = 3 := by have := congrArg List.length h; simpa using this
  match fs, hl, h with
  | [f0, f1, f2], _, h =>
    simp only [List.map_cons, List.map_nil, List.cons.injEq, Prod.mk.injEq, and_true] at h
    obtain ⟨⟨a0, a1, a2⟩, ⟨b0, b1, b2⟩, ⟨c0, c1, c2⟩⟩ := h
    simp only [Op.eqFields, a0, a1, a2, b0, b1, b2, c0, c1, c2]
    have e0 := fun w => run_equalIn_int (P := Try.prog) w 9998 3 .i64 .i64 a a' Try.underlying3
    have e1 := fun w => run_equalIn_int (P := Try.prog) w 9998 3 .i64 .i64 b b' Try.underlying3
    have e2 := fun w => run_equalIn_int (P := Try.prog) w 9998 3 .i64 .i64 c c' Try.underlying3
    by_cases h0 : a = a' <;> by_cases h1 : b = b' <;> by_cases h2 : c = c' <;> simp [go_sem, e0, e1, e2, h0, h1, h2, Try.isAgg3, Try.sizeOf3]
set_option maxRecDepth 100000 in
set_option maxHeartbeats 1600000 in
theorem eqWd_any {w : World} {c c' : Nat} {Z Z' : Nat → Nat × Nat} (h : CeAt w c Z) (h' : CeAt w c' Z') (b : Bool) (hb : b = true ↔ ∀ i, i < 65536 → Z i = Z' i) :
    Calls Try.prog 47 #[.slice (some ⟨c, 0, none⟩) 65536 65536, .slice (some ⟨c', 0, none⟩) 65536 65536] w fun e w' => e = .returned (.bool b) ∧ Below w.heap.size w w' := by
  have HC := hidD h
  have HC2 := hidD h'
  have HB := hidD hb
  have hl1 : c < w.heap.size := by obtain ⟨cs, e, _⟩ := h; exact row_lt e
  have hl2 : c' < w.heap.size := by obtain ⟨cs, e, _⟩ := h'; exact row_lt e
  have HL := hidD (And.intro hl1 hl2)
  clear h h' hb hl1 hl2
  go_enter Try.func47, Try.ntmps47
  go_wp2_with fail
  go_loopw [13] (fun i wr => ∃ n : Nat, n ≤ 65536 ∧ i = .int .i64 n ∧ Below w.heap.size w wr ∧ ∀ j, j < n → Z j = Z' j) (fun i _ => 65536 - (intOf i).toNat)
  case atStart => exact ⟨0, Nat.zero_le _, rfl, Below.refl _ _, fun j hj => absurd hj (by omega)⟩
  case round =>
    obtain ⟨n, hn, rfl, hbel, hall⟩ := hrel
    have HBW := hidD hbel
    have HAL := hidD hall
    clear hbel hall
    by_cases hlt : n < 65536
    · have hlti : (n : Int) < 65536 := by omega
      obtain ⟨⟨k0, k1⟩, -⟩ := HC.out.cell hlt
      obtain ⟨⟨k2, k3⟩, -⟩ := HC2.out.cell hlt
      have e0 := (HBW.out.cell (p := ⟨c, n * 2, none⟩) HL.out.1).trans k0
      have e1 := (HBW.out.cell (p := ⟨c, n * 2 + 1, none⟩) HL.out.1).trans k1
      have e2 := (HBW.out.cell (p := ⟨c', n * 2, none⟩) HL.out.2).trans k2
      have e3 := (HBW.out.cell (p := ⟨c', n * 2 + 1, none⟩) HL.out.2).trans k3
      clear k0 k1 k2 k3
      have HNX : Hid (Z n = Z' n → ∀ j, j < n + 1 → Z j = Z' j) := fun hx j hj => by
        by_cases hjn : j = n
        · subst hjn; exact hx
        · exact HAL.out j (by omega)
      have HNO : Hid (¬ Z n = Z' n → b = false) := fun hx => by
        cases b with
        | false => rfl
        | true => exact absurd (HB.out.1 rfl n hlt) hx
      generalize Z n = z at *
      generalize Z' n = z' at *
      obtain ⟨D, C⟩ := z
      obtain ⟨D', C'⟩ := z'
      have hq := fun w => neq_wd (D : Int) (C : Int) (D' : Int) (C' : Int) w
      by_cases hz : ((D, C) : Nat × Nat) = (D', C')
      · have HX := hidD (HNX.out hz)
        have h1 : D = D' := congrArg Prod.fst hz
        have h2 : C = C' := congrArg Prod.snd hz
        subst h1 h2
        have hq2 : ∀ w, (binOp .neq 58 (.agg #[.int .u64 (D : Int), .int .u8 (C : Int)]) (.agg #[.int .u64 (D : Int), .int .u8 (C : Int)])).run Try.prog w = .ok (.bool false) w := fun w => by rw [hq]; simp
        clear hq hz
        go_wp2_with fail
        go_quiet (fail)
        go_wp2_with fail
        exact ⟨⟨n + 1, by omega, by simp, below_drewN HBW.out _, HX.out⟩, by simp [intOf]; omega⟩
      · have hb0 := HNO.out hz
        subst hb0
        have hq2 : ∀ w, (binOp .neq 58 (.agg #[.int .u64 (D : Int), .int .u8 (C : Int)]) (.agg #[.int .u64 (D' : Int), .int .u8 (C' : Int)])).run Try.prog w = .ok (.bool true) w := fun w => by
          rw [hq]
          have : ((D : Int) == (D' : Int) && (C : Int) == (C' : Int)) = false := by
            rw [Bool.and_eq_false_iff]
            by_cases h1 : D = D'
            · right; rw [beq_eq_false_iff_ne]; intro h2; exact hz (by rw [h1, show C = C' by omega])
            · left; rw [beq_eq_false_iff_ne]; omega
          rw [this]; rfl
        clear hq hz
        go_wp2_with fail
        go_quiet (fail)
        go_wp2_with fail
        go_ret
        exact ⟨rfl, below_drewN HBW.out _⟩
    · have hnn : ¬ (n : Int) < 65536 := by omega
      have hb1 : b = true := HB.out.2 fun i hi => HAL.out i (by omega)
      subst hb1
      go_wp2_with fail
      go_ret
      exact ⟨rfl, HBW.out⟩
/- a slice value that reads as these regions, whatever its room is -/
def RsW (w : World) (v : Value) (L : List Rgn) : Prop :=
  ∃ va rc, v = .slice va L.length rc ∧ ∀ i (h : i < L.length), ∃ g o, va = some ⟨g, o, none⟩ ∧ g < w.heap.size ∧ w.cell? ⟨g, o + i * 3, none⟩ = some (.int .i64 L[i].1) ∧ w.cell? ⟨g, o + (i * 3 + 1), none⟩ = some (.int .i64 L[i].2.1) ∧ w.cell? ⟨g, o + (i * 3 + 2), none⟩ = some (.int .i64 L[i].2.2)
theorem MeAt.rsw {w : World} {k : Mk} {Z : Nat → Nat × Nat} {x y : Int} (h : MeAt w k Z x y) : RsW w (.slice k.va k.R.length k.rc) k.R :=
  ⟨_, _, rfl, fun i hi => by
    obtain ⟨h0, h1, h2, h3⟩ := h.rg.2 i hi
    exact ⟨k.r, 0, h0, h.rg.1, by simpa using h1, by simpa using h2, by simpa using h3⟩⟩
set_option maxRecDepth 100000 in
set_option maxHeartbeats 1600000 in
theorem eqRg_any {w : World} {v v' : Value} {L M : List Rgn} (h : RsW w v L) (h' : RsW w v' M) (hl : L.length ≤ 140737488355328) (b : Bool) (hb : b = true ↔ L = M) :
    Calls Try.prog 46 #[v, v'] w fun e w' => e = .returned (.bool b) ∧ Below w.heap.size w w' := by
  have HB := hidD hb
  obtain ⟨va, rc, rfl, hc⟩ := h
  obtain ⟨va', rc', rfl, hc'⟩ := h'
  have HC := hidD hc
  have HC2 := hidD hc'
  clear hc hc' hb
  by_cases hlen : L.length = M.length
  · have hni : ((L.length : Int) == (M.length : Int)) = true := by simp [hlen]
    have hni2 : (L.length : Int) = (M.length : Int) := by omega
    have HLE := hidD hlen
    rw [← hlen]
    clear hlen hni hni2
    go_enter Try.func46, Try.ntmps46
    go_wp2_with fail
    go_loopw [13] (fun i wr => ∃ n : Nat, n ≤ L.length ∧ i = .int .i64 n ∧ Below w.heap.size w wr ∧ ∀ j (h1 : j < L.length) (h2 : j < M.length), j < n → L[j] = M[j]) (fun i _ => L.length - (intOf i).toNat)
    case atStart => exact ⟨0, Nat.zero_le _, rfl, Below.refl _ _, fun j _ _ hj => absurd hj (by omega)⟩
    case round =>
      obtain ⟨n, hn, rfl, hbel, hall⟩ := hrel
      have HBW := hidD hbel
      have HAL := hidD hall
      clear hbel hall
      by_cases hlt : n < L.length
      · have hlti : (n : Int) < L.length := by omega
        have hlt2 : n < M.length := by have := HLE.out; omega
        obtain ⟨g, o, rfl, hg, k0, k1, k2⟩ := HC.out n hlt
        obtain ⟨g', o', rfl, hg', k3, k4, k5⟩ := HC2.out n hlt2
        have e0 := (HBW.out.cell (p := ⟨g, o + n * 3, none⟩) hg).trans k0
        have e1 := (HBW.out.cell (p := ⟨g, o + (n * 3 + 1), none⟩) hg).trans k1
        have e2 := (HBW.out.cell (p := ⟨g, o + (n * 3 + 2), none⟩) hg).trans k2
        have e3 := (HBW.out.cell (p := ⟨g', o' + n * 3, none⟩) hg').trans k3
        have e4 := (HBW.out.cell (p := ⟨g', o' + (n * 3 + 1), none⟩) hg').trans k4
        have e5 := (HBW.out.cell (p := ⟨g', o' + (n * 3 + 2), none⟩) hg').trans k5
        clear k0 k1 k2 k3 k4 k5
        have HNX : Hid (L[n] = M[n] → ∀ j (h1 : j < L.length) (h2 : j < M.length), j < n + 1 → L[j] = M[j]) := fun hx j h1 h2 hj => by
          by_cases hjn : j = n
          · subst hjn; exact hx
          · exact HAL.out j h1 h2 (by omega)
        have HNO : Hid (¬ L[n] = M[n] → b = false) := fun hx => by
          cases b with
          | false => rfl
          | true => exact absurd (by have := HB.out.1 rfl; subst this; rfl) hx
        generalize L[n] = z at *
        generalize M[n] = z' at *
        obtain ⟨a1, a2, a3⟩ := z
        obtain ⟨b1, b2, b3⟩ := z'
        change wr.cell? ⟨g, o + n * 3, none⟩ = some (.int .i64 a1) at e0
        change wr.cell? ⟨g, o + n * 3 + 1, none⟩ = some (.int .i64 a2) at e1
        change wr.cell? ⟨g, o + n * 3 + 2, none⟩ = some (.int .i64 a3) at e2
        change wr.cell? ⟨g', o' + n * 3, none⟩ = some (.int .i64 b1) at e3
        change wr.cell? ⟨g', o' + n * 3 + 1, none⟩ = some (.int .i64 b2) at e4
        change wr.cell? ⟨g', o' + n * 3 + 2, none⟩ = some (.int .i64 b3) at e5
        have hq := fun w => neq_rg a1 a2 a3 b1 b2 b3 w
        by_cases hz : ((a1, a2, a3) : Rgn) = (b1, b2, b3)
        · have HX := hidD (HNX.out hz)
          have h1 : a1 = b1 := congrArg Prod.fst hz
          have h2 : a2 = b2 := congrArg (fun x => x.2.1) hz
          have h3 : a3 = b3 := congrArg (fun x => x.2.2) hz
          subst h1 h2 h3
          have hq2 : ∀ w, (binOp .neq 35 (.agg #[.int .i64 a1, .int .i64 a2, .int .i64 a3]) (.agg #[.int .i64 a1, .int .i64 a2, .int .i64 a3])).run Try.prog w = .ok (.bool false) w := fun w => by rw [hq]; simp
          clear hq hz
          go_wp2_with fail
          go_quiet (fail)
          go_wp2_with fail
          exact ⟨⟨n + 1, by omega, by simp, below_drewN HBW.out _, HX.out⟩, by simp [intOf]; omega⟩
        · have hb0 := HNO.out hz
          subst hb0
          have hq2 : ∀ w, (binOp .neq 35 (.agg #[.int .i64 a1, .int .i64 a2, .int .i64 a3]) (.agg #[.int .i64 b1, .int .i64 b2, .int .i64 b3])).run Try.prog w = .ok (.bool true) w := fun w => by
            rw [hq]
            have : (a1 == b1 && a2 == b2 && a3 == b3) = false := by
              rw [← Bool.not_eq_true, Bool.and_eq_true, Bool.and_eq_true, beq_iff_eq, beq_iff_eq, beq_iff_eq]
              rintro ⟨⟨rfl, rfl⟩, rfl⟩
              exact hz rfl
            rw [this]; rfl
          clear hq hz
          go_wp2_with fail
          go_quiet (fail)
          go_wp2_with fail
          go_ret
          exact ⟨rfl, below_drewN HBW.out _⟩
      · have hnn : ¬ (n : Int) < L.length := by omega
        have hb1 : b = true := HB.out.2 (List.ext_getElem HLE.out fun i h1 h2 => HAL.out i h1 h2 (by omega))
        subst hb1
        go_wp2_with fail
        go_ret
        exact ⟨rfl, HBW.out⟩
  · have hni2 : ¬ (L.length : Int) = (M.length : Int) := by omega
    have hb0 : b = false := by
      cases b with
      | false => rfl
      | true => exact absurd (congrArg List.length (HB.out.1 rfl)) hlen
    subst hb0
    go_enter Try.func46, Try.ntmps46
    go_wp2_with fail
    go_ret
    exact ⟨rfl, Below.refl _ _⟩
end Go.Proofs.Ytjnfnihhihncmaa
