/- Texts of one proof, one behind the other. -/
import Derived.Test.YtgefampdfhbmbaaMk
import Derived.Laws.Unary
/- What the program's Pad, Equal and Unpad answer. -/
namespace Go.Proofs.Ytgefampdfhbmbaa
open Go.RowKit
set_option linter.unusedVariables false

def padF (l : List UInt8) (i : Nat) : UInt8 := if i < l.length then l.getD i 0 else UInt8.ofNat (padN l.length)
theorem pad_map (l : List UInt8) : (List.range (l.length + padN l.length)).map (padF l) = padS l := by
  refine list_eq (pad_len l) fun j hj => ?_
  unfold padF padS
  by_cases h : j < l.length
  · rw [if_pos h, List.getD_eq_getElem?_getD, List.getD_eq_getElem?_getD, List.getElem?_append_left h]
  · rw [if_neg h, List.getD_eq_getElem?_getD, List.getElem?_append_right (by omega), List.getElem?_replicate, if_pos (by omega)]; rfl
set_option maxRecDepth 100000 in
set_option maxHeartbeats 800000 in
theorem pPad_any (l : List UInt8) (hl : l.length ≤ 140737488355300) (v : Value) (w : World) (hv : ByAt w v l) : Calls Try.prog 32 #[v] w fun e w' => ∃ vo, e = .returned vo ∧ SlAt w' vo (padS l) ∧ Below w.heap.size w w' := by
  obtain ⟨a, cap, rfl⟩ : ∃ a cap, v = .slice a l.length cap := by obtain ⟨a, cap, h, _⟩ := hv.shape; exact ⟨a, cap, h⟩
  have hi5 := Try.size5
  have hm1 : 1 ≤ padN l.length := by unfold padN; omega
  have hm2 : padN l.length ≤ 16 := by unfold padN; omega
  have hq : (l.length : Int).tmod 16 = ((l.length % 16 : Nat) : Int) := by rw [Int.tmod_eq_emod_of_nonneg (by omega)]; omega
  have hs : (16 : Int) - ((l.length % 16 : Nat) : Int) = ((padN l.length : Nat) : Int) := by unfold padN; omega
  have hsum : (l.length : Int) + ((padN l.length : Nat) : Int) = ((l.length + padN l.length : Nat) : Int) := by omega
  have hcv : ((padN l.length : Nat) : Int) % 256 = ((padN l.length : Nat) : Int) := by omega
  have hu : (UInt8.ofNat (padN l.length)).toNat = padN l.length := u8_nat (by omega)
  have hq16 : l.length % 16 < 16 := Nat.mod_lt _ (by omega)
  have HPM := hidD (pad_map l)
  have HF : Hid (∀ i, i < l.length + padN l.length → ((padF l i).toNat : Int) = if i < l.length then ((l.getD i 0).toNat : Int) else ((padN l.length : Nat) : Int)) := fun i hi => by
    unfold padF
    by_cases h : i < l.length
    · rw [if_pos h, if_pos h]
    · rw [if_neg h, if_neg h, hu]
  have HSRC := hidD (fun h => hv.src h)
  have HCG : Hid (∀ i, i < l.length + padN l.length → (if 0 ≤ i ∧ i < 0 + l.length then ((l.getD (i - 0) 0).toNat : Int) else 0) = if i < l.length then ((l.getD i 0).toNat : Int) else if i < l.length + 0 then ((padN l.length : Nat) : Int) else 0) := fun i hi => by
    by_cases h : i < l.length
    · rw [if_pos ⟨Nat.zero_le _, by omega⟩, if_pos h, Nat.sub_zero]
    · rw [if_neg (by omega), if_neg h, if_neg (by omega)]
  clear hv hu
  generalize padN l.length = m at *
  generalize l.length % 16 = q at *
  generalize hL : l.length = L at *
  have HL := hidD hL
  generalize hT : L + m = T at *
  have HT := hidD hT
  clear hL hT
  go_enter Try.func32, Try.ntmps32
  go_wp2_with (first
    | (at_make; refine wpList_makeB w rfl _ _ rfl .i64 .i64 (T : Int) (T : Int) T rfl rfl rfl rfl (by have := HT.out; omega) ?_; intro w2 hr2 hb2; have HB2 := hidD hb2; clear hb2)
    | (refine wpList_copy_Z rfl _ _ 22 22 rfl 5 Try.underlying22 hi5 (some ⟨w.heap.size, 0, none⟩) a T T L cap rfl rfl .u8 w.heap.size 0 T L (fun _ => 0) (fun i => ((l.getD i 0).toNat : Int)) 5 hr2.out (by show L = min L T; have := HT.out; omega) (fun h0 => ⟨rfl, by obtain ⟨g', o', e1, e2, e3⟩ := HSRC.out h0; exact ⟨g', o', e1, fun j hj => (HB2.out.cell (p := ⟨g', o' + j, none⟩) e2).trans (e3 j hj)⟩⟩) (by have := HT.out; omega) ?_; intro w3 hr3 hb3; have HR3 : Hid (RowZ w3 w.heap.size .u8 T 5 (fun i => if i < L then ((l.getD i 0).toNat : Int) else if i < L + 0 then (m : Int) else 0)) := hr3.out.congr HCG.out; have HB3 : Hid (Below w.heap.size w w3) := HB2.out.trans hb3.bel; clear hr3 hb3 hr2))
  go_loopw [19] (fun u wr => ∃ k : Nat, k ≤ m ∧ u = .int .i64 k ∧ RowZ wr w.heap.size .u8 T 5 (fun i => if i < L then ((l.getD i 0).toNat : Int) else if i < L + k then (m : Int) else 0) ∧ Below w.heap.size w wr) (fun u _ => m - (intOf u).toNat)
  case atStart => exact ⟨0, Nat.zero_le _, rfl, HR3.out, HB3.out⟩
  case round =>
    obtain ⟨k, hk, rfl, hrow, hbel⟩ := hrel
    by_cases hlt : k < m
    · have hlti : (k : Int) < (m : Int) := by omega
      have hTT := HT.out
      have hix : L + k < T := by omega
      have hixi : ((L + k : Nat) : Int) < (T : Int) := by omega
      have hsm : (L : Int) + (k : Int) = ((L + k : Nat) : Int) := by omega
      have hcc := hrow.cell hix
      have hfr := hrow.frozen (L + k)
      have HST : Hid (RowZ (wr.setCell ⟨w.heap.size, L + k, none⟩ (.int .u8 (m : Int))) w.heap.size .u8 T 5 (fun i => if i < L then ((l.getD i 0).toNat : Int) else if i < L + (k + 1) then (m : Int) else 0)) := (hrow.set hix _).congr fun i hi => by
        by_cases h : i = L + k
        · rw [if_pos h, if_neg (by omega), if_pos (by omega)]
        · rw [if_neg h]
          by_cases h1 : i < L
          · rw [if_pos h1, if_pos h1]
          · rw [if_neg h1, if_neg h1]
            by_cases h2 : i < L + k
            · rw [if_pos h2, if_pos (by omega)]
            · rw [if_neg h2, if_neg (by omega)]
      have HSB : Hid (∀ v, Below w.heap.size w (wr.setCell ⟨w.heap.size, L + k, none⟩ v)) := fun v => below_setCell hbel (Nat.le_refl _) _ v
      clear hrow hbel hTT
      generalize hJ : L + k = J at *
      clear hJ
      go_wp2_with fail
      go_roundw
      case rel => exact ⟨k + 1, by omega, by go_num, HST.out, HSB.out _⟩
      case measure => simp [intOf]; omega
    · obtain rfl : k = m := by omega
      have HRF : Hid (RowZ wr w.heap.size .u8 T 5 (fun i => ((padF l i).toNat : Int))) := hrow.congr fun i hi => by
        rw [HF.out i hi, HT.out]
        by_cases h : i < L
        · rw [if_pos h, if_pos h]
        · rw [if_neg h, if_neg h, if_pos hi]
      have HBF := hidD hbel
      clear hrow hbel
      go_wp2_with fail
      refine bodyPost_ret (v := .slice (some ⟨w.heap.size, 0, none⟩) T T) (by simp [results, Try.results32, go_sem]) rfl ?_
      refine ⟨_, rfl, ?_, HBF.out⟩
      have h := rowZ_sl HRF.out (by have := HT.out; omega)
      rw [HPM.out] at h
      exact h
end Go.Proofs.Ytgefampdfhbmbaa
/- What the program's Equal and Unpad answer. -/
namespace Go.Proofs.Ytgefampdfhbmbaa
open Go.RowKit
set_option linter.unusedVariables false

theorem or_xor_zero {c a b : UInt8} : c ||| (a ^^^ b) = 0 ↔ c = 0 ∧ a = b := by
  constructor
  · intro h
    have h1 := congrArg UInt8.toNat h
    rw [UInt8.toNat_or, UInt8.toNat_xor] at h1
    have h2 : c.toNat = 0 ∧ a.toNat ^^^ b.toNat = 0 := Nat.or_eq_zero_iff.1 h1
    exact ⟨UInt8.toNat.inj h2.1, UInt8.toNat.inj (by have h3 := congrArg (· ^^^ b.toNat) h2.2; simpa [Nat.xor_assoc] using h3)⟩
  · rintro ⟨rfl, rfl⟩; simp
theorem pEqual_len (x y : List UInt8) (hxy : x.length ≠ y.length) (a b : Option Addr) (c d : Nat) (w : World) : Calls Try.prog 34 #[.slice a x.length c, .slice b y.length d] w fun e w' => e = .returned (.bool false) ∧ Below w.heap.size w w' := by
  have h1 : ¬ (x.length : Int) = (y.length : Int) := by omega
  have h2 : ((x.length : Int) == (y.length : Int)) = false := by simp; omega
  clear hxy
  generalize x.length = p at *
  generalize y.length = q at *
  go_enter Try.func34, Try.ntmps34
  go_wp2_with fail
  go_ret
  exact ⟨rfl, Below.refl _ _⟩
set_option maxRecDepth 100000 in
set_option maxHeartbeats 800000 in
theorem pEqual_any (x y : List UInt8) (hx : x.length ≤ 9223372036854775807) (u v : Value) (w : World) (hu : ByAt w u x) (hv : ByAt w v y) : Calls Try.prog 34 #[u, v] w fun e w' => e = .returned (.bool (decide (x = y))) ∧ Below w.heap.size w w' := by
  obtain ⟨a, c, rfl⟩ : ∃ a cap, u = .slice a x.length cap := by obtain ⟨a, cap, h, _⟩ := hu.shape; exact ⟨a, cap, h⟩
  obtain ⟨b, d, rfl⟩ : ∃ a cap, v = .slice a y.length cap := by obtain ⟨a, cap, h, _⟩ := hv.shape; exact ⟨a, cap, h⟩
  by_cases hxy : x.length = y.length
  · have HSX := hidD (fun h => hu.src h)
    have HSY := hidD (fun h => hv.src h)
    have HFX : Hid (∀ z : UInt8, (z = 0 ↔ ∀ j, j < x.length → x.getD j 0 = y.getD j 0) → decide (z = 0) = decide (x = y)) := fun z hz => by
      congr 1
      refine propext ⟨fun h => ?_, fun h => hz.2 fun j _ => by rw [h]⟩
      apply List.ext_getElem hxy
      intro i h1 h2
      have := hz.1 h i h1
      rw [List.getD_eq_getElem?_getD, List.getD_eq_getElem?_getD, List.getElem?_eq_getElem h1, List.getElem?_eq_getElem h2] at this
      exact this
    rw [← hxy] at *
    clear hu hv hxy
    generalize x.length = L at *
    go_enter Try.func34, Try.ntmps34
    go_wp2_with fail
    go_loopw [5, 15] (fun z i wr => ∃ (k : Nat) (q : UInt8), k ≤ L ∧ i = .int .i64 k ∧ z = .int .u8 (q.toNat : Int) ∧ (q = 0 ↔ ∀ j, j < k → x.getD j 0 = y.getD j 0) ∧ wr = w) (fun _ i _ => L - (intOf i).toNat)
    case atStart => exact ⟨0, 0, Nat.zero_le _, rfl, rfl, ⟨fun _ j hj => absurd hj (by omega), fun _ => rfl⟩, rfl⟩
    case round =>
      obtain ⟨k, q, hk, rfl, rfl, hq, rfl⟩ := hrel
      have HQ := hidD hq
      clear hq
      by_cases hlt : k < L
      · have hlti : (k : Int) < (L : Int) := by omega
        obtain ⟨g1, o1, rfl, _, e1⟩ := HSX.out (by omega)
        obtain ⟨g2, o2, rfl, _, e2⟩ := HSY.out (by omega)
        have c1 := e1 k hlt
        have c2 := e2 k hlt
        have h1 := u8_xor_nat (x.getD k 0).toNat (y.getD k 0).toNat (u8_lt _) (u8_lt _)
        rw [← UInt8.toNat_xor] at h1
        have h2 := u8_or_nat q.toNat (x.getD k 0 ^^^ y.getD k 0).toNat (u8_lt _) (u8_lt _)
        rw [← UInt8.toNat_or] at h2
        have HN : Hid (q ||| (x.getD k 0 ^^^ y.getD k 0) = 0 ↔ ∀ j, j < k + 1 → x.getD j 0 = y.getD j 0) := by
          show _ ↔ _
          rw [or_xor_zero, HQ.out]
          constructor
          · rintro ⟨h, h'⟩ j hj
            by_cases he : j = k
            · rw [he]; exact h'
            · exact h j (by omega)
          · intro h
            exact ⟨fun j hj => h j (by omega), h k (by omega)⟩
        clear e1 e2 HQ
        generalize hZ : q ||| (x.getD k 0 ^^^ y.getD k 0) = Z at *
        have HZ := hidD hZ
        generalize (x.getD k 0 ^^^ y.getD k 0).toNat = xr at *
        generalize (x.getD k 0).toNat = xa at *
        generalize (y.getD k 0).toNat = xb at *
        generalize q.toNat = xq at *
        clear hZ
        go_wp2_with fail
        go_roundw
        case rel => exact ⟨k + 1, Z, by omega, by go_num, rfl, HN.out, by first | trivial | rfl⟩
        case measure => simp [intOf]; omega
      · obtain rfl : k = L := by omega
        have HR := hidD (HFX.out q HQ.out)
        have hb : ((q.toNat : Int) == 0) = decide (q = 0) := by
          by_cases h : q = 0
          · subst h; simp
          · have : q.toNat ≠ 0 := fun h' => h (UInt8.toNat.inj h')
            simp [h]; omega
        go_wp2_with fail
        refine bodyPost_ret (v := .bool (decide (x = y))) ?_ rfl ⟨rfl, Below.refl _ _⟩
        rw [← HR.out, ← hb]
        simp [results, Try.results34, go_sem]
  · have hf : decide (x = y) = false := by
      simp; intro h; exact hxy (by rw [h])
    rw [hf]
    exact pEqual_len x y hxy a b c d w
end Go.Proofs.Ytgefampdfhbmbaa
/- What the program's Unpad answers. -/
namespace Go.Proofs.Ytgefampdfhbmbaa
open Go.RowKit
set_option linter.unusedVariables false

theorem pun_no {l : List UInt8} (h : l.length = 0 ∨ l.length % 16 ≠ 0) : unpE l = 91 ∧ unpS l = [] := by
  have : unpE l = 91 := by unfold unpE; rw [if_pos h]
  exact ⟨this, by unfold unpS; rw [if_neg (by omega)]⟩
theorem pun_arg {l : List UInt8} (h : ¬ (l.length = 0 ∨ l.length % 16 ≠ 0)) (h1 : unpN l < 1 ∨ 16 < unpN l) : unpE l = 1 ∧ unpS l = [] := by
  have : unpE l = 1 := by unfold unpE; rw [if_neg h, if_pos h1]
  exact ⟨this, by unfold unpS; rw [if_neg (by omega)]⟩
theorem pun_all {l : List UInt8} (h : ¬ (l.length = 0 ∨ l.length % 16 ≠ 0)) (h1 : ¬ (unpN l < 1 ∨ 16 < unpN l)) : unpE l = (if l = padS (l.take (l.length - unpN l)) then 0 else 1) ∧ unpS l = (if l = padS (l.take (l.length - unpN l)) then l.take (l.length - unpN l) else []) := by
  have hN : padN (l.take (l.length - unpN l)).length = unpN l := by
    rw [List.length_take, Nat.min_eq_left (by omega)]
    unfold padN
    omega
  have hlen : (l.take (l.length - unpN l)).length = l.length - unpN l := by rw [List.length_take, Nat.min_eq_left (by omega)]
  have hv : (UInt8.ofNat (unpN l)).toNat = unpN l := u8_nat (by omega)
  have key : ((List.range (unpN l)).all (fun i => (l.getD (l.length - unpN l + i) 0).toNat == unpN l) = true) ↔ l = padS (l.take (l.length - unpN l)) := by
    unfold padS
    rw [hN]
    constructor
    · intro ha
      have ha := List.all_eq_true.1 ha
      have hd : l.drop (l.length - unpN l) = List.replicate (unpN l) (UInt8.ofNat (unpN l)) := by
        apply List.ext_getElem
        · rw [List.length_drop, List.length_replicate]; omega
        · intro i h3 h4
          rw [List.length_replicate] at h4
          have := ha i (by simpa using h4)
          rw [List.getElem_drop, List.getElem_replicate]
          rw [beq_iff_eq, List.getD_eq_getElem?_getD, List.getElem?_eq_getElem (by omega)] at this
          exact UInt8.toNat.inj (by rw [hv]; exact this)
      rw [← hd, List.take_append_drop]
    · intro he
      refine List.all_eq_true.2 fun i hi => ?_
      have hi : i < unpN l := by simpa using hi
      have h5 : l[l.length - unpN l + i]? = (l.take (l.length - unpN l) ++ List.replicate (unpN l) (UInt8.ofNat (unpN l)))[l.length - unpN l + i]? := congrArg (fun t : List UInt8 => t[l.length - unpN l + i]?) he
      rw [beq_iff_eq, List.getD_eq_getElem?_getD, h5]
      rw [List.getElem?_append_right (by omega), hlen, show l.length - unpN l + i - (l.length - unpN l) = i by omega, List.getElem?_replicate, if_pos hi]
      exact hv
  have hE : unpE l = (if l = padS (l.take (l.length - unpN l)) then 0 else 1) := by
    unfold unpE
    rw [if_neg h, if_neg h1]
    by_cases hk : l = padS (l.take (l.length - unpN l))
    · rw [if_pos hk, if_pos (key.2 hk)]
    · rw [if_neg hk, if_neg (fun h => hk (key.1 h))]
  refine ⟨hE, ?_⟩
  unfold unpS
  rw [hE]
  by_cases hk : l = padS (l.take (l.length - unpN l))
  · rw [if_pos hk, if_pos rfl, if_pos hk]
  · rw [if_neg hk, if_neg (by omega), if_neg hk]
set_option maxRecDepth 100000 in
set_option maxHeartbeats 800000 in
theorem pUnpad_no (l : List UInt8) (hl : l.length ≤ 9223372036854775807) (h : l.length = 0 ∨ l.length % 16 ≠ 0) (a : Option Addr) (cap : Nat) (w : World) : Calls Try.prog 30 #[.slice a l.length cap] w fun e w' => ∃ vo, e = .returned (.tuple #[vo, .int .i64 91]) ∧ SlAt w' vo [] ∧ Below w.heap.size w w' := by
  have hq : (l.length : Int).tmod 16 = ((l.length % 16 : Nat) : Int) := by rw [Int.tmod_eq_emod_of_nonneg (by omega)]; omega
  by_cases h0 : l.length = 0
  · have h0i : (l.length : Int) = 0 := by omega
    clear h hq h0
    generalize (l.length) = L at *
    obtain rfl : L = 0 := by omega
    clear h0i
    go_enter Try.func30, Try.ntmps30
    go_wp2_with fail
    refine bodyPost_ret (v := .tuple #[.slice none 0 0, .int .i64 91]) (by simp [results, Try.results30, go_sem]) rfl ?_
    exact ⟨_, rfl, ⟨⟨none, 0, rfl, Nat.le_refl _, by omega⟩, .inl ⟨rfl, none, 0, rfl, fun _ => rfl⟩⟩, Below.refl _ _⟩
  · have h1 : l.length % 16 ≠ 0 := by omega
    have h0b : ((l.length : Int) == 0) = false := beq_eq_false_iff_ne.2 (by omega)
    have h0i : ¬ (l.length : Int) = 0 := by omega
    have h1b : (((l.length % 16 : Nat) : Int) != 0) = true := bne_iff_ne.2 (by omega)
    have h1i : ¬ ((l.length % 16 : Nat) : Int) = 0 := by omega
    clear h h0 h1
    generalize l.length % 16 = q at *
    generalize (l.length) = L at *
    go_enter Try.func30, Try.ntmps30
    go_wp2_with fail
    refine bodyPost_ret (v := .tuple #[.slice none 0 0, .int .i64 91]) (by simp [results, Try.results30, go_sem]) rfl ?_
    exact ⟨_, rfl, ⟨⟨none, 0, rfl, Nat.le_refl _, by omega⟩, .inl ⟨rfl, none, 0, rfl, fun _ => rfl⟩⟩, Below.refl _ _⟩
set_option maxRecDepth 100000 in
set_option maxHeartbeats 1600000 in
theorem pUnpad_any (l : List UInt8) (hl : l.length ≤ 140737488355300) (v : Value) (w : World) (hv : ByAt w v l) : Calls Try.prog 30 #[v] w fun e w' => ∃ vo, e = .returned (.tuple #[vo, .int .i64 (unpE l : Int)]) ∧ SlAt w' vo (unpS l) ∧ Below w.heap.size w w' := by
  have HV := hidD hv
  obtain ⟨a, cap, rfl⟩ : ∃ a cap, v = .slice a l.length cap := by obtain ⟨a, cap, h, _⟩ := hv.shape; exact ⟨a, cap, h⟩
  by_cases hno : l.length = 0 ∨ l.length % 16 ≠ 0
  · rw [(pun_no hno).1, (pun_no hno).2]
    exact pUnpad_no l (by omega) hno a cap w
  have hq : (l.length : Int).tmod 16 = ((l.length % 16 : Nat) : Int) := by rw [Int.tmod_eq_emod_of_nonneg (by omega)]; omega
  have hq0 : ((l.length % 16 : Nat) : Int) = 0 := by omega
  rw [hq0] at hq
  have h0b : ((l.length : Int) == 0) = false := beq_eq_false_iff_ne.2 (by omega)
  have h0i : ¬ (l.length : Int) = 0 := by omega
  obtain ⟨g, o, rfl, hg, hc⟩ := hv.src (by omega)
  have c1 : w.cell? ⟨g, o + (l.length - 1), none⟩ = some (.int .u8 (unpN l : Int)) := hc (l.length - 1) (by omega)
  have hsb : (l.length : Int) - 1 = ((l.length - 1 : Nat) : Int) := by omega
  have hix : ((l.length - 1 : Nat) : Int) < (l.length : Int) := by omega
  have hN8 : unpN l < 256 := u8_lt _
  by_cases harg : unpN l < 1 ∨ 16 < unpN l
  · rw [(pun_arg hno harg).1, (pun_arg hno harg).2]
    clear hno hq0 hv
    generalize l.length - 1 = J at *
    generalize unpN l = N at *
    generalize l.length = L at *
    by_cases hN1 : N < 1
    · have e1 : (N : Int) < 1 := by omega
      clear harg hN1
      go_enter Try.func30, Try.ntmps30
      go_wp2_with fail
      refine bodyPost_ret (v := .tuple #[.slice none 0 0, .int .i64 1]) (by simp [results, Try.results30, go_sem]) rfl ?_
      exact ⟨_, rfl, ⟨⟨none, 0, rfl, Nat.le_refl _, by omega⟩, .inl ⟨rfl, none, 0, rfl, fun _ => rfl⟩⟩, Below.refl _ _⟩
    · have e1 : decide ((N : Int) < 1) = false := by simp; omega
      have e1' : ¬ (N : Int) < 1 := by omega
      have e2 : (16 : Int) < (N : Int) := by omega
      clear harg hN1
      go_enter Try.func30, Try.ntmps30
      go_wp2_with fail
      refine bodyPost_ret (v := .tuple #[.slice none 0 0, .int .i64 1]) (by simp [results, Try.results30, go_sem]) rfl ?_
      exact ⟨_, rfl, ⟨⟨none, 0, rfl, Nat.le_refl _, by omega⟩, .inl ⟨rfl, none, 0, rfl, fun _ => rfl⟩⟩, Below.refl _ _⟩
  · have hall := pun_all hno harg
    rw [hall.1, hall.2]
    have e1 : decide ((unpN l : Int) < 1) = false := by simp; omega
    have e1' : ¬ (unpN l : Int) < 1 := by omega
    have e2 : ¬ (16 : Int) < (unpN l : Int) := by omega
    have e2' : decide ((16 : Int) < (unpN l : Int)) = false := by simp; omega
    have hi5 := Try.size5
    have hT : (l.length : Int) - (unpN l : Int) = ((l.length - unpN l : Nat) : Int) := by omega
    have HTL : Hid ((l.take (l.length - unpN l)).length = l.length - unpN l) := by show _ = _; rw [List.length_take, Nat.min_eq_left (by omega)]
    have HTM : Hid ((List.range (l.length - unpN l)).map (fun i => l.getD i 0) = l.take (l.length - unpN l)) := list_eq HTL.out fun j hj => by
      rw [List.getD_eq_getElem?_getD, List.getD_eq_getElem?_getD, List.getElem?_take_of_lt hj]
    have HPD := hidD (fun (v : Value) (w : World) hv => pPad_any (l.take (l.length - unpN l)) (by rw [HTL.out]; omega) v w hv)
    have HEQ := hidD (fun (y : List UInt8) (u v : Value) (w : World) hu hv => pEqual_any l y (by omega) u v w hu hv)
    have HC := hidD hc
    have HG := hidD hg
    have HLT : Hid (l.length - unpN l ≤ l.length ∧ l.length ≤ 140737488355300) := ⟨by omega, hl⟩
    have hTle : l.length - unpN l ≤ 140737488355300 := by omega
    clear hall hno harg hq0 hv hc hg
    generalize l.take (l.length - unpN l) = tk at *
    generalize l.length - unpN l = T at *
    generalize l.length - 1 = J at *
    generalize unpN l = N at *
    generalize hL : l.length = L at *
    have HL := hidD hL
    clear hL
    by_cases hpd : l = padS tk
    · rw [if_pos hpd, if_pos hpd]
      have hdc : decide (l = padS tk) = true := by simpa using hpd
      have HDC := hidD hdc
      clear hpd hdc
      go_enter Try.func30, Try.ntmps30
      go_wp2_with (first
        | (at_make; refine wpList_makeB w rfl _ _ rfl .i64 .i64 (T : Int) (T : Int) T rfl rfl rfl rfl (by omega) ?_; intro w2 hr2 hb2; have HB2 := hidD hb2; clear hb2)
        | (refine wpList_copy_Z rfl _ _ 22 22 rfl 5 Try.underlying22 hi5 (some ⟨w.heap.size, 0, none⟩) (some ⟨g, o, none⟩) T T L cap rfl rfl .u8 w.heap.size 0 T T (fun _ => 0) (fun i => ((l.getD i 0).toNat : Int)) 5 hr2.out (by show T = min L T; have := HLT.out; omega) (fun h0 => ⟨rfl, g, o, rfl, fun j hj => (HB2.out.cell (p := ⟨g, o + j, none⟩) HG.out).trans (HC.out j (by have := HLT.out; omega))⟩) (by omega) ?_; intro w3 hr3 hb3; have HR3 : Hid (RowZ w3 w.heap.size .u8 T 5 (fun i => ((l.getD i 0).toNat : Int))) := hr3.out.congr (fun i hi => by rw [if_pos ⟨Nat.zero_le _, by omega⟩, Nat.sub_zero]); have HB3 : Hid (Below w.heap.size w w3) := HB2.out.trans hb3.bel; have HS3 := hidD (rowZ_sl HR3.out (by omega)); rw [HTM.out] at HS3; clear hr3 hb3 hr2)
        | (go_at_call 32; refine (HPD.out _ _ HS3.out.by').mono ?_; rintro e w4 ⟨vo, rfl, hs4, hb4⟩; have HS4 := hidD hs4; have HB4 := hidD hb4; obtain ⟨a4, c4, hvo, _⟩ := hs4.shape; subst hvo; clear hs4 hb4)
        | (go_at_call 34; refine (HEQ.out _ _ _ _ (HV.out.next (Below.next HB3.out HB4.out)) HS4.out.by').mono ?_; rintro e w5 ⟨rfl, hb5⟩; rw [HDC.out]; have HB5 := hidD hb5; clear hb5))
      refine bodyPost_ret (v := .tuple #[.slice (some ⟨w.heap.size, 0, none⟩) T T, .int .i64 0]) (by simp [results, Try.results30, go_sem]) rfl ?_
      exact ⟨_, rfl, (HS3.out.next HB4.out).next HB5.out, Below.next (Below.next HB3.out HB4.out) HB5.out⟩
    · rw [if_neg hpd, if_neg hpd]
      have hdc : decide (l = padS tk) = false := by simpa using hpd
      have HDC := hidD hdc
      clear hpd hdc
      go_enter Try.func30, Try.ntmps30
      go_wp2_with (first
        | (at_make; refine wpList_makeB w rfl _ _ rfl .i64 .i64 (T : Int) (T : Int) T rfl rfl rfl rfl (by omega) ?_; intro w2 hr2 hb2; have HB2 := hidD hb2; clear hb2)
        | (refine wpList_copy_Z rfl _ _ 22 22 rfl 5 Try.underlying22 hi5 (some ⟨w.heap.size, 0, none⟩) (some ⟨g, o, none⟩) T T L cap rfl rfl .u8 w.heap.size 0 T T (fun _ => 0) (fun i => ((l.getD i 0).toNat : Int)) 5 hr2.out (by show T = min L T; have := HLT.out; omega) (fun h0 => ⟨rfl, g, o, rfl, fun j hj => (HB2.out.cell (p := ⟨g, o + j, none⟩) HG.out).trans (HC.out j (by have := HLT.out; omega))⟩) (by omega) ?_; intro w3 hr3 hb3; have HR3 : Hid (RowZ w3 w.heap.size .u8 T 5 (fun i => ((l.getD i 0).toNat : Int))) := hr3.out.congr (fun i hi => by rw [if_pos ⟨Nat.zero_le _, by omega⟩, Nat.sub_zero]); have HB3 : Hid (Below w.heap.size w w3) := HB2.out.trans hb3.bel; have HS3 := hidD (rowZ_sl HR3.out (by omega)); rw [HTM.out] at HS3; clear hr3 hb3 hr2)
        | (go_at_call 32; refine (HPD.out _ _ HS3.out.by').mono ?_; rintro e w4 ⟨vo, rfl, hs4, hb4⟩; have HS4 := hidD hs4; have HB4 := hidD hb4; obtain ⟨a4, c4, hvo, _⟩ := hs4.shape; subst hvo; clear hs4 hb4)
        | (go_at_call 34; refine (HEQ.out _ _ _ _ (HV.out.next (Below.next HB3.out HB4.out)) HS4.out.by').mono ?_; rintro e w5 ⟨rfl, hb5⟩; rw [HDC.out]; have HB5 := hidD hb5; clear hb5))
      refine bodyPost_ret (v := .tuple #[.slice none 0 0, .int .i64 1]) (by simp [results, Try.results30, go_sem]) rfl ?_
      exact ⟨_, rfl, ⟨⟨none, 0, rfl, Nat.le_refl _, by omega⟩, .inl ⟨rfl, none, 0, rfl, fun _ => rfl⟩⟩, Below.next (Below.next HB3.out HB4.out) HB5.out⟩
end Go.Proofs.Ytgefampdfhbmbaa
