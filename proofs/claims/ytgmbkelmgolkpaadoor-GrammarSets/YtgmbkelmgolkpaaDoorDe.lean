/- Texts of one proof, one behind the other. -/
import Derived.Test.YtgmbkelmgolkpaaDoorDa
import Derived.Test.YtgmbkelmgolkpaaDoorGm
import Derived.Test.YtgmbkelmgolkpaaDoorGy
/- The document's begins and union. -/
namespace Go.Proofs.YtgmbkelmgolkpaaDoor
open Go.RowKit Go.Maps
set_option linter.unusedVariables false

/-- The lowest t of a set. -/
def loT (A t : Nat) : Nat := A % 2 ^ t
theorem lo_bit (A t i : Nat) : (loT A t).testBit i = (decide (i < t) && A.testBit i) := Nat.testBit_mod_two_pow A t i
theorem lo_zero (A : Nat) : loT A 0 = 0 := by unfold loT; simp [Nat.mod_one]
theorem lo_next (A t : Nat) : loT A (t + 1) = loT A t ||| (if A.testBit t then 2 ^ t else 0) := by
  apply Nat.eq_of_testBit_eq
  intro i
  rw [lo_bit, Nat.testBit_or, lo_bit]
  by_cases e : t = i
  · subst e
    cases hb : A.testBit t with
    | true => rw [if_pos rfl, Nat.testBit_two_pow]; simp
    | false => simp
  · have e1 : decide (i < t + 1) = decide (i < t) := decide_eq_decide.2 (by omega)
    rw [e1]
    cases hb : A.testBit t with
    | true => rw [if_pos rfl, Nat.testBit_two_pow, decide_eq_false e, Bool.or_false]
    | false => simp
theorem lo_all {A n : Nat} (h : A < 2 ^ n) : loT A n = A := Nat.mod_eq_of_lt h
/-- Rows of marks. -/
def maC (n : Nat) (gx : Nat → Nat) : Array Value := ((List.range n).map (fun x => Value.slice (some ⟨gx x, 0, none⟩) n n)).toArray
theorem ma_get {n : Nat} {gx : Nat → Nat} {x : Nat} (h : x < n) : (maC n gx)[x]? = some (.slice (some ⟨gx x, 0, none⟩) n n) := by
  unfold maC
  rw [List.getElem?_toArray, List.getElem?_map, List.getElem?_range h]; rfl
def gsN (n nul : Nat) (S : Nat → Nat) : Gs := ⟨n, 0, 0, nul, S, fun _ => 0⟩
theorem But.cs {g b : Nat} {w w' : World} {cs : Array Value} {t : TypeId} (h : CsAt w b cs t) (hb : But g w w') (hne : b ≠ g) : CsAt w' b cs t := (hb.rest b h.lt hne).trans h
theorem sub_or {D A : Nat} (h : ∀ i, D.testBit i = true → A.testBit i = true) : A ||| D = A := by
  apply Nat.eq_of_testBit_eq
  intro i
  rw [Nat.testBit_or]
  cases hd : D.testBit i with
  | false => rw [Bool.or_false]
  | true => rw [h i hd]; rfl
theorem or_bits {A B : Nat} (h : ∀ i, B.testBit i = true → A.testBit i = true) : A ||| B = A := sub_or h
theorem fi_end (G : Gs) (l : List Int) (h : ∀ j, j < l.length → G.nul.testBit (l.getD j 0).toNat = true) : fiS G l = fiTo G l l.length := by
  rw [fi_split G l l.length (Nat.le_refl _) h, List.drop_length]
  show _ ||| 0 = _
  rw [Nat.or_zero]
set_option maxRecDepth 100000 in
set_option maxHeartbeats 3200000 in
theorem refBegins_big (n nul D gM gn gt : Nat) (gx S : Nat → Nat) (hn : n ≤ 128) (hSb : ∀ x, x < n → S x < 2 ^ n) (l : List Int) (hll : l.length ≤ 9223372036854775806) (hs : SymL n l) (v : Value) (w : World)
    (hM : CsAt w gM (maC n gx) 43) (hMt : gM ≠ gt) (hrow : ∀ x, x < n → CsAt w (gx x) (mkC n (S x)) 3) (hal : ∀ x, x < n → gx x = gt → S x = D) (hnu : CsAt w gn (mkC n nul) 3) (hnt : gn ≠ gt) (ht : CsAt w gt (mkC n D) 3) (hil : ∀ w', But gt w w' → IlAt w' v l) :
    Calls Tryd.prog 70 #[.slice (some ⟨gM, 0, none⟩) n n, .slice (some ⟨gn, 0, none⟩) n n, .slice (some ⟨gt, 0, none⟩) n n, v] w fun e w' => e = .returned (.bool (!decide (D ||| fiS (gsN n nul S) l = D))) ∧ CsAt w' gt (mkC n (D ||| fiS (gsN n nul S) l)) 3 ∧ But gt w w' := by
  have hil0 := hil w (But.refl _ _)
  have HIL := hidD hil
  obtain ⟨a, cap, rfl, hc1, hc2, hc3⟩ := hil0
  have HCL : Hid (∀ w', But gt w w' → ∀ k, k < l.length → ∃ g o, a = some ⟨g, o, none⟩ ∧ g < w'.heap.size ∧ w'.cell? ⟨g, o + k, none⟩ = some (.int .i64 (l.getD k 0))) := fun w' hb k hk => by
    obtain ⟨a', c', e1, _, _, e4⟩ := HIL.out w' hb
    cases e1
    exact e4 k hk
  have HS : Hid (∀ j, j < l.length → ∃ s : Nat, l.getD j 0 = (s : Int) ∧ s < n) := hs
  have HFE : Hid ((∀ j, j < l.length → nul.testBit (l.getD j 0).toNat = true) → fiS (gsN n nul S) l = fiTo (gsN n nul S) l l.length) := fun h => fi_end (gsN n nul S) l h
  have HFS : Hid (∀ k, k < l.length → (∀ j, j < k → nul.testBit (l.getD j 0).toNat = true) → nul.testBit (l.getD k 0).toNat = false → fiS (gsN n nul S) l = fiTo (gsN n nul S) l (k + 1)) := fun k hk h1 h2 => fi_stop (gsN n nul S) l k hk h1 h2
  have HFN : Hid (∀ k, fiTo (gsN n nul S) l (k + 1) = fiTo (gsN n nul S) l k ||| S (l.getD k 0).toNat) := fun _ => rfl
  have HF0 : Hid (fiTo (gsN n nul S) l 0 = 0) := rfl
  have HM := hidD hM
  have HMT := hidD hMt
  have HRW := hidD hrow
  have HAL := hidD hal
  have HNU := hidD hnu
  have HNT := hidD hnt
  have HT := hidD ht
  have HSB := hidD hSb
  have HGT : Hid (gt < w.heap.size) := ht.lt
  clear hc3 hs hM hMt hrow hal hnu hnt ht hil hSb
  generalize fiS (gsN n nul S) l = FS at *
  generalize hFT : fiTo (gsN n nul S) l = FT at *
  clear hFT
  generalize hm : l.length = m at *
  clear hm
  go_enter Tryd.func70, Tryd.ntmps70
  go_wp2_with fail
  go_loopw [9, 10, 11] (fun x i _ wr => ∃ k : Nat, k ≤ m ∧ i = .int .i64 (k : Int) ∧ x = .bool (!decide (D ||| FT k = D)) ∧ (∀ j, j < k → nul.testBit (l.getD j 0).toNat = true) ∧ CsAt wr gt (mkC n (D ||| FT k)) 3 ∧ But gt w wr) (fun _ i _ _ => m - (intOf i).toNat)
  case atStart => exact ⟨0, Nat.zero_le _, rfl, by rw [HF0.out, Nat.or_zero, decide_eq_true rfl]; rfl, fun j hj => absurd hj (by omega), by rw [HF0.out, Nat.or_zero]; exact HT.out, But.refl _ _⟩
  case round =>
    obtain ⟨k, hk, rfl, rfl, hall, hcs, hbut⟩ := hrel
    have HA := hidD hall
    have HCK := hidD hcs
    have HBK := hidD hbut
    by_cases hlt : k < m
    · have hlti : (k : Int) < (m : Int) := by omega
      obtain ⟨gl, ol, e1, hgl, f0⟩ := HCL.out wr hbut k hlt
      subst e1
      obtain ⟨y, ey, hyn⟩ := HS.out k hlt
      have hyi : (y : Int) < (n : Int) := by omega
      have HFK := hidD (HFN.out k)
      have HSK := hidD (HFS.out k hlt HA.out)
      rw [ey, Int.toNat_natCast] at HFK HSK
      have HNA : Hid (nul.testBit y = true → ∀ j, j < k + 1 → nul.testBit (l.getD j 0).toNat = true) := fun h j hj => by
        by_cases e : j = k
        · rw [e, ey, Int.toNat_natCast]; exact h
        · exact HA.out j (by omega)
      have HCY : Hid (∀ w', But gt w w' → ∃ g o, some (⟨gl, ol, none⟩ : Addr) = some ⟨g, o, none⟩ ∧ g < w'.heap.size ∧ w'.cell? ⟨g, o + k, none⟩ = some (.int .i64 (y : Int))) := fun w' hb => by
        obtain ⟨g, o, q1, q2, q3⟩ := HCL.out w' hb k hlt
        exact ⟨g, o, q1, q2, by rw [q3, ey]⟩
      have HSYB := hidD (HSB.out y hyn)
      clear hall hcs hbut f0 ey
      generalize hDK : D ||| FT k = DK at *
      have HDK := hidD hDK
      clear hDK
      have HDD : Hid (∀ i, D.testBit i = true → DK.testBit i = true) := fun i h => by rw [← HDK.out, Nat.testBit_or, h]; rfl
      have HNX : Hid (D ||| FT (k + 1) = DK ||| S y) := by show _ = _; rw [HFK.out, ← Nat.or_assoc, HDK.out]
      go_wp2_with fail
      go_loopw [9, 11] (fun x i wr => ∃ t : Nat, t ≤ n ∧ i = .int .i64 (t : Int) ∧ x = .bool (!decide (DK ||| loT (S y) t = D)) ∧ CsAt wr gt (mkC n (DK ||| loT (S y) t)) 3 ∧ But gt w wr) (fun _ i _ => n - (intOf i).toNat)
      case atStart => exact ⟨0, Nat.zero_le _, rfl, by rw [lo_zero, Nat.or_zero], by rw [lo_zero, Nat.or_zero]; exact HCK.out, HBK.out⟩
      case round =>
        obtain ⟨t, ht, rfl, rfl, hcs, hbut⟩ := hrel
        have HCT := hidD hcs
        have HBT := hidD hbut
        obtain ⟨g', o', q1, q2, f0⟩ := HCY.out wr hbut
        cases q1
        by_cases htn : t < n
        · have hti : (t : Int) < (n : Int) := by omega
          have f1 : wr.cell? ⟨gM, y, none⟩ = some (.slice (some ⟨gx y, 0, none⟩) n n) := ((But.cs HM.out hbut HMT.out).cell y).trans (ma_get hyn)
          have HLN : Hid (DK ||| loT (S y) (t + 1) = (DK ||| loT (S y) t) ||| (if (S y).testBit t then 2 ^ t else 0)) := by show _ = _; rw [lo_next, Nat.or_assoc]
          have f3 : wr.cell? ⟨gt, t, none⟩ = some (mkV (DK ||| loT (S y) t) t) := (hcs.cell t).trans (mk_get htn)
          have f2 : ∃ A, wr.cell? ⟨gx y, t, none⟩ = some (mkV A t) ∧ ((A.testBit t = true ∧ (DK ||| loT (S y) t).testBit t = false) ↔ ((S y).testBit t = true ∧ (DK ||| loT (S y) t).testBit t = false)) := by
            by_cases e : gx y = gt
            · refine ⟨DK ||| loT (S y) t, by rw [e]; exact f3, ?_⟩
              have hSD := HAL.out y hyn e
              constructor
              · rintro ⟨h1, h2⟩; rw [h1] at h2; cases h2
              · rintro ⟨h1, h2⟩
                rw [hSD] at h1
                have := HDD.out t h1
                rw [Nat.testBit_or, this] at h2; cases h2
            · exact ⟨S y, ((But.cs (HRW.out y hyn) hbut e).cell t).trans (mk_get htn), Iff.rfl⟩
          obtain ⟨A, f2, hiff⟩ := f2
          have HIF := hidD hiff
          clear hcs hbut hiff
          unfold mkV at f2 f3
          have HGE : Hid (D ≤ DK ||| loT (S y) t) := by show _ ≤ _; rw [← HDK.out, Nat.or_assoc]; exact Nat.left_le_or
          generalize hMQ : DK ||| loT (S y) t = MQ at *
          clear hMQ
          cases hb2 : MQ.testBit t with
          | true =>
            rw [hb2, if_pos rfl] at f3
            have HSAME : Hid (DK ||| loT (S y) (t + 1) = MQ) := by
              show _ = _; rw [HLN.out]; split
              · exact mk_same (n := n) hb2
              · rw [Nat.or_zero]
            cases hb1 : A.testBit t with
            | true =>
              rw [hb1, if_pos rfl] at f2
              clear hb1 hb2
              go_wp2_with fail
              all_goals first | exact (un_bool6 (by assumption)).elim | skip
              go_roundw
              case rel => exact ⟨t + 1, by omega, by go_num, by rw [HSAME.out], by rw [HSAME.out]; exact HCT.out, HBT.out⟩
              case measure => simp [intOf]; omega
            | false =>
              rw [hb1, if_neg (by decide)] at f2
              clear hb1 hb2
              go_wp2_with fail
              all_goals first | exact (un_bool6 (by assumption)).elim | skip
              go_roundw
              case rel => exact ⟨t + 1, by omega, by go_num, by rw [HSAME.out], by rw [HSAME.out]; exact HCT.out, HBT.out⟩
              case measure => simp [intOf]; omega
          | false =>
            rw [hb2, if_neg (by decide)] at f3
            cases hb1 : A.testBit t with
            | true =>
              rw [hb1, if_pos rfl] at f2
              have hsy := (HIF.out.1 ⟨hb1, hb2⟩).1
              rw [hsy, if_pos rfl] at HLN
              have HLT := hidD (or_new hb2)
              have HDT : Hid ((!decide (MQ ||| 2 ^ t = D)) = true) := by show _ = _; rw [decide_eq_false (by have := HLT.out; have := HGE.out; omega)]; rfl
              have hfz : wr.frozen? ⟨gt, t, none⟩ = false := HCT.out.frz t
              have HC4 := hidD (cs_mark HCT.out htn)
              have HB4 := hidD (HBT.out.put t (.int .i64 1))
              clear hb1 hb2 hsy
              go_wp2_with fail
              all_goals first | exact (un_bool6 (by assumption)).elim | skip
              go_roundw
              case rel => exact ⟨t + 1, by omega, by go_num, by rw [HLN.out, HDT.out], by rw [HLN.out]; exact HC4.out, HB4.out⟩
              case measure => simp [intOf]; omega
            | false =>
              rw [hb1, if_neg (by decide)] at f2
              have HSAME : Hid (DK ||| loT (S y) (t + 1) = MQ) := by
                show _ = _; rw [HLN.out, if_neg (fun h => by have := (HIF.out.2 ⟨h, hb2⟩).1; rw [hb1] at this; cases this), Nat.or_zero]
              clear hb1 hb2
              go_wp2_with fail
              all_goals first | exact (un_bool6 (by assumption)).elim | skip
              go_roundw
              case rel => exact ⟨t + 1, by omega, by go_num, by rw [HSAME.out], by rw [HSAME.out]; exact HCT.out, HBT.out⟩
              case measure => simp [intOf]; omega
        · obtain rfl : t = n := by omega
          have hti : ¬ (t : Int) < (t : Int) := by omega
          rw [lo_all HSYB.out] at HCT ⊢
          have f9 : wr.cell? ⟨gn, y, none⟩ = some (mkV nul y) := ((But.cs HNU.out hbut HNT.out).cell y).trans (mk_get hyn)
          unfold mkV at f9
          clear hcs hbut
          rw [← HNX.out] at HCT ⊢
          generalize hMQ : D ||| FT (k + 1) = MQ at *
          have HMQ := hidD hMQ
          clear hMQ
          cases hb : nul.testBit y with
          | true =>
            rw [hb, if_pos rfl] at f9
            have HN2 := hidD (HNA.out hb)
            clear hb
            go_wp2_with fail
            go_roundw
            case rel => exact ⟨k + 1, by omega, by go_num, by rw [HMQ.out], HN2.out, by rw [HMQ.out]; exact HCT.out, HBT.out⟩
            case measure => simp [intOf]; omega
          | false =>
            rw [hb, if_neg (by decide)] at f9
            have HFX := hidD (HSK.out hb)
            clear hb
            go_wp2_with fail
            go_ret
            exact ⟨by rw [HFX.out, HMQ.out]; rfl, by rw [HFX.out, HMQ.out]; exact HCT.out, HBT.out⟩
    · obtain rfl : k = m := by omega
      have HFX := hidD (HFE.out HA.out)
      clear hall hcs hbut
      generalize hMQ : D ||| FT k = MQ at *
      have HMQ := hidD hMQ
      clear hMQ
      go_wp2_with fail
      go_ret
      exact ⟨by rw [HFX.out, HMQ.out]; rfl, by rw [HFX.out, HMQ.out]; exact HCK.out, HBK.out⟩
theorem refBegins_any (n nul D gM gn gt : Nat) (gx S : Nat → Nat) (hn : n ≤ 128) (hSb : ∀ x, x < n → S x < 2 ^ n) (l : List Int) (hll : l.length ≤ 1048576) (hs : SymL n l) (v : Value) (w : World)
    (hM : CsAt w gM (maC n gx) 43) (hMt : gM ≠ gt) (hrow : ∀ x, x < n → CsAt w (gx x) (mkC n (S x)) 3) (hal : ∀ x, x < n → gx x = gt → S x = D) (hnu : CsAt w gn (mkC n nul) 3) (hnt : gn ≠ gt) (ht : CsAt w gt (mkC n D) 3) (hil : ∀ w', But gt w w' → IlAt w' v l) :
    Calls Tryd.prog 70 #[.slice (some ⟨gM, 0, none⟩) n n, .slice (some ⟨gn, 0, none⟩) n n, .slice (some ⟨gt, 0, none⟩) n n, v] w fun e w' => e = .returned (.bool (!decide (D ||| fiS (gsN n nul S) l = D))) ∧ CsAt w' gt (mkC n (D ||| fiS (gsN n nul S) l)) 3 ∧ But gt w w' :=
  refBegins_big n nul D gM gn gt gx S hn hSb l (Nat.le_trans hll (by decide)) hs v w hM hMt hrow hal hnu hnt ht hil
set_option maxRecDepth 100000 in
set_option maxHeartbeats 3200000 in
theorem refUnion_any (n D A gt gf : Nat) (hn : n ≤ 128) (hA : A < 2 ^ n) (w : World) (ht : CsAt w gt (mkC n D) 3) (hf : CsAt w gf (mkC n A) 3) (hal : gf = gt → A = D) :
    Calls Tryd.prog 75 #[.slice (some ⟨gt, 0, none⟩) n n, .slice (some ⟨gf, 0, none⟩) n n] w fun e w' => e = .returned (.bool (!decide (D ||| A = D))) ∧ CsAt w' gt (mkC n (D ||| A)) 3 ∧ But gt w w' := by
  have HT := hidD ht
  have HF := hidD hf
  have HAL := hidD hal
  have HAB := hidD hA
  clear ht hf hal hA
  go_enter Tryd.func75, Tryd.ntmps75
  go_wp2_with fail
  go_loopw [5, 6] (fun x i wr => ∃ t : Nat, t ≤ n ∧ i = .int .i64 (t : Int) ∧ x = .bool (!decide (D ||| loT A t = D)) ∧ CsAt wr gt (mkC n (D ||| loT A t)) 3 ∧ But gt w wr) (fun _ i _ => n - (intOf i).toNat)
  case atStart => exact ⟨0, Nat.zero_le _, rfl, by rw [lo_zero, Nat.or_zero, decide_eq_true rfl]; rfl, by rw [lo_zero, Nat.or_zero]; exact HT.out, But.refl _ _⟩
  case round =>
    obtain ⟨t, ht, rfl, rfl, hcs, hbut⟩ := hrel
    have HCT := hidD hcs
    have HBT := hidD hbut
    by_cases htn : t < n
    · have hti : (t : Int) < (n : Int) := by omega
      have HLN : Hid (D ||| loT A (t + 1) = (D ||| loT A t) ||| (if A.testBit t then 2 ^ t else 0)) := by show _ = _; rw [lo_next, Nat.or_assoc]
      have f3 : wr.cell? ⟨gt, t, none⟩ = some (mkV (D ||| loT A t) t) := (hcs.cell t).trans (mk_get htn)
      have f2 : ∃ B, wr.cell? ⟨gf, t, none⟩ = some (mkV B t) ∧ ((B.testBit t = true ∧ (D ||| loT A t).testBit t = false) ↔ (A.testBit t = true ∧ (D ||| loT A t).testBit t = false)) := by
        by_cases e : gf = gt
        · refine ⟨D ||| loT A t, by rw [e]; exact f3, ?_⟩
          have hSD := HAL.out e
          constructor
          · rintro ⟨h1, h2⟩; rw [h1] at h2; cases h2
          · rintro ⟨h1, h2⟩
            rw [hSD] at h1
            rw [Nat.testBit_or, h1] at h2; cases h2
        · exact ⟨A, ((But.cs HF.out hbut e).cell t).trans (mk_get htn), Iff.rfl⟩
      obtain ⟨B, f2, hiff⟩ := f2
      have HIF := hidD hiff
      clear hcs hbut hiff
      unfold mkV at f2 f3
      have HGE : Hid (D ≤ D ||| loT A t) := Nat.left_le_or
      generalize hMQ : D ||| loT A t = MQ at *
      clear hMQ
      cases hb2 : MQ.testBit t with
      | true =>
        rw [hb2, if_pos rfl] at f3
        have HSAME : Hid (D ||| loT A (t + 1) = MQ) := by
          show _ = _; rw [HLN.out]; split
          · exact mk_same (n := n) hb2
          · rw [Nat.or_zero]
        cases hb1 : B.testBit t with
        | true =>
          rw [hb1, if_pos rfl] at f2
          clear hb1 hb2
          go_wp2_with fail
          all_goals first | exact (un_bool6 (by assumption)).elim | skip
          go_roundw
          case rel => exact ⟨t + 1, by omega, by go_num, by rw [HSAME.out], by rw [HSAME.out]; exact HCT.out, HBT.out⟩
          case measure => simp [intOf]; omega
        | false =>
          rw [hb1, if_neg (by decide)] at f2
          clear hb1 hb2
          go_wp2_with fail
          all_goals first | exact (un_bool6 (by assumption)).elim | skip
          go_roundw
          case rel => exact ⟨t + 1, by omega, by go_num, by rw [HSAME.out], by rw [HSAME.out]; exact HCT.out, HBT.out⟩
          case measure => simp [intOf]; omega
      | false =>
        rw [hb2, if_neg (by decide)] at f3
        cases hb1 : B.testBit t with
        | true =>
          rw [hb1, if_pos rfl] at f2
          have hsy := (HIF.out.1 ⟨hb1, hb2⟩).1
          rw [hsy, if_pos rfl] at HLN
          have HLT := hidD (or_new hb2)
          have HDT : Hid ((!decide (MQ ||| 2 ^ t = D)) = true) := by show _ = _; rw [decide_eq_false (by have := HLT.out; have := HGE.out; omega)]; rfl
          have hfz : wr.frozen? ⟨gt, t, none⟩ = false := HCT.out.frz t
          have HC4 := hidD (cs_mark HCT.out htn)
          have HB4 := hidD (HBT.out.put t (.int .i64 1))
          clear hb1 hb2 hsy
          go_wp2_with fail
          all_goals first | exact (un_bool6 (by assumption)).elim | skip
          go_roundw
          case rel => exact ⟨t + 1, by omega, by go_num, by rw [HLN.out, HDT.out], by rw [HLN.out]; exact HC4.out, HB4.out⟩
          case measure => simp [intOf]; omega
        | false =>
          rw [hb1, if_neg (by decide)] at f2
          have HSAME : Hid (D ||| loT A (t + 1) = MQ) := by
            show _ = _; rw [HLN.out, if_neg (fun h => by have := (HIF.out.2 ⟨h, hb2⟩).1; rw [hb1] at this; cases this), Nat.or_zero]
          clear hb1 hb2
          go_wp2_with fail
          all_goals first | exact (un_bool6 (by assumption)).elim | skip
          go_roundw
          case rel => exact ⟨t + 1, by omega, by go_num, by rw [HSAME.out], by rw [HSAME.out]; exact HCT.out, HBT.out⟩
          case measure => simp [intOf]; omega
    · obtain rfl : t = n := by omega
      have hti : ¬ (t : Int) < (t : Int) := by omega
      rw [lo_all HAB.out] at HCT ⊢
      clear hcs hbut
      generalize hMQ : D ||| A = MQ at *
      have HMQ := hidD hMQ
      clear hMQ
      go_wp2_with fail
      go_ret
      exact ⟨by rw [HMQ.out]; rfl, by rw [HMQ.out]; exact HCT.out, HBT.out⟩
end Go.Proofs.YtgmbkelmgolkpaaDoor
/- Rows of marks that grow; the document's Terminal, End, right and firsts. -/
namespace Go.Proofs.YtgmbkelmgolkpaaDoor
open Go.RowKit Go.Maps
set_option linter.unusedVariables false

structure MaAt (w : World) (gM n : Nat) (gx S : Nat → Nat) : Prop where
  m : CsAt w gM (maC n gx) 43
  r : ∀ x, x < n → CsAt w (gx x) (mkC n (S x)) 3
  inj : ∀ x y, x < n → y < n → gx x = gx y → x = y
theorem MaAt.ne {w : World} {gM n : Nat} {gx S : Nat → Nat} (h : MaAt w gM n gx S) {x : Nat} (hx : x < n) : gM ≠ gx x := fun e => by
  have h1 := h.m
  have h2 := h.r x hx
  rw [e] at h1
  have h3 := h1.symm.trans h2
  injection h3 with h4
  injection h4 with _ h5 _
  exact absurd h5 (by decide)
theorem MaAt.but {w w' : World} {gM n : Nat} {gx S : Nat → Nat} (h : MaAt w gM n gx S) {x D : Nat} (hx : x < n) (hb : But (gx x) w w') (hc : CsAt w' (gx x) (mkC n D) 3) : MaAt w' gM n gx (upd S x D) := by
  refine ⟨But.cs h.m hb (h.ne hx), fun y hy => ?_, h.inj⟩
  by_cases e : y = x
  · subst e; rw [upd_same]; exact hc
  · rw [upd_other e]; exact But.cs (h.r y hy) hb fun e2 => e (h.inj y x hy hx e2)
theorem MaAt.next {w w' : World} {gM n : Nat} {gx S : Nat → Nat} (h : MaAt w gM n gx S) (hb : Below w.heap.size w w') : MaAt w' gM n gx S := ⟨h.m.next hb, fun x hx => (h.r x hx).next hb, h.inj⟩
theorem MaAt.far {w w' : World} {gM n g : Nat} {gx S : Nat → Nat} (h : MaAt w gM n gx S) (hb : But g w w') (hm : gM ≠ g) (hr : ∀ x, x < n → gx x ≠ g) : MaAt w' gM n gx S := ⟨But.cs h.m hb hm, fun x hx => But.cs (h.r x hx) hb (hr x hx), h.inj⟩
/-- The sum of the first k. -/
def msum (f : Nat → Nat) : Nat → Nat
  | 0 => 0
  | k + 1 => msum f k + f k
theorem msum_le {f g : Nat → Nat} : ∀ n, (∀ x, x < n → f x ≤ g x) → msum f n ≤ msum g n
  | 0, _ => Nat.le_refl _
  | n + 1, h => by have := msum_le n (fun x hx => h x (by omega)); have := h n (by omega); rw [msum, msum]; omega
theorem msum_lt {f g : Nat → Nat} : ∀ n, (∀ x, x < n → f x ≤ g x) → ∀ y, y < n → f y < g y → msum f n < msum g n
  | 0, _, y, hy, _ => by omega
  | n + 1, h, y, hy, hl => by
    have h1 := msum_le n (fun x hx => h x (by omega))
    have h2 := h n (by omega)
    rw [msum, msum]
    by_cases e : y = n
    · subst e; omega
    · have := msum_lt n (fun x hx => h x (by omega)) y (by omega) hl; omega
theorem msum_same {f g : Nat → Nat} : ∀ n, (∀ x, x < n → f x = g x) → msum f n = msum g n
  | 0, _ => rfl
  | n + 1, h => by rw [msum, msum, msum_same n (fun x hx => h x (by omega)), h n (by omega)]
theorem msum_top {f : Nat → Nat} {B : Nat} : ∀ n, (∀ x, x < n → f x < B) → msum f n ≤ n * B
  | 0, _ => by simp [msum]
  | n + 1, h => by have := msum_top n (fun x hx => h x (by omega)); have := h n (by omega); rw [msum, Nat.succ_mul]; omega
def mleft2 (mo : Value) (w : World) (gx : Nat → Nat) (n : Nat) : Nat := match mo with
  | .bool true => 1 + (n * 2 ^ n - msum (fun x => mrd w (gx x) n) n)
  | _ => 0
theorem MaAt.sum {w : World} {gM n : Nat} {gx S : Nat → Nat} (h : MaAt w gM n gx S) (hS : ∀ x, x < n → S x < 2 ^ n) : msum (fun x => mrd w (gx x) n) n = msum S n := msum_same n fun x hx => mrd_is (h.r x hx) (hS x hx)
theorem fis_pow {n nul : Nat} {S : Nat → Nat} (hS : ∀ x, x < n → S x < 2 ^ n) : ∀ l : List Int, (∀ x ∈ l, ∃ s : Nat, x = (s : Int) ∧ s < n) → fiS (gsN n nul S) l < 2 ^ n
  | [], _ => Nat.two_pow_pos n
  | x :: l, h => by
    obtain ⟨s, rfl, hs⟩ := h x (List.mem_cons_self ..)
    rw [fiS]
    refine Nat.or_lt_two_pow (by show S (s : Int).toNat < _; rw [Int.toNat_natCast]; exact hS s hs) ?_
    split
    · exact fis_pow hS l fun y hy => h y (List.mem_cons_of_mem _ hy)
    · exact Nat.two_pow_pos n
theorem symL_mem {n : Nat} {l : List Int} (h : SymL n l) : ∀ x ∈ l, ∃ s : Nat, x = (s : Int) ∧ s < n := fun x hx => by
  obtain ⟨j, hj, e⟩ := List.getElem_of_mem hx
  obtain ⟨s, h1, h2⟩ := h j hj
  exact ⟨s, by rw [← e, ← h1, List.getD_eq_getElem?_getD, List.getElem?_eq_getElem hj]; rfl, h2⟩
/-- One pass over the first k rules: what begins right sides begins left ones. -/
def spTo (R : Rus) (n nul : Nat) (S : Nat → Nat) : Nat → Nat → Nat
  | 0 => S
  | k + 1 => upd (spTo R n nul S k) (R.getD k (0, [])).1 (spTo R n nul S k (R.getD k (0, [])).1 ||| fiS (gsN n nul (spTo R n nul S k)) (R.getD k (0, [])).2)
def spIt (R : Rus) (n nul : Nat) (S : Nat → Nat) : Nat → Nat → Nat
  | 0 => S
  | j + 1 => spTo R n nul (spIt R n nul S j) R.length
def SpIs (R : Rus) (n nul T : Nat) (X : Nat → Nat) : Prop := ∃ j, X = spIt R n nul (biS T) j ∧ ∀ x, x < n → spTo R n nul X R.length x = X x
theorem sp_pow {R : Rus} {n : Nat} (hR : RuOk R n) (nul : Nat) {S : Nat → Nat} (hS : ∀ x, x < n → S x < 2 ^ n) : ∀ k, k ≤ R.length → ∀ x, x < n → spTo R n nul S k x < 2 ^ n
  | 0, _, x, hx => hS x hx
  | k + 1, hk, x, hx => by
    have ih := sp_pow hR nul hS k (by omega)
    rw [spTo]
    by_cases e : x = (R.getD k (0, [])).1
    · rw [e, upd_same]
      exact Nat.or_lt_two_pow (ih _ (hR k (by omega)).1) (fis_pow ih _ (symL_mem (hR k (by omega)).2.2))
    · rw [upd_other e]; exact ih x hx
theorem bi_pow {T n : Nat} : ∀ x, x < n → biS T x < 2 ^ n := fun x hx => by
  unfold biS; split
  · exact Nat.pow_lt_pow_right (by decide) hx
  · exact Nat.two_pow_pos n
theorem spIt_pow {R : Rus} {n : Nat} (hR : RuOk R n) (nul T : Nat) : ∀ j x, x < n → spIt R n nul (biS T) j x < 2 ^ n
  | 0 => bi_pow
  | j + 1 => sp_pow hR nul (spIt_pow hR nul T j) _ (Nat.le_refl _)
theorem sp_ge (R : Rus) (n nul : Nat) (S : Nat → Nat) (x : Nat) : ∀ k, S x ≤ spTo R n nul S k x
  | 0 => Nat.le_refl _
  | k + 1 => by
    have := sp_ge R n nul S x k
    rw [spTo]
    by_cases e : x = (R.getD k (0, [])).1
    · rw [e] at this ⊢; rw [upd_same]; exact Nat.le_trans this Nat.left_le_or
    · rw [upd_other e]; exact this
theorem Tryd.info43d : (Tryd.prog.info? 43).map (fun i => (i.zero, i.size, i.bytes)) = some (some (.slice none 0 0), 1, 24) := by kernel_rfl
theorem Tryd.under101d : Tryd.prog.underlying 101 = some (.slice 43) := by kernel_rfl
/-- Rows that are made so far. -/
def mpC (n k : Nat) (gx : Nat → Nat) : Array Value := ((List.range n).map (fun x => if x < k then Value.slice (some ⟨gx x, 0, none⟩) n n else .slice none 0 0)).toArray
theorem mp_get {n k : Nat} {gx : Nat → Nat} {x : Nat} (h : x < n) : (mpC n k gx)[x]? = some (if x < k then Value.slice (some ⟨gx x, 0, none⟩) n n else .slice none 0 0) := by
  unfold mpC
  rw [List.getElem?_toArray, List.getElem?_map, List.getElem?_range h]; rfl
theorem mp_size (n k : Nat) (gx : Nat → Nat) : (mpC n k gx).size = n := by unfold mpC; simp
theorem mp_made (n : Nat) (gx : Nat → Nat) : madeCells #[Value.slice none 0 0] n = mpC n 0 gx := by
  apply Array.ext_getElem?
  intro i
  by_cases h : i < n
  · rw [mp_get h, if_neg (by omega)]
    simp [madeCells, h, Nat.mod_one]
  · have e : (mpC n 0 gx)[i]? = none := Array.getElem?_eq_none (by rw [mp_size]; omega)
    rw [e]
    simp [madeCells, h]
theorem mp_put {n k g : Nat} {gx : Nat → Nat} (h : k < n) : (mpC n k gx).setIfInBounds k (.slice (some ⟨g, 0, none⟩) n n) = mpC n (k + 1) (upd gx k g) := by
  apply Array.ext_getElem?
  intro j
  rw [Array.getElem?_setIfInBounds]
  by_cases hj : j < n
  · rw [mp_get hj, mp_get hj]
    by_cases e : k = j
    · subst e; rw [if_pos rfl, if_pos (by rw [mp_size]; exact h), if_pos (by omega), upd_same]
    · rw [if_neg e, upd_other (fun e2 => e e2.symm)]
      by_cases hk : j < k
      · rw [if_pos hk, if_pos (by omega)]
      · rw [if_neg hk, if_neg (by omega)]
  · rw [Array.getElem?_eq_none (by rw [mp_size]; omega), Array.getElem?_eq_none (by rw [mp_size]; omega)]
    split
    · rw [if_neg (by rw [mp_size]; omega)]
    · rfl
theorem mp_all (n : Nat) (gx : Nat → Nat) : mpC n n gx = maC n gx := by
  unfold mpC maC
  congr 1
  apply List.map_congr_left
  intro x hx
  rw [if_pos (List.mem_range.1 hx)]
theorem make_rows (n : Nat) (hn : n ≤ 1048576) (gx : Nat → Nat) (w : World) : (Instr.makeSlice 101 (.int .i64 (n : Int)) (.int .i64 (n : Int))).run Tryd.prog w = .ok (.slice (some ⟨w.heap.size, 0, none⟩) n n) (w.alloc (.cells (mpC n 0 gx) (43 : TypeId))) := by
  rw [run_make_row' 101 43 (.slice none 0 0) 24 Tryd.under101d Tryd.info43d rfl .i64 .i64 n (by omega) (by omega) w, mp_made n gx]
section
variable {w : World} {p : Nat} {a0 : Option Addr} {k0 : Nat} {a1 : Option Addr} {k1 gr og cr : Nat} {T O : List Tx} {R : Rus} {s : Int}
set_option maxRecDepth 100000 in
set_option maxHeartbeats 800000 in
theorem refEnd_any (h : RgW w p a0 k0 a1 k1 gr og cr T O R s) : Calls Tryd.prog 73 #[.pointer (some ⟨p, 0, none⟩)] w fun e w' => e = .returned (.int .i64 (T.length : Int)) ∧ w' = w := by
  have c0 := h.c0 w (Below.refl _ _)
  clear h
  generalize T.length = t at *
  go_enter Tryd.func73, Tryd.ntmps73
  go_wp2_with fail
  go_ret
  exact ⟨rfl, rfl⟩
set_option maxRecDepth 100000 in
set_option maxHeartbeats 800000 in
theorem refTerm_any (h : RgW w p a0 k0 a1 k1 gr og cr T O R s) (x : Nat) : Calls Tryd.prog 85 #[.pointer (some ⟨p, 0, none⟩), .int .i64 (x : Int)] w fun e w' => e = .returned (.bool (decide (x < T.length + 1))) ∧ w' = w := by
  have c0 := h.c0 w (Below.refl _ _)
  clear h
  generalize T.length = t at *
  have h0 : (0 : Int) ≤ (x : Int) := by omega
  have h0d : decide ((0 : Int) ≤ (x : Int)) = true := decide_eq_true h0
  by_cases hx : x < t + 1
  · have hxi : (x : Int) ≤ (t : Int) := by omega
    have HD : Hid (decide (x < t + 1) = true) := decide_eq_true hx
    clear hx
    go_enter Tryd.func85, Tryd.ntmps85
    go_wp2_with fail
    all_goals first | exact (un_bool6 (by assumption)).elim | skip
    go_ret
    exact ⟨ret_bool HD.out.symm, rfl⟩
  · have hxi : ¬ (x : Int) ≤ (t : Int) := by omega
    have HD : Hid (decide (x < t + 1) = false) := decide_eq_false hx
    clear hx
    go_enter Tryd.func85, Tryd.ntmps85
    go_wp2_with fail
    all_goals first | exact (un_bool6 (by assumption)).elim | skip
    go_ret
    exact ⟨ret_bool HD.out.symm, rfl⟩
end
end Go.Proofs.YtgmbkelmgolkpaaDoor
/- The document's firsts. -/
namespace Go.Proofs.YtgmbkelmgolkpaaDoor
open Go.RowKit Go.Maps
set_option linter.unusedVariables false

/-- The rows that are made so far: each new, each apart. -/
structure MpAt2 (w w1 : World) (gM n k : Nat) (gx S : Nat → Nat) : Prop where
  m : CsAt w gM (mpC n k gx) 43
  r : ∀ x, x < k → CsAt w (gx x) (mkC n (S x)) 3
  b : ∀ x, x < k → gM < gx x ∧ gx x < w.heap.size
  inj : ∀ x y, x < k → y < k → gx x = gx y → x = y
theorem MpAt2.more {w w1 : World} {gM n k : Nat} {gx S : Nat → Nat} (h : MpAt2 w w1 gM n k gx S) (hk : k < n) (hg : gM < w.heap.size) : MpAt2 ((w.alloc (.cells (mkC n 0) (3 : TypeId))).setCell ⟨gM, k, none⟩ (.slice (some ⟨w.heap.size, 0, none⟩) n n)) w1 gM n (k + 1) (upd gx k w.heap.size) (upd S k 0) := by
  have hal : Below w.heap.size w (w.alloc (.cells (mkC n 0) (3 : TypeId))) := (Below.refl _ _).alloc (Nat.le_refl _) _
  have hsz : ((w.alloc (.cells (mkC n 0) (3 : TypeId))).setCell ⟨gM, k, none⟩ (.slice (some ⟨w.heap.size, 0, none⟩) n n)).heap.size = w.heap.size + 1 := by simp
  refine ⟨?_, fun x hx => ?_, fun x hx => ?_, fun x y hx hy e => ?_⟩
  · have := (h.m.next hal).put k (.slice (some ⟨w.heap.size, 0, none⟩) n n)
    rwa [mp_put hk] at this
  · by_cases e : x = k
    · subst e
      rw [upd_same, upd_same]
      exact (heap_setCell_other _ ⟨gM, _, none⟩ w.heap.size _ (by show w.heap.size ≠ gM; omega)).trans cs_alloc
    · rw [upd_other e, upd_other e]
      have hb := h.b x (by omega)
      exact (heap_setCell_other _ ⟨gM, k, none⟩ (gx x) _ (by show gx x ≠ gM; omega)).trans ((h.r x (by omega)).next hal)
  · rw [hsz]
    by_cases e : x = k
    · subst e; rw [upd_same]; omega
    · rw [upd_other e]; have := h.b x (by omega); omega
  · by_cases ex : x = k
    · by_cases ey : y = k
      · omega
      · subst ex
        rw [upd_same, upd_other ey] at e
        have := h.b y (by omega); omega
    · by_cases ey : y = k
      · subst ey
        rw [upd_same, upd_other ex] at e
        have := h.b x (by omega); omega
      · rw [upd_other ex, upd_other ey] at e
        exact h.inj x y (by omega) (by omega) e
theorem MpAt2.mark {w w1 : World} {gM n k x D : Nat} {gx S : Nat → Nat} (h : MpAt2 w w1 gM n k gx S) (hx : x < k) (hD : S x = D) {i : Nat} (hi : i < n) : MpAt2 (w.setCell ⟨gx x, i, none⟩ (.int .i64 1)) w1 gM n k gx (upd S x (D ||| 2 ^ i)) := by
  subst hD
  have hb := h.b x hx
  refine ⟨(heap_setCell_other w ⟨gx x, i, none⟩ gM _ (by show gM ≠ gx x; omega)).trans h.m, fun y hy => ?_, fun y hy => by rw [show (w.setCell ⟨gx x, i, none⟩ (.int .i64 1)).heap.size = w.heap.size by simp]; exact h.b y hy, h.inj⟩
  by_cases e : y = x
  · subst e; rw [upd_same]; exact cs_mark (h.r y hy) hi
  · rw [upd_other e]
    exact (heap_setCell_other w ⟨gx x, i, none⟩ (gx y) _ (fun e2 => e (h.inj y x hy hx e2))).trans (h.r y hy)
theorem MpAt2.same {w w1 : World} {gM n k : Nat} {gx S S' : Nat → Nat} (h : MpAt2 w w1 gM n k gx S) (hs : ∀ x, x < k → S x = S' x) : MpAt2 w w1 gM n k gx S' := ⟨h.m, fun x hx => by rw [← hs x hx]; exact h.r x hx, h.b, h.inj⟩
theorem MpAt2.all {w w1 : World} {gM n : Nat} {gx S : Nat → Nat} (h : MpAt2 w w1 gM n n gx S) : MaAt w gM n gx S := ⟨by have := h.m; rwa [mp_all] at this, h.r, h.inj⟩
theorem sp_congr (R : Rus) {n nul : Nat} (hR : RuOk R n) {S S' : Nat → Nat} (h : ∀ x, x < n → S x = S' x) : ∀ k, k ≤ R.length → ∀ x, x < n → spTo R n nul S k x = spTo R n nul S' k x
  | 0, _, x, hx => h x hx
  | k + 1, hk, x, hx => by
    have ih := sp_congr R hR (nul := nul) h k (by omega)
    have hfi : ∀ l : List Int, (∀ y ∈ l, ∃ s : Nat, y = (s : Int) ∧ s < n) → fiS (gsN n nul (spTo R n nul S k)) l = fiS (gsN n nul (spTo R n nul S' k)) l := by
      intro l
      induction l with
      | nil => intro _; rfl
      | cons y l ihl =>
        intro hy
        obtain ⟨s, rfl, hs⟩ := hy y (List.mem_cons_self ..)
        rw [fiS, fiS, ihl fun z hz => hy z (List.mem_cons_of_mem _ hz)]
        have : spTo R n nul S k (s : Int).toNat = spTo R n nul S' k (s : Int).toNat := by rw [Int.toNat_natCast]; exact ih s hs
        show spTo R n nul S k (s : Int).toNat ||| _ = spTo R n nul S' k (s : Int).toNat ||| _
        rw [this]; rfl
    rw [spTo, spTo]
    by_cases e : x = (R.getD k (0, [])).1
    · rw [e, upd_same, upd_same, ih _ (hR k (by omega)).1, hfi _ (symL_mem (hR k (by omega)).2.2)]
    · rw [upd_other e, upd_other e]; exact ih x hx
theorem bi_step (t k : Nat) : ∀ x, x < k + 1 → (if decide (k < t) = true then upd (upd (biS t) k 0) k (0 ||| 2 ^ k) else upd (biS t) k 0) x = biS t x := by
  intro x hx
  by_cases h : k < t
  · rw [if_pos (decide_eq_true h)]
    by_cases e : x = k
    · subst e; rw [upd_same, Nat.zero_or]; unfold biS; rw [if_pos h]
    · rw [upd_other e, upd_other e]
  · rw [if_neg (by rw [decide_eq_false h]; decide)]
    by_cases e : x = k
    · subst e; rw [upd_same]; unfold biS; rw [if_neg h]
    · rw [upd_other e]
section
variable {w : World} {p : Nat} {a0 : Option Addr} {k0 : Nat} {a1 : Option Addr} {k1 gr og cr : Nat} {T O : List Tx} {R : Rus} {s : Int}
set_option maxRecDepth 100000 in
set_option maxHeartbeats 6400000 in
theorem refFirsts_any (h : RgW w p a0 k0 a1 k1 gr og cr T O R s) (n : Nat) (hnn : (allN T O).length = n) (hn : n ≤ 128) (hR : RuOk R n) (hrl : R.length ≤ 128) : Calls Tryd.prog 71 #[.pointer (some ⟨p, 0, none⟩)] w fun e w' => ∃ gM gx nul S, e = .returned (.slice (some ⟨gM, 0, none⟩) n n) ∧ MaAt w' gM n gx S ∧ GrIs R 0 nul ∧ SpIs R n nul (T.length + 1) S ∧ w.heap.size ≤ gM ∧ (∀ x, x < n → w.heap.size ≤ gx x) ∧ (∀ x, x < n → S x < 2 ^ n) ∧ Below w.heap.size w w' := by
  have HG := hidD h
  have HRO := hidD hR
  have HPW := hidD (fun nul j => spIt_pow hR nul (T.length + 1) j)
  have HPX := hidD (fun nul (S : Nat → Nat) hS k hk => sp_pow hR nul (S := S) hS k hk)
  have HN0 : Hid (∀ nul (S : Nat → Nat) k, spTo R n nul S (k + 1) = upd (spTo R n nul S k) (R.getD k (0, [])).1 (spTo R n nul S k (R.getD k (0, [])).1 ||| fiS (gsN n nul (spTo R n nul S k)) (R.getD k (0, [])).2)) := fun _ _ _ => rfl
  have HG0 : Hid (∀ nul (S : Nat → Nat), spTo R n nul S 0 = S) := fun _ _ => rfl
  have HNJ0 : Hid (∀ nul j, spIt R n nul (biS (T.length + 1)) (j + 1) = spTo R n nul (spIt R n nul (biS (T.length + 1)) j) R.length) := fun _ _ => rfl
  have hmk := make_marks n (by omega)
  have hmr := make_rows n (by omega) (fun _ => 0)
  have HSY := hidD (refSymbols_any h (by rw [allN_len] at hnn; omega))
  rw [hnn] at HSY
  have HTE := hidD (fun (w' : World) (hb : Below w.heap.size w w') x => refTerm_any (h.next hb) x)
  have HNUL := hidD (fun (w' : World) (hb : Below w.heap.size w w') => refNulls_any (h.next hb) n hnn hn hR hrl)
  have HWA : Hid (∀ (w1 : World) o, Below w1.heap.size w1 (w1.alloc o)) := fun w1 o => (Below.refl _ _).alloc (Nat.le_refl _) o
  have HBS := hidD (fun k => bi_step (T.length + 1) k)
  clear h hR hnn
  generalize hrn : R.length = rn at *
  have HRN := hidD hrn
  clear hrn
  generalize htn : T.length + 1 = tn at *
  clear htn
  go_enter Tryd.func71, Tryd.ntmps71
  go_wp2_with (go_at_call 27; refine HSY.out.mono ?_; rintro e w1 ⟨rfl, hb1⟩; have HB1 := hidD hb1; clear hb1)
  have HC0 : Hid (CsAt (w1.alloc (.cells (mpC n 0 (fun _ => 0)) (43 : TypeId))) w1.heap.size (mpC n 0 (fun _ => 0)) 43) := heap_alloc_new _ _
  have HB0 := hidD (HWA.out w1 (.cells (mpC n 0 (fun _ => 0)) (43 : TypeId)))
  clear hmr
  generalize hwa : w1.alloc (.cells (mpC n 0 (fun _ => 0)) (43 : TypeId)) = wa at *
  clear hwa
  obtain ⟨gM, hg⟩ : ∃ g, g = w1.heap.size := ⟨_, rfl⟩
  rw [← hg] at HC0 ⊢
  have HGB : Hid (w1.heap.size ≤ gM) := Nat.le_of_eq hg.symm
  clear hg
  go_loopw [5] (fun i wr => ∃ (k : Nat) (gx : Nat → Nat), k ≤ n ∧ i = .int .i64 (k : Int) ∧ MpAt2 wr w1 gM n k gx (biS tn) ∧ Below w1.heap.size w1 wr) (fun i _ => n - (intOf i).toNat)
  case atStart => exact ⟨0, fun _ => 0, Nat.zero_le _, rfl, ⟨HC0.out, fun x hx => absurd hx (by omega), fun x hx => absurd hx (by omega), fun x y hx => absurd hx (by omega)⟩, HB0.out⟩
  case round =>
    obtain ⟨k, gx, hk, rfl, hmp, hbel⟩ := hrel
    have HMP := hidD hmp
    have HBR := hidD hbel
    have HGL : Hid (gM < wr.heap.size) := hmp.m.lt
    clear hmp hbel
    by_cases hlt : k < n
    · have hlti : (k : Int) < (n : Int) := by omega
      have HMO := hidD (HMP.out.more hlt HGL.out)
      have HALB := hidD (HWA.out wr (.cells (mkC n 0) (3 : TypeId)))
      have fM : (wr.alloc (.cells (mkC n 0) (3 : TypeId))).cell? ⟨gM, k, none⟩ = some (.slice none 0 0) := ((HMP.out.m.next HALB.out).cell k).trans ((mp_get hlt).trans (by rw [if_neg (Nat.lt_irrefl k)]))
      have fz : (wr.alloc (.cells (mkC n 0) (3 : TypeId))).frozen? ⟨gM, k, none⟩ = false := (HMP.out.m.next HALB.out).frz k
      have HB2 := hidD ((Below.next HBR.out HALB.out).setCell (p := ⟨gM, k, none⟩) (show w1.heap.size ≤ gM from HGB.out) (.slice (some ⟨wr.heap.size, 0, none⟩) n n))
      have HBST := hidD (HBS.out k)
      go_upto_region 7 with fail
      clear fM fz
      generalize hw2 : (wr.alloc (.cells (mkC n 0) (3 : TypeId))).setCell ⟨gM, k, none⟩ (.slice (some ⟨wr.heap.size, 0, none⟩) n n) = w2 at *
      clear hw2
      generalize hgk : wr.heap.size = gk at *
      clear hgk
      have HT2 := hidD (HTE.out w2 (Below.next HB1.out HB2.out) k)
      cases hb : decide (k < tn) with
      | true =>
        rw [hb] at HT2
        have HBX : Hid (∀ x, x < k + 1 → upd (upd (biS tn) k 0) k (0 ||| 2 ^ k) x = biS tn x) := fun x hx => by have := HBST.out x hx; rwa [if_pos hb] at this
        clear hb
        have f5 : w2.cell? ⟨gM, k, none⟩ = some (.slice (some ⟨gk, 0, none⟩) n n) := (HMO.out.m.cell k).trans ((mp_get hlt).trans (by rw [if_pos (Nat.lt_succ_self k), upd_same]))
        have HRK : Hid (CsAt w2 gk (mkC n 0) 3) := by have := HMO.out.r k (Nat.lt_succ_self k); rwa [upd_same, upd_same] at this
        have f6 : w2.cell? ⟨gk, k, none⟩ = some (mkV 0 k) := (HRK.out.cell k).trans (mk_get hlt)
        rw [mkV_zero] at f6
        have fz : w2.frozen? ⟨gk, k, none⟩ = false := HRK.out.frz k
        have HM3 := hidD ((HMO.out.mark (Nat.lt_succ_self k) (upd_same _ _ _) hlt).same HBX.out)
        rw [upd_same] at HM3
        have HGK : Hid (w1.heap.size ≤ gk) := by have := HMO.out.b k (Nat.lt_succ_self k); rw [upd_same] at this; have := HGB.out; show _ ≤ _; omega
        have HB3 := hidD (HB2.out.setCell (p := ⟨gk, k, none⟩) (show w1.heap.size ≤ gk from HGK.out) (.int .i64 1))
        go_wp2_with (go_at_call 85; refine HT2.out.mono ?_; rintro e w9 ⟨rfl, hw9⟩; subst w9)
        go_roundw
        case rel => exact ⟨k + 1, _, by omega, by go_num, HM3.out, HB3.out⟩
        case measure => simp [intOf]; omega
      | false =>
        rw [hb] at HT2
        have HBX : Hid (∀ x, x < k + 1 → upd (biS tn) k 0 x = biS tn x) := fun x hx => by have := HBST.out x hx; rwa [if_neg (by rw [hb]; decide)] at this
        clear hb
        have HM3 := hidD (HMO.out.same HBX.out)
        go_wp2_with (go_at_call 85; refine HT2.out.mono ?_; rintro e w9 ⟨rfl, hw9⟩; subst w9)
        go_roundw
        case rel => exact ⟨k + 1, _, by omega, by go_num, HM3.out, HB2.out⟩
        case measure => simp [intOf]; omega
    · obtain rfl : k = n := by omega
      have hnni : ¬ (k : Int) < (k : Int) := by omega
      have HMA := hidD HMP.out.all
      have HGX : Hid (∀ x, x < k → w1.heap.size ≤ gx x) := fun x hx => by have := (HMP.out.b x hx).1; have := HGB.out; omega
      have HNC := hidD (HNUL.out wr (Below.next HB1.out HBR.out))
      obtain ⟨wL, hwL⟩ : ∃ wL, wL = wr := ⟨_, rfl⟩
      subst hwL
      have HGXL : Hid (∀ x, x < k → gx x < wL.heap.size) := fun x hx => (HMP.out.b x hx).2
      clear HMP HGL hmk
      go_wp2_with (go_at_call 67; refine HNC.out.mono ?_; rintro e w3 ⟨gn, nul, rfl, hcn, hgi, hgn, hb3⟩; have HCN := hidD hcn; have HGI := hidD hgi; have HGN := hidD hgn; have HM3 := hidD (HMA.out.next hb3); have HB3 := hidD (Below.next HBR.out hb3); clear hcn hgi hgn hb3)
      have HGNX : Hid (∀ x, x < k → gn ≠ gx x) := fun x hx => by have := HGXL.out x hx; have := HGN.out; omega
      have HPJ := hidD (HPW.out nul)
      have HPS := hidD (HPX.out nul)
      have HNX := hidD (HN0.out nul)
      have HS0 := hidD (HG0.out nul)
      have HNJ1 := hidD (HNJ0.out nul)
      clear HPW HPX HN0 HG0 HNJ0
      go_loopw [7, 8] (fun x _ wr => ∃ (j : Nat) (b : Bool), x = .bool b ∧ MaAt wr gM k gx (spIt R k nul (biS tn) j) ∧ CsAt wr gn (mkC k nul) 3 ∧ (b = false → ∀ x, x < k → spTo R k nul (spIt R k nul (biS tn) j) R.length x = spIt R k nul (biS tn) j x) ∧ Below w1.heap.size w1 wr) (fun x _ wr => mleft2 x wr gx k)
      case atStart => exact ⟨0, true, rfl, HM3.out, HCN.out, fun h => (by cases h), HB3.out⟩
      case round =>
        obtain ⟨j, b, rfl, hma, hcn, hst, hbel⟩ := hrel
        have HST := hidD hst
        have HMJ := hidD hma
        have HCJ := hidD hcn
        have HBJ := hidD hbel
        have HPB := hidD (HPJ.out j)
        have HNJ := hidD (HNJ1.out j)
        clear hma hcn hst hbel
        cases b with
        | false =>
          have HSI : Hid (SpIs R k nul tn (spIt R k nul (biS tn) j)) := ⟨j, rfl, HST.out rfl⟩
          go_wp2_with fail
          refine bodyPost_ret (v := .slice (some ⟨gM, 0, none⟩) k k) (by simp [results, Tryd.results71, go_sem]) rfl ?_
          have hw := HB1.out.size
          exact ⟨gM, rfl, gx, nul, _, HMJ.out, HGI.out, HSI.out, Nat.le_trans hw HGB.out, fun x hx => Nat.le_trans hw (HGX.out x hx), HPB.out, Below.next HB1.out HBJ.out⟩
        | true =>
          clear HST
          generalize hM0 : spIt R k nul (biS tn) j = S0 at *
          clear hM0
          have HSUM := hidD (HMJ.out.sum HPB.out)
          obtain ⟨wo, hwo⟩ : ∃ wo, wo = wr := ⟨_, rfl⟩
          subst hwo
          go_wp2_with fail
          go_loopw [7, 8] (fun x i wr => ∃ (q : Nat) (b : Bool), q ≤ rn ∧ i = .int .i64 (q : Int) ∧ x = .bool b ∧ MaAt wr gM k gx (spTo R k nul S0 q) ∧ CsAt wr gn (mkC k nul) 3 ∧ (b = false → ∀ x, x < k → spTo R k nul S0 q x = S0 x) ∧ (b = true → msum S0 k < msum (spTo R k nul S0 q) k) ∧ Below w1.heap.size w1 wr) (fun _ i _ => rn - (intOf i).toNat)
          case atStart => exact ⟨0, false, Nat.zero_le _, rfl, rfl, by rw [HS0.out]; exact HMJ.out, HCJ.out, fun _ x _ => by rw [HS0.out], fun h => (by cases h), HBJ.out⟩
          case round =>
            obtain ⟨q, b, hq, rfl, rfl, hma, hcn, hbf, hbt, hbel⟩ := hrel
            have HMQ := hidD hma
            have HCQ := hidD hcn
            have HBF := hidD hbf
            have HBT := hidD hbt
            have HBR2 := hidD hbel
            have HBW := hidD (Below.next HB1.out hbel)
            have f2 := HG.out.c2 wr HBW.out
            rw [HRN.out] at f2
            clear hma hcn hbf hbt hbel
            by_cases hqt : q < rn
            · have hqti : (q : Int) < (rn : Int) := by omega
              have f3 := HG.out.lf wr HBW.out q (by rw [HRN.out]; exact hqt)
              obtain ⟨ar, cr2, hrt⟩ := HG.out.rt q (by rw [HRN.out]; exact hqt)
              obtain ⟨f4, hil⟩ := hrt wr HBW.out
              obtain ⟨hlf, hrl2, hrs⟩ := HRO.out q (by rw [HRN.out]; exact hqt)
              have HNQ := hidD (HNX.out S0 q)
              have HPQ := hidD (HPS.out S0 HPB.out q (by omega))
              have f5 : wr.cell? ⟨gM, (R.getD q (0, [])).1, none⟩ = some (.slice (some ⟨gx (R.getD q (0, [])).1, 0, none⟩) k k) := (HMQ.out.m.cell _).trans (ma_get hlf)
              have hgxl := HGX.out _ hlf
              have HMD : Hid (MaAt wr.drew gM k gx (spTo R k nul S0 q)) := ⟨HMQ.out.m, HMQ.out.r, HMQ.out.inj⟩
              have HCD : Hid (CsAt wr.drew gn (mkC k nul) 3) := HCQ.out
              have HBD := hidD HBR2.out.drew
              have HBWD := hidD HBW.out.drew
              have HBG := hidD (refBegins_any k nul (spTo R k nul S0 q (R.getD q (0, [])).1) gM gn (gx (R.getD q (0, [])).1) gx (spTo R k nul S0 q) (by omega) HPQ.out (R.getD q (0, [])).2 hrl2 hrs (.slice ar (R.getD q (0, [])).2.length cr2) wr.drew HMD.out.m (HMD.out.ne hlf) HMD.out.r (fun x hx e => by rw [HMD.out.inj x _ hx hlf e]) HCD.out (HGNX.out _ hlf) (HMD.out.r _ hlf) (fun w' hb => (hrt w' (Below.trans HBWD.out (hb.bel.mono (Nat.le_trans HB1.out.size hgxl)))).2))
              have HPQN := hidD (HPS.out S0 HPB.out (q + 1) (by omega))
              have HMON := hidD (fun x => sp_ge R k nul S0 x q)
              have HGXQ : Hid (w1.heap.size ≤ gx (R.getD q (0, [])).1) := hgxl
              clear hrt hil hrs hgxl
              have HPOST : Hid (∀ w', CsAt w' (gx (R.getD q (0, [])).1) (mkC k (spTo R k nul S0 q (R.getD q (0, [])).1 ||| fiS (gsN k nul (spTo R k nul S0 q)) (R.getD q (0, [])).2)) 3 → But (gx (R.getD q (0, [])).1) wr.drew w' → MaAt w' gM k gx (spTo R k nul S0 (q + 1)) ∧ CsAt w' gn (mkC k nul) 3 ∧ Below w1.heap.size w1 w') := fun w' h1 h2 => ⟨by rw [HNQ.out]; exact HMD.out.but hlf h2 h1, But.cs HCD.out h2 (HGNX.out _ hlf), HBD.out.trans (h2.bel.mono HGXQ.out)⟩
              have HSAME : Hid (spTo R k nul S0 q (R.getD q (0, [])).1 ||| fiS (gsN k nul (spTo R k nul S0 q)) (R.getD q (0, [])).2 = spTo R k nul S0 q (R.getD q (0, [])).1 → ∀ x, spTo R k nul S0 (q + 1) x = spTo R k nul S0 q x) := fun h x => by
                rw [HNQ.out]
                by_cases e : x = (R.getD q (0, [])).1
                · rw [e, upd_same, h]
                · rw [upd_other e]
              have HGROW : Hid (¬ (spTo R k nul S0 q (R.getD q (0, [])).1 ||| fiS (gsN k nul (spTo R k nul S0 q)) (R.getD q (0, [])).2 = spTo R k nul S0 q (R.getD q (0, [])).1) → msum S0 k < msum (spTo R k nul S0 (q + 1)) k) := fun h => by
                refine msum_lt k (fun x _ => sp_ge R k nul S0 x (q + 1)) _ hlf ?_
                rw [HNQ.out, upd_same]
                have h1 := HMON.out (R.getD q (0, [])).1
                have h2 : spTo R k nul S0 q (R.getD q (0, [])).1 ≤ spTo R k nul S0 q (R.getD q (0, [])).1 ||| fiS (gsN k nul (spTo R k nul S0 q)) (R.getD q (0, [])).2 := Nat.left_le_or
                omega
              have HMSUM : Hid ((∀ x, spTo R k nul S0 (q + 1) x = spTo R k nul S0 q x) → msum (spTo R k nul S0 (q + 1)) k = msum (spTo R k nul S0 q) k) := fun h => msum_same k fun x _ => h x
              generalize fiS (gsN k nul (spTo R k nul S0 q)) (R.getD q (0, [])).2 = FF at *
              generalize (R.getD q (0, [])).2.length = nr at *
              generalize hSL : spTo R k nul S0 q (R.getD q (0, [])).1 = DL at *
              clear hSL
              generalize hgt : gx (R.getD q (0, [])).1 = gt at *
              clear hgt
              generalize hLf : (R.getD q (0, [])).1 = lf at *
              clear hLf
              have hlfi : (lf : Int) < (k : Int) := by omega
              have g2 : ∀ i : KB wr [p, gr, gM], i.v.cell? ⟨p, 2, none⟩ = some (.slice (some ⟨gr, og, none⟩) rn cr) := fun i => (i.cell (b := p) (by simp) _).trans f2
              have g3 : ∀ i : KB wr [p, gr, gM], i.v.cell? ⟨gr, og + q * 2, none⟩ = some (.int .i64 (lf : Int)) := fun i => (i.cell (b := gr) (by simp) _).trans f3
              have g4 : ∀ i : KB wr [p, gr, gM], i.v.cell? ⟨gr, og + q * 2 + 1, none⟩ = some (.slice ar nr cr2) := fun i => (i.cell (b := gr) (by simp) _).trans f4
              have g5 : ∀ i : KB wr [p, gr, gM], i.v.cell? ⟨gM, lf, none⟩ = some (.slice (some ⟨gt, 0, none⟩) k k) := fun i => (i.cell (b := gM) (by simp) _).trans f5
              go_wp2_with fail
              clear f2 f3 f4 f5
              refine wp_region_seg [0, 0, 0, 0, 0, 0, 0, 0, 0, 0, 0, 0, 0, 0, 0, 0, 0, 0, 0, 0, 0, 99, 99, 99, 99, 99] 0 21 [p, gr, gM] (by kernel_rfl) (by kernel_rfl) (by kernel_rfl) (by kernel_rfl) (by kernel_rfl) (by kernel_rfl) (by kernel_rfl) (by kernel_rfl) (fun _ _ _ _ _ h => h) ?_
              simp only [SegW, pk, Nat.reduceMul, Nat.reduceBEq, cond_true, cond_false]
              repeat (go_big_quiet_step (fail))
              refine wpQuiet_nil ?_
              by_cases heq : DL ||| FF = DL
              · have HEQ := hidD (HSAME.out heq)
                have HBB : Hid ((!decide (DL ||| FF = DL)) = false) := by show _ = _; rw [decide_eq_true heq]; rfl
                rw [HBB.out] at HBG
                have HMS := hidD (HMSUM.out HEQ.out)
                clear heq
                generalize hDF : DL ||| FF = DF at *
                clear hDF
                go_wp2_with (go_at_call 70; refine HBG.out.mono ?_; rintro e w9 ⟨rfl, hc9, hb9⟩; have HP9 := hidD (HPOST.out w9 hc9 hb9); clear hc9 hb9)
                all_goals first | exact (un_bool6 (by assumption)).elim | skip
                go_roundw
                case rel => exact ⟨q + 1, b, by omega, by go_num, rfl, HP9.out.1, HP9.out.2.1, fun h x hx => (HEQ.out x).trans (HBF.out h x hx), fun h => by rw [HMS.out]; exact HBT.out h, HP9.out.2.2⟩
                case measure => simp [intOf]; omega
              · have HGR := hidD (HGROW.out heq)
                have HBB : Hid ((!decide (DL ||| FF = DL)) = true) := by show _ = _; rw [decide_eq_false heq]; rfl
                rw [HBB.out] at HBG
                clear heq
                generalize hDF : DL ||| FF = DF at *
                clear hDF
                go_wp2_with (go_at_call 70; refine HBG.out.mono ?_; rintro e w9 ⟨rfl, hc9, hb9⟩; have HP9 := hidD (HPOST.out w9 hc9 hb9); clear hc9 hb9)
                all_goals first | exact (un_bool6 (by assumption)).elim | skip
                go_roundw
                case rel => exact ⟨q + 1, true, by omega, by go_num, rfl, HP9.out.1, HP9.out.2.1, fun h => (by cases h), fun _ => HGR.out, HP9.out.2.2⟩
                case measure => simp [intOf]; omega
            · obtain rfl : q = rn := by omega
              have HPF := hidD (HPS.out S0 HPB.out q (Nat.le_refl _))
              have HSF := hidD (HMQ.out.sum HPF.out)
              have HTOP := hidD (msum_top k HPF.out)
              go_wp2_with fail
              go_roundw
              case rel => exact ⟨j + 1, b, rfl, by rw [HNJ.out]; exact HMQ.out, HCQ.out, fun h x hx => by
                have hsame : ∀ y, y < k → spTo R k nul S0 q y = S0 y := HBF.out h
                rw [HNJ.out, HRN.out, sp_congr R HRO.out hsame q (by rw [HRN.out]; exact Nat.le_refl _) x hx], HBR2.out⟩
              case measure =>
                cases b with
                | false => unfold mleft2; simp only; omega
                | true =>
                  have h1 := HBT.out rfl
                  have h2 := HSF.out
                  have h3 := HSUM.out
                  have h4 := HTOP.out
                  unfold mleft2
                  simp only
                  rw [h2, h3]
                  omega
end
end Go.Proofs.YtgmbkelmgolkpaaDoor
