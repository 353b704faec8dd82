/- Texts of one proof, one behind the other. -/
import Derived.Test.YtgefampdfhbmbaaMe
import Derived.Laws.Slices
/- What the document's word answers: four bytes substituted. -/
namespace Go.Proofs.Ytgefampdfhbmbaa
open Go.RowKit
set_option linter.unusedVariables false

/-- The substitution of a document's cipher in block b. -/
def BxAt (w : World) (b gb cb : Nat) : Prop := w.cell? ⟨b, 2, none⟩ = some (.slice (some ⟨gb, 0, none⟩) 256 cb) ∧ (∀ j, j < 256 → w.cell? ⟨gb, j, none⟩ = some (.int .u8 (sbN j : Int))) ∧ b < w.heap.size ∧ gb < w.heap.size
theorem BxAt.below {B : Nat} {w w' : World} {b gb cb : Nat} (h : BxAt w b gb cb) (hb : Below B w w') (hB : w.heap.size ≤ B) : BxAt w' b gb cb := by
  obtain ⟨h0, h1, h2, h3⟩ := h
  have c : ∀ {g : Nat} (o : Nat), g < w.heap.size → w'.cell? ⟨g, o, none⟩ = w.cell? ⟨g, o, none⟩ := fun {g} o hg => hb.cell (p := ⟨g, o, none⟩) (Nat.lt_of_lt_of_le hg hB)
  have s := (hb.mono hB).size
  exact ⟨(c _ h2).trans h0, fun j hj => (c _ h3).trans (h1 j hj), by omega, by omega⟩
theorem BxAt.next {w w' : World} {b gb cb : Nat} (h : BxAt w b gb cb) (hb : Below w.heap.size w w') : BxAt w' b gb cb := h.below hb (Nat.le_refl _)
def swB (c : Nat → UInt8) (k : Nat) : UInt8 := subS (c k)
set_option maxRecDepth 100000 in
set_option maxHeartbeats 800000 in
theorem refWord_any (c : Nat → UInt8) (b gb cb : Nat) (w : World) (h : BxAt w b gb cb) : Calls Try.prog 62 #[.pointer (some ⟨b, 0, none⟩), .agg (colR c)] w fun e w' => e = .returned (.agg (colR (swB c))) ∧ Below w.heap.size w w' := by
  have HBX : Hid (∀ wr, Below w.heap.size w wr → BxAt wr b gb cb) := fun wr hb => h.next hb
  have HBL := hidD h.2.2.1
  have HGL := hidD h.2.2.2
  clear h
  obtain ⟨hz, hsz⟩ := zero_of_info Try.zero64
  obtain ⟨b1, b2, b3, b4⟩ := two_blocks w (colR c) (rowZ .u8 4 (fun _ => 0)) 64
  have W1 := hidD b1
  have W2 := hidD b2
  have W3 := hidD b3
  have W4 := hidD b4
  clear b1 b2 b3 b4
  go_enter Try.func62, Try.ntmps62
  go_wp2_with fail
  generalize hW : World.alloc _ (Obj.cells (rowZ .u8 4 (fun _ => 0)) 64) = w2 at *
  clear hW
  have V1 : Hid (RowZ w2 w.heap.size .u8 4 64 (fun i => ((c i).toNat : Int))) := W1.out
  have V2 : Hid (RowZ w2 (w.heap.size + 1) .u8 4 64 (fun _ => 0)) := W2.out
  have V3 := W3
  clear W1 W2 W3 W4
  generalize hg : w.heap.size = g at *
  have HG := hidD hg
  clear hg
  go_loopw [5] (fun i wr => ∃ k : Nat, k ≤ 4 ∧ i = .int .i64 k ∧ RowZ wr g .u8 4 64 (fun i => ((if i < k then swB c i else c i : UInt8).toNat : Int)) ∧ But g w2 wr) (fun i _ => 4 - (intOf i).toNat)
  case atStart => exact ⟨0, Nat.zero_le _, rfl, V1.out, But.refl _ _⟩
  case round =>
    obtain ⟨k, hk, rfl, hrow, hbut⟩ := hrel
    have HBU := hidD hbut
    by_cases hlt : k < 4
    · have hlti : (k : Int) < 4 := by omega
      obtain ⟨d0, d1, d2, d3⟩ := HBX.out wr (V3.out.trans hbut.bel)
      have hxl := u8_lt (c k)
      have hxli : ((c k).toNat : Int) < 256 := by omega
      have hca : ∀ i : BW wr, i.v.cell? ⟨g, k, none⟩ = some (.int .u8 ((c k).toNat : Int)) := fun i => by
        have := hrow.cell hlt
        rw [if_neg (by omega)] at this
        exact (i.below.cell (p := ⟨g, k, none⟩) hrow.lt).trans this
      have hcb : ∀ i : BW wr, i.v.cell? ⟨b, 2, none⟩ = some (.slice (some ⟨gb, 0, none⟩) 256 cb) := fun i => (i.below.cell (p := ⟨b, 2, none⟩) d2).trans d0
      have hcc : ∀ i : BW wr, i.v.cell? ⟨gb, (c k).toNat, none⟩ = some (.int .u8 ((swB c k).toNat : Int)) := fun i => by
        rw [show (swB c k).toNat = sbN (c k).toNat from sub_sb _]
        exact (i.below.cell (p := ⟨gb, (c k).toNat, none⟩) d3).trans (d1 _ hxl)
      have hfa : ∀ i : BW wr, i.v.frozen? ⟨g, k, none⟩ = false := fun i => (i.below.frozen (p := ⟨g, k, none⟩) hrow.lt).trans (hrow.frozen k)
      have HST : Hid (∀ i : BW wr, RowZ (i.v.setCell ⟨g, k, none⟩ (.int .u8 ((swB c k).toNat : Int))) g .u8 4 64 (fun i => ((if i < k + 1 then swB c i else c i : UInt8).toNat : Int))) := fun i => by
        refine ((hrow.next i.below).set hlt _).congr fun i hi => ?_
        by_cases he : i = k
        · subst he; rw [if_pos rfl, if_pos (by omega)]
        · rw [if_neg he]
          by_cases h2 : i < k
          · rw [if_pos h2, if_pos (by omega)]
          · rw [if_neg h2, if_neg (by omega)]
      have HSB : Hid (∀ (i : BW wr) v, But g w2 (i.v.setCell ⟨g, k, none⟩ v)) := fun i v => (hbut.trans (But.of i.below (Nat.le_of_lt hrow.lt))).put _ _
      clear hrow hbut d0 d1 d2 d3
      generalize ((swB c k).toNat : Int) = Z at *
      generalize (c k).toNat = X at *
      go_wp2_with fail
      refine wp_region_put (by simp) (by kernel_rfl) rfl (by kernel_rfl) (by kernel_rfl) (by kernel_rfl) ?_
      simp only [List.dropLast_cons_cons, List.dropLast_singleton, List.getLast_cons_cons, List.getLast_singleton, List.cons_append, List.nil_append, mute]
      repeat (go_big_quiet_step (fail))
      refine wpQuiet_nil ?_
      intro i
      go_wp2_with fail
      go_roundw
      case rel => exact ⟨k + 1, by omega, by go_num, HST.out _, HSB.out _ _⟩
      case measure => simp [intOf]; omega
    · obtain rfl : k = 4 := by omega
      have HL : Hid (wr.heap[g]? = some (.cells (colR (swB c)) (64 : TypeId) (0, 0))) := hrow.congr fun i hi => by rw [if_pos hi]
      have HO : Hid (wr.heap[g + 1]? = some (.cells (rowZ .u8 4 (fun _ => 0)) (64 : TypeId) (0, 0))) := (hbut.rest (g + 1) V2.out.lt (by omega)).trans V2.out
      have HONE : Hid ((colR (swB c)).all (·.oneCell') = true) := rowZ_one _ _ _
      have h4 : (colR (swB c)).size = 4 := rowZ_size _ _ _
      have h0 : (rowZ .u8 4 (fun _ => 0)).size = 4 := rowZ_size _ _ _
      have HBG : Hid (Below g w wr) := V3.out.trans hbut.bel
      clear hrow hbut
      generalize hC : colR (swB c) = C at *
      have HCE := hidD hC
      clear hC
      generalize rowZ .u8 4 (fun _ => 0) = C0 at *
      have hi : (Try.prog.info? 64).map (·.size) = some C.size := by rw [hsz, h4]
      go_wp2_with (first | (refine wpList_load_row rfl 64 _ rfl g rfl 64 C (0, 0) _ HL.out Try.underlying64 rfl hi ?_) | (refine wpList_store_row rfl 64 _ _ rfl (g + 1) C rfl rfl 64 C0 HO.out hi (by rw [h0, h4]) HONE.out ?_))
      refine bodyPost_ret (results_cell_row (P := Try.prog) (p := 4) (ty := 64) (by kernel_rfl) _ _ (g + 1) 64 C (0, 0) _ rfl (setRow_heap _ _ C0 C 64 (0, 0) HO.out) Try.underlying64 rfl hi) rfl ?_
      refine ⟨by rw [HCE.out], ?_⟩
      have hfin : Below g w (wr.setRow (g + 1) C) := below_setRow HBG.out (by omega) _
      rw [HG.out]; exact hfin
end Go.Proofs.Ytgefampdfhbmbaa
/- What the document's Pad and Unpad answer. -/
namespace Go.Proofs.Ytgefampdfhbmbaa
open Go.RowKit
set_option linter.unusedVariables false

theorem pad_more (l : List UInt8) (x : UInt8) (k : Nat) : l ++ List.replicate (k + 1) x = (l ++ List.replicate k x) ++ [x] := by
  rw [List.append_assoc, ← List.replicate_succ']
set_option maxRecDepth 100000 in
set_option maxHeartbeats 800000 in
theorem refPad_any (l : List UInt8) (hl : l.length ≤ 140737488355200) (v : Value) (w : World) (hv : ByAt w v l) : Calls Try.prog 33 #[v] w fun e w' => ∃ vo, e = .returned vo ∧ w'.ownsRow w.heap.size 5 1 vo (padS l).length ((padS l).map encB) ∧ Below w.heap.size w w' := by
  have HV : Hid (∀ wr, Below w.heap.size w wr → ByAt wr v l) := fun wr hb => hv.next hb
  have HAL : Hid (∀ (w' : World) o, Below w'.heap.size w' (w'.alloc o)) := fun w' o => (Below.refl _ _).alloc (Nat.le_refl _) o
  obtain ⟨a', cap, rfl, hsh⟩ := hv.shape
  clear hsh hv
  have HPS : Hid (padS l = l ++ List.replicate (padN l.length) (UInt8.ofNat (padN l.length))) := rfl
  have hpn : (16 : Int) - (l.length : Int) % 16 = ((padN l.length : Nat) : Int) := by unfold padN; omega
  have HPN : Hid (padN l.length ≤ 16) := by show _ ≤ _; unfold padN; omega
  have hu8 : ((padN l.length : Nat) : Int) = ((UInt8.ofNat (padN l.length)).toNat : Int) := by have := HPN.out; rw [u8_nat (by omega)]
  have HBX := hidD (fun w' => by_new w' (UInt8.ofNat (padN l.length)) _ hu8)
  clear hu8
  generalize padS l = P at *
  generalize UInt8.ofNat (padN l.length) = x at *
  generalize hN : padN l.length = N at *
  clear hN
  generalize hLL : l.length = LL at *
  have HLL := hidD hLL
  have HLB := hidD hl
  clear hLL
  go_enter Try.func33, Try.ntmps33
  go_wp2_with (at_builtin; refine wpList_append_by rfl _ _ rfl w.heap.size (.slice (some ⟨w.heap.size, 0, none⟩) 0 0) 0 [] rfl (empty_ownB w) (.slice a' LL cap) l rfl (HV.out _ (HAL.out _ _)) (by have := HLL.out; have := HLB.out; omega) (by simp) ?_; intro v8 w8 hown8 hg8; have HO8 := hidD hown8; have HB8 := hidD (row_grown (empty_ownB w) (HAL.out _ _) hg8 (by simp)); clear hown8 hg8)
  go_loopw [3, 5] (fun o i wr => ∃ k : Nat, k ≤ N ∧ i = .int .i64 k ∧ wr.ownsRow w.heap.size 5 1 o (LL + k) ((l ++ List.replicate k x).map encB) ∧ Below w.heap.size w wr) (fun _ i _ => N - (intOf i).toNat)
  case atStart => exact ⟨0, Nat.zero_le _, rfl, by have := HO8.out; rw [HLL.out, Nat.zero_add, List.nil_append] at this; simpa using this, HB8.out⟩
  case round =>
    obtain ⟨k, hk, rfl, hown, hbel⟩ := hrel
    have HBL := hidD hbel
    have HOW := hidD hown
    have HWS := hidD hbel.size
    clear hown hbel
    by_cases hlt : k < N
    · have hlti : (k : Int) < (N : Int) := by omega
      have HMO := hidD (pad_more l x k)
      generalize l ++ List.replicate k x = L at *
      go_wp2_with (at_builtin; refine wpList_append_by rfl _ _ rfl w.heap.size u3 (LL + k) (L.map encB) rfl (HOW.out.alloc _) (.slice (some ⟨wr.heap.size, 0, none⟩) 1 1) [x] rfl (HBX.out wr) (by have := HPN.out; have := HLB.out; simp; omega) (by have := HWS.out; simp; omega) ?_; intro v9 w9 hown9 hg9; have HO9 := hidD hown9; have HB9 := hidD (row_grown (HOW.out.alloc _) (Below.next HBL.out (HAL.out _ _)) hg9 (by have := HWS.out; simp; omega)); clear hown9 hg9)
      go_roundw
      case rel => exact ⟨k + 1, by omega, by go_num, by rw [HMO.out, List.map_append]; exact HO9.out, HB9.out⟩
      case measure => simp [intOf]; omega
    · obtain rfl : k = N := by omega
      go_wp2_with fail
      go_ret
      refine ⟨_, rfl, ?_, HBL.out⟩
      rw [HPS.out, List.length_append, List.length_replicate, HLL.out]; exact HOW.out
end Go.Proofs.Ytgefampdfhbmbaa
/- What the document's Unpad answers. -/
namespace Go.Proofs.Ytgefampdfhbmbaa
open Go.RowKit
set_option linter.unusedVariables false

theorem unp_91 {l : List UInt8} (h : l.length = 0 ∨ l.length % 16 ≠ 0) : unpE l = 91 ∧ unpS l = [] := by
  have : unpE l = 91 := by unfold unpE; rw [if_pos h]
  exact ⟨this, by unfold unpS; rw [if_neg (by omega)]⟩
theorem unp_1 {l : List UInt8} (h : ¬ (l.length = 0 ∨ l.length % 16 ≠ 0)) (h1 : unpN l < 1 ∨ 16 < unpN l) : unpE l = 1 ∧ unpS l = [] := by
  have : unpE l = 1 := by unfold unpE; rw [if_neg h, if_pos h1]
  exact ⟨this, by unfold unpS; rw [if_neg (by omega)]⟩
theorem unp_no {l : List UInt8} (h : ¬ (l.length = 0 ∨ l.length % 16 ≠ 0)) (h1 : ¬ (unpN l < 1 ∨ 16 < unpN l)) {j : Nat} (hj : j < unpN l) (hne : (l.getD (l.length - unpN l + j) 0).toNat ≠ unpN l) : unpE l = 1 ∧ unpS l = [] := by
  have : unpE l = 1 := by
    unfold unpE
    rw [if_neg h, if_neg h1, if_neg]
    intro hh
    have := List.all_eq_true.1 hh j (by simpa using hj)
    exact hne (by simpa using this)
  exact ⟨this, by unfold unpS; rw [if_neg (by omega)]⟩
theorem unp_yes {l : List UInt8} (h : ¬ (l.length = 0 ∨ l.length % 16 ≠ 0)) (h1 : ¬ (unpN l < 1 ∨ 16 < unpN l)) (ha : ∀ j, j < unpN l → (l.getD (l.length - unpN l + j) 0).toNat = unpN l) : unpE l = 0 ∧ unpS l = l.take (l.length - unpN l) := by
  have : unpE l = 0 := by
    unfold unpE
    rw [if_neg h, if_neg h1, if_pos]
    refine List.all_eq_true.2 fun j hj => ?_
    have := ha j (by simpa using hj)
    simpa using this
  exact ⟨this, by unfold unpS; rw [if_pos this]⟩
theorem by_none (w : World) : ByAt w (.slice none 0 0) [] := .inl ⟨rfl, none, 0, rfl, fun _ => rfl⟩
set_option maxRecDepth 100000 in
set_option maxHeartbeats 800000 in
theorem refUnpad_any (l : List UInt8) (hl : l.length ≤ 281474976710656) (v : Value) (w : World) (hs : SlAt w v l) : Calls Try.prog 31 #[v] w fun e w' => ∃ vo, e = .returned (.tuple #[vo, .int .i64 (unpE l : Int)]) ∧ ByAt w' vo (unpS l) ∧ Below w.heap.size w w' := by
  have hv := hs.by'
  have HV : Hid (∀ wr, Below w.heap.size w wr → ByAt wr v l) := fun wr hb => hv.next hb
  have HAL : Hid (∀ (w' : World) o, Below w'.heap.size w' (w'.alloc o)) := fun w' o => (Below.refl _ _).alloc (Nat.le_refl _) o
  obtain ⟨a', cap, rfl, hsh⟩ := hv.shape
  obtain ⟨a2, cap2, he2, hcap, hcm⟩ := hs.shape
  cases he2
  have HSH := hidD hsh
  clear hsh hv hs
  by_cases hA : l.length = 0 ∨ l.length % 16 ≠ 0
  · obtain ⟨e1, e2⟩ := unp_91 hA
    rw [e1, e2]
    clear e1 e2
    by_cases h0 : l.length = 0
    · rw [h0] at *
      clear hA hl
      go_enter Try.func31, Try.ntmps31
      go_wp2_with fail
      refine bodyPost_ret (v := .tuple #[.slice none 0 0, .int .i64 91]) (by simp [results, Try.results31, go_sem]) rfl ?_
      exact ⟨_, rfl, by_none _, Below.refl _ _⟩
    · have h16 : ((l.length : Int) % 16 == 0) = false := by
        have : ¬ ((l.length : Int) % 16 = 0) := by omega
        simpa using this
      have h00 : ((l.length : Int) == 0) = false := by
        have : ¬ ((l.length : Int) = 0) := by omega
        simpa using this
      generalize l.length = LL at *
      clear hA h0
      go_enter Try.func31, Try.ntmps31
      go_wp2_with fail
      refine bodyPost_ret (v := .tuple #[.slice none 0 0, .int .i64 91]) (by simp [results, Try.results31, go_sem]) rfl ?_
      exact ⟨_, rfl, by_none _, Below.refl _ _⟩
  · have h0 : 0 < l.length := by omega
    have h16 : (l.length : Int) % 16 = 0 := by omega
    have h00 : ((l.length : Int) == 0) = false := by
      have : ¬ ((l.length : Int) = 0) := by omega
      simpa using this
    obtain ⟨g, off, rfl, hg, hc⟩ := HSH.out (l.length - 1) (by omega)
    have hsub : (l.length : Int) - 1 = ((l.length - 1 : Nat) : Int) := by omega
    have hlt1 : ((l.length - 1 : Nat) : Int) < (l.length : Int) := by omega
    rw [show (l.getD (l.length - 1) 0).toNat = unpN l from rfl] at hc
    have HCJ : Hid (∀ j, j < l.length → w.cell? ⟨g, off + j, none⟩ = some (.int .u8 ((l.getD j 0).toNat : Int))) := fun j hj => by
      obtain ⟨g', o', he, _, hcc⟩ := HSH.out j hj
      cases he
      exact hcc
    have HA := hidD hA
    have HLB := hidD hl
    have hNl : unpN l < 256 := (l.getD (l.length - 1) 0).toNat_lt
    by_cases hN1 : unpN l < 1
    · obtain ⟨e1, e2⟩ := unp_1 hA (.inl hN1)
      rw [e1, e2]
      clear e1 e2 hA
      have hNi : ((unpN l : Nat) : Int) < 1 := by omega
      generalize l.length - 1 = L1 at *
      generalize l.length = LL at *
      generalize unpN l = N at *
      go_enter Try.func31, Try.ntmps31
      go_wp2_with fail
      refine bodyPost_ret (v := .tuple #[.slice none 0 0, .int .i64 1]) (by simp [results, Try.results31, go_sem]) rfl ?_
      exact ⟨_, rfl, by_none _, Below.refl _ _⟩
    · have hN1i : decide (((unpN l : Nat) : Int) < 1) = false := by
        have : ¬ (((unpN l : Nat) : Int) < 1) := by omega
        simpa using this
      by_cases hN2 : 16 < unpN l
      · obtain ⟨e1, e2⟩ := unp_1 hA (.inr hN2)
        rw [e1, e2]
        clear e1 e2 hA
        have hNi : (16 : Int) < ((unpN l : Nat) : Int) := by omega
        generalize l.length - 1 = L1 at *
        generalize l.length = LL at *
        generalize unpN l = N at *
        go_enter Try.func31, Try.ntmps31
        go_wp2_with fail
        refine bodyPost_ret (v := .tuple #[.slice none 0 0, .int .i64 1]) (by simp [results, Try.results31, go_sem]) rfl ?_
        exact ⟨_, rfl, by_none _, Below.refl _ _⟩
      · have hN2i : decide ((16 : Int) < ((unpN l : Nat) : Int)) = false := by
          have : ¬ ((16 : Int) < ((unpN l : Nat) : Int)) := by omega
          simpa using this
        have HN : Hid (¬ (unpN l < 1 ∨ 16 < unpN l)) := by show ¬ _; omega
        have HNO : Hid (∀ j, j < unpN l → (l.getD (l.length - unpN l + j) 0).toNat ≠ unpN l → unpE l = 1 ∧ unpS l = []) := fun j hj hne => unp_no HA.out HN.out hj hne
        have HYE : Hid ((∀ j, j < unpN l → (l.getD (l.length - unpN l + j) 0).toNat = unpN l) → unpE l = 0 ∧ unpS l = l.take (l.length - unpN l)) := fun h => unp_yes HA.out HN.out h
        have hdif : (l.length : Int) - ((unpN l : Nat) : Int) = ((l.length - unpN l : Nat) : Int) := by omega
        have HDI : Hid (l.length - unpN l + unpN l = l.length) := by show _ = _; omega
        have HTK : Hid (∀ wr, Below w.heap.size w wr → ByAt wr (.slice (some ⟨g, off, none⟩) (l.length - unpN l) cap) (l.take (l.length - unpN l))) := fun wr hb => (HV.out wr hb).take (by omega)
        have HTL : Hid ((l.take (l.length - unpN l)).length = l.length - unpN l) := by show _ = _; simp
        have hdl : ((l.length - unpN l : Nat) : Int) ≤ (cap : Int) := by omega
        clear hA hN1 hN2 HSH HV
        generalize l.length - 1 = L1 at *
        generalize l.take (l.length - unpN l) = T at *
        generalize l.length - unpN l = D at *
        generalize hLL : l.length = LL at *
        have HLL := hidD hLL
        clear hLL
        generalize unpN l = N at *
        generalize unpE l = E at *
        generalize unpS l = U at *
        go_enter Try.func31, Try.ntmps31
        go_wp2_with fail
        go_loopw [2, 3, 5] (fun x y i wr => x = .slice none 0 0 ∧ y = .int .i64 0 ∧ wr = w ∧ ∃ k : Nat, k ≤ N ∧ i = .int .i64 ((D + k : Nat) : Int) ∧ ∀ j, j < k → (l.getD (D + j) 0).toNat = N) (fun _ _ i _ => LL - (intOf i).toNat)
        case atStart => exact ⟨rfl, rfl, rfl, 0, Nat.zero_le _, rfl, fun j hj => absurd hj (by omega)⟩
        case round =>
          obtain ⟨rfl, rfl, rfl, k, hk, rfl, hall⟩ := hrel
          have HALL := hidD hall
          clear hall
          by_cases hlt : k < N
          · have hdk : D + k < LL := by have := HDI.out; omega
            have hdki : ((D + k : Nat) : Int) < (LL : Int) := by omega
            have hck := HCJ.out (D + k) hdk
            have HNK := hidD (HNO.out k hlt)
            have HAK : Hid ((l.getD (D + k) 0).toNat = N → ∀ j, j < k + 1 → (l.getD (D + j) 0).toNat = N) := fun h j hj => by
              by_cases he : j = k
              · subst he; exact h
              · exact HALL.out j (by omega)
            have hb := u8_lt (l.getD (D + k) 0)
            generalize (l.getD (D + k) 0).toNat = B at *
            have HDK : Hid (D + k + 1 = D + (k + 1)) := by show _ = _; omega
            generalize hdke : D + k = dk at *
            have HDKE := hidD hdke
            clear hdke
            by_cases hBN : B = N
            · have HAK2 := hidD (HAK.out hBN)
              have hbi : ((B : Int) == (N : Int)) = true := by simp [hBN]
              clear hBN
              go_wp2_with fail
              go_roundw
              case rel => exact ⟨rfl, rfl, trivial, k + 1, by omega, by rw [← HDK.out]; go_num, HAK2.out⟩
              case measure => simp [intOf]; omega
            · obtain ⟨e1, e2⟩ := HNK.out hBN
              have hbi : ((B : Int) == (N : Int)) = false := by
                have : ¬ ((B : Int) = (N : Int)) := by omega
                simpa using this
              clear hBN
              subst e1 e2
              go_wp2_with fail
              refine bodyPost_ret (v := .tuple #[.slice none 0 0, .int .i64 1]) (by simp [results, Try.results31, go_sem]) rfl ?_
              exact ⟨_, rfl, by_none _, Below.refl _ _⟩
          · obtain rfl : k = N := by omega
            have hend : ¬ ((D + k : Nat) : Int) < (LL : Int) := by have := HDI.out; omega
            obtain ⟨e1, e2⟩ := HYE.out HALL.out
            subst e1 e2
            generalize D + k = dk at *
            go_wp2_with (at_builtin; refine wpList_append_fresh rfl _ _ rfl rfl (.slice (some ⟨g, off, none⟩) D cap) U rfl (HTK.out _ (Below.refl _ _)) (by have := HTL.out; have := HLB.out; omega) ?_; intro v9 w9 hsl hb9; have HS9 := hidD hsl; have HB9 := hidD hb9; clear hsl hb9)
            refine bodyPost_ret (v := .tuple #[v9, .int .i64 0]) (by simp [results, Try.results31, go_sem]) rfl ?_
            exact ⟨_, rfl, HS9.out.by', HB9.out⟩
end Go.Proofs.Ytgefampdfhbmbaa
