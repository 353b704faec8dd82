/- Texts of one proof, one behind the other. -/
import Derived.Test.YtgmbkelmgolkpabDoorNwa
import Derived.Test.YtgmbkelmgolkpabDoorStc
import Derived.Test.YtgmbkelmgolkpabDoorGf
/- What Useless answers. -/
namespace Go.Proofs.YtgmbkelmgolkpabDoor
open Go.RowKit Go.Maps
set_option linter.unusedVariables false

/-- Of the first k nonterminals those that are not in both sets. -/
def usTo (E X T : Nat) : Nat → List Int
  | 0 => []
  | k + 1 => if E.testBit (T + k) && X.testBit (T + k) then usTo E X T k else usTo E X T k ++ [((T + k : Nat) : Int)]
theorem us_len (E X T : Nat) : ∀ k, (usTo E X T k).length ≤ k
  | 0 => Nat.le_refl _
  | k + 1 => by
    have := us_len E X T k
    rw [usTo]; split
    · omega
    · rw [List.length_append, List.length_singleton]; omega
set_option maxRecDepth 100000 in
set_option maxHeartbeats 1600000 in
theorem useless_any {p : Nat} {w : World} {T O : List Tx} {st nul : Nat} {R : List (Nat × List Int)} {bg fo : Nat → Nat} (h : GfAt w p T O st R nul bg fo) : Calls Tryd.prog 8 #[.pointer (some ⟨p, 0, none⟩)] w fun e w' => ∃ E X u, e = .returned u ∧ GrIs R (utS (T.length + 1)) E ∧ ReIs R E (2 ^ st) X ∧ IlAt w' u (usTo E X (T.length + 1) O.length) ∧ Below w.heap.size w w' := by
  obtain ⟨cs, h1, ⟨nv, B, e1, e2⟩, _, h2, h3, ⟨vr, h4, h5⟩, _⟩ := h.cs
  obtain ⟨na, nc, rfl⟩ := e2.shape
  have hal : (allN T O).length = T.length + 1 + O.length := by unfold allN; simp; omega
  have hfew := h.few
  have hst := h.stl
  have f0 : w.cell? ⟨p, 0, none⟩ = some (.slice na (allN T O).length nc) := by rw [h1.cell]; exact e1
  have f2 : w.cell? ⟨p, 2, none⟩ = some (.int .i64 ((T.length : Int) + 1)) := by rw [h1.cell]; exact h2
  have f3 : w.cell? ⟨p, 3, none⟩ = some (.int .i64 (st : Int)) := by rw [h1.cell]; exact h3
  have f4 : w.cell? ⟨p, 4, none⟩ = some vr := by rw [h1.cell]; exact h4
  have hp := h1.lt
  have HUT := hidD (upTo_any (T.length + 1) (by omega) w)
  have HGR := hidD (fun w' (hb : Below w.heap.size w w') => grown_any (p := p) R _ h.ok hfew (by have := h.len; omega) (utS (T.length + 1)) (ut_top _ (by omega)) vr w' (Nat.lt_of_lt_of_le hp hb.size) ((hb.cell (p := ⟨p, 4, none⟩) hp).trans f4) (h5.next hb))
  have HRE := hidD (fun w' (hb : Below w.heap.size w w') E (hE : E < Top) => reached_any (p := p) R _ h.ok hfew (by have := h.len; omega) st (by omega) E hE vr w' (Nat.lt_of_lt_of_le hp hb.size) ((hb.cell (p := ⟨p, 3, none⟩) hp).trans f3) ((hb.cell (p := ⟨p, 4, none⟩) hp).trans f4) (h5.next hb))
  have HF0 := hidD (fun w' (hb : Below w.heap.size w w') => (hb.cell (p := ⟨p, 0, none⟩) hp).trans f0)
  have HSL := hidD (us_len)
  have HPP := hidD hp
  clear h e2 h5 h1 f4 f3 f0
  rw [hal] at HF0
  rw [show ((T.length : Int) + 1) = ((T.length + 1 : Nat) : Int) from by omega] at f2
  rw [hal] at hfew
  generalize T.length + 1 = t at *
  generalize O.length = on at *
  obtain ⟨hz, hsz⟩ := zero_of_info Tryd.zero61
  go_enter Tryd.func8, Tryd.ntmps8
  go_wp2_with first
    | (go_at_call 32; refine HUT.out.mono ?_; rintro e w1 ⟨rfl, hb⟩; have HB1 := hidD hb; clear hb)
    | (go_at_call 31; refine (HGR.out _ HB1.out).mono ?_; rintro e w2 ⟨E, rfl, hE, hgr, hb⟩; have HE := hidD hE; have HGI := hidD hgr; have HB2 := hidD (Below.next HB1.out hb); clear hE hgr hb; unfold setV; generalize hea : lw E = ea at *; generalize heb : hw E = eb at *; have HEA := hidD hea; have HEB := hidD heb; clear hea heb)
    | (go_at_call 33; have hre := HRE.out _ (Below.next HB2.out ((Below.refl _ _).alloc (Nat.le_refl _) (.cells #[.int .u64 (ea : Int), .int .u64 (eb : Int)] (61 : TypeId)))) E HE.out; unfold setV at hre; rw [HEA.out, HEB.out] at hre; refine hre.mono ?_; clear hre; rintro e w3 ⟨X, rfl, hX, hri, hb⟩; have HX := hidD hX; have HRI := hidD hri; have HC3 := hidD (CsAt.next (show CsAt _ _ #[.int .u64 (ea : Int), .int .u64 (eb : Int)] 61 from heap_alloc_new w2 (.cells #[.int .u64 (ea : Int), .int .u64 (eb : Int)] (61 : TypeId))) hb); have HB3 := hidD (Below.next (Below.next HB2.out ((Below.refl _ _).alloc (Nat.le_refl _) _)) hb); have HP3 := hidD ((HB3.out.cell (p := ⟨p, 2, none⟩) HPP.out).trans f2); clear hX hri hb; generalize hxa : lw X = xa at *; generalize hxb : hw X = xb at *; have HXA := hidD hxa; have HXB := hidD hxb; clear hxa hxb; have f3 : (w3.alloc (.cells #[.int .u64 (xa : Int), .int .u64 (xb : Int)] (61 : TypeId))).cell? ⟨p, 2, none⟩ = some (.int .i64 (t : Int)) := (((Below.refl _ _).alloc (Nat.le_refl _) _).cell (p := ⟨p, 2, none⟩) (Nat.lt_of_lt_of_le HPP.out HB3.out.size)).trans HP3.out)
  have HC4 := hidD (HC3.out.next ((Below.refl _ _).alloc (Nat.le_refl _) (.cells #[.int .u64 (xa : Int), .int .u64 (xb : Int)] (61 : TypeId))))
  have HD4 : Hid (CsAt (w3.alloc (.cells #[.int .u64 (xa : Int), .int .u64 (xb : Int)] (61 : TypeId))) w3.heap.size #[.int .u64 (xa : Int), .int .u64 (xb : Int)] 61) := heap_alloc_new _ _
  have HB4 := hidD (Below.next HB3.out ((Below.refl _ _).alloc (Nat.le_refl _) (.cells #[.int .u64 (xa : Int), .int .u64 (xb : Int)] (61 : TypeId))))
  have HF4 := hidD (HF0.out _ HB4.out)
  have HP4 : Hid (p < (w3.alloc (.cells #[.int .u64 (xa : Int), .int .u64 (xb : Int)] (61 : TypeId))).heap.size) := Nat.lt_of_lt_of_le HPP.out HB4.out.size
  generalize hW4 : w3.alloc (.cells #[.int .u64 (xa : Int), .int .u64 (xb : Int)] (61 : TypeId)) = w4 at *
  clear hW4 f3
  go_loopw [5, 6] (fun o i wr => ∃ k : Nat, k ≤ on ∧ i = .int .i64 ((t + k : Nat) : Int) ∧ wr.ownsRow w4.heap.size 3 1 o (usTo E X t k).length ((usTo E X t k).map encI) ∧ Below w4.heap.size w4 wr) (fun _ i _ => t + on - (intOf i).toNat)
  case atStart => exact ⟨0, Nat.zero_le _, rfl, World.ownsRow_nil _ _ _ _, Below.refl _ _⟩
  case round =>
    obtain ⟨k, hk, rfl, hown, hbel⟩ := hrel
    have HOW := hidD hown
    have HBW := hidD hbel
    by_cases hlt : k < on
    · have hs1 : t + k < 128 := by omega
      have hs2 : t + k < t + on := by omega
      have hs3 : ((t + k : Nat) : Int) < ((t + on : Nat) : Int) := by omega
      have f0 : wr.cell? ⟨p, 0, none⟩ = some (.slice na (t + on) nc) := (hbel.cell (p := ⟨p, 0, none⟩) HP4.out).trans HF4.out
      have fa : wr.cell? ⟨w2.heap.size, 0, none⟩ = some (.int .u64 (ea : Int)) := (hbel.cell (p := ⟨w2.heap.size, 0, none⟩) HC4.out.lt).trans (by rw [HC4.out.cell]; rfl)
      have fb : wr.cell? ⟨w2.heap.size, 1, none⟩ = some (.int .u64 (eb : Int)) := (hbel.cell (p := ⟨w2.heap.size, 1, none⟩) HC4.out.lt).trans (by rw [HC4.out.cell]; rfl)
      have HH1 := hidD (fun w' => setHas_any E HE.out (t + k) hs1 w')
      have HH2 := hidD (fun w' => setHas_any X HX.out (t + k) hs1 w')
      unfold setV at HH1 HH2
      rw [HEA.out, HEB.out] at HH1
      rw [HXA.out, HXB.out] at HH2
      have HNX : Hid (usTo E X t (k + 1) = if E.testBit (t + k) && X.testBit (t + k) then usTo E X t k else usTo E X t k ++ [((t + k : Nat) : Int)]) := rfl
      have hln := HSL.out E X t k
      have hms : t + (k + 1) = t + k + 1 := by omega
      have hms2 : t + k + 1 ≤ t + on := by omega
      clear hown hbel
      generalize hLL : usTo E X t k = LL at *
      clear hLL
      generalize hll : LL.length = ll at *
      have HLL := hidD hll
      clear hll
      obtain ⟨a5, c5, h5⟩ := row_shape HOW.out
      subst h5
      have hkl : ll ≤ 128 := by omega
      have HTK : Hid (t + k = t + k) := rfl
      generalize hs : t + k = s at *
      have HSK := hidD hs
      clear hs
      generalize htn : t + on = tn at *
      have HTN := hidD htn
      clear htn
      cases hbE : E.testBit s with
      | false =>
        rw [hbE] at HH1 HNX
        rw [Bool.false_and, if_neg (by decide)] at HNX
        clear hbE
        go_wp2_with first
          | (go_at_call 34; refine (HH1.out _).mono ?_; rintro e w5 ⟨rfl, hb5⟩; have HO5 := hidD (row_below HOW.out hb5); have HB5 := hidD (Below.next HBW.out hb5); have f5 : w5.cell? ⟨w3.heap.size, 0, none⟩ = some (.int .u64 (xa : Int)) := (HB5.out.cell (p := ⟨w3.heap.size, 0, none⟩) HD4.out.lt).trans (by rw [HD4.out.cell]; rfl); have f6 : w5.cell? ⟨w3.heap.size, 1, none⟩ = some (.int .u64 (xb : Int)) := (HB5.out.cell (p := ⟨w3.heap.size, 1, none⟩) HD4.out.lt).trans (by rw [HD4.out.cell]; rfl); clear hb5 HH1)
          | (at_builtin; refine wpList_append_int rfl _ _ rfl w4.heap.size (.slice a5 ll c5) ll (LL.map encI) rfl (HO5.out.alloc _) w5.heap.size (s : Int) rfl (new_cell1 w5 (.int .i64 (s : Int)) 3 0 _ rfl) (by omega) (by have := HB5.out.size; simp; omega) ?_; intro v8 w8 hown8 hg8; have HO8 := hidD hown8; have HB8 := hidD (row_grown (HO5.out.alloc _) (Below.next HB5.out ((Below.refl _ _).alloc (Nat.le_refl _) _)) hg8 (by have := HB5.out.size; simp; omega)); clear hown8 hg8)
        go_roundw
        case rel => exact ⟨k + 1, by omega, by go_num, by rw [HNX.out, List.length_append, List.map_append, HLL.out]; exact HO8.out, HB8.out⟩
        case measure => simp [intOf]; omega
      | true =>
        cases hbX : X.testBit s with
        | false =>
          rw [hbE] at HH1 HNX
          rw [hbX] at HH2 HNX
          rw [Bool.true_and, if_neg (by decide)] at HNX
          clear hbE hbX
          go_wp2_with first
            | (go_at_call 34; refine (HH1.out _).mono ?_; rintro e w5 ⟨rfl, hb5⟩; have HO5 := hidD (row_below HOW.out hb5); have HB5 := hidD (Below.next HBW.out hb5); have f5 : w5.cell? ⟨w3.heap.size, 0, none⟩ = some (.int .u64 (xa : Int)) := (HB5.out.cell (p := ⟨w3.heap.size, 0, none⟩) HD4.out.lt).trans (by rw [HD4.out.cell]; rfl); have f6 : w5.cell? ⟨w3.heap.size, 1, none⟩ = some (.int .u64 (xb : Int)) := (HB5.out.cell (p := ⟨w3.heap.size, 1, none⟩) HD4.out.lt).trans (by rw [HD4.out.cell]; rfl); clear hb5 HH1)
            | (go_at_call 34; refine (HH2.out _).mono ?_; rintro e w6 ⟨rfl, hb6⟩; have HO6 := hidD (row_below HO5.out hb6); have HB6 := hidD (Below.next HB5.out hb6); clear hb6 HH2)
            | (at_builtin; refine wpList_append_int rfl _ _ rfl w4.heap.size (.slice a5 ll c5) ll (LL.map encI) rfl (HO6.out.alloc _) w6.heap.size (s : Int) rfl (new_cell1 w6 (.int .i64 (s : Int)) 3 0 _ rfl) (by omega) (by have := HB6.out.size; simp; omega) ?_; intro v8 w8 hown8 hg8; have HO8 := hidD hown8; have HB8 := hidD (row_grown (HO6.out.alloc _) (Below.next HB6.out ((Below.refl _ _).alloc (Nat.le_refl _) _)) hg8 (by have := HB6.out.size; simp; omega)); clear hown8 hg8)
          go_roundw
          case rel => exact ⟨k + 1, by omega, by go_num, by rw [HNX.out, List.length_append, List.map_append, HLL.out]; exact HO8.out, HB8.out⟩
          case measure => simp [intOf]; omega
        | true =>
          rw [hbE] at HH1 HNX
          rw [hbX] at HH2 HNX
          rw [Bool.true_and, if_pos rfl] at HNX
          clear hbE hbX
          go_wp2_with first
            | (go_at_call 34; refine (HH1.out _).mono ?_; rintro e w5 ⟨rfl, hb5⟩; have HO5 := hidD (row_below HOW.out hb5); have HB5 := hidD (Below.next HBW.out hb5); have f5 : w5.cell? ⟨w3.heap.size, 0, none⟩ = some (.int .u64 (xa : Int)) := (HB5.out.cell (p := ⟨w3.heap.size, 0, none⟩) HD4.out.lt).trans (by rw [HD4.out.cell]; rfl); have f6 : w5.cell? ⟨w3.heap.size, 1, none⟩ = some (.int .u64 (xb : Int)) := (HB5.out.cell (p := ⟨w3.heap.size, 1, none⟩) HD4.out.lt).trans (by rw [HD4.out.cell]; rfl); clear hb5 HH1)
            | (go_at_call 34; refine (HH2.out _).mono ?_; rintro e w6 ⟨rfl, hb6⟩; have HO6 := hidD (row_below HO5.out hb6); have HB6 := hidD (Below.next HB5.out hb6); clear hb6 HH2)
          go_roundw
          case rel => exact ⟨k + 1, by omega, by go_num, by rw [HNX.out, HLL.out]; exact HO6.out, HB6.out⟩
          case measure => simp [intOf]; omega
    · obtain rfl : k = on := by omega
      have HIL := hidD (il_of_own hown)
      obtain ⟨a5, c5, h5⟩ := row_shape hown
      subst h5
      have f0 : wr.cell? ⟨p, 0, none⟩ = some (.slice na (t + k) nc) := (hbel.cell (p := ⟨p, 0, none⟩) HP4.out).trans HF4.out
      clear hown hbel
      generalize hLL : usTo E X t k = LL at *
      have HLL := hidD hLL
      clear hLL
      generalize hll : LL.length = ll at *
      generalize hs : t + k = s at *
      go_wp2_with fail
      refine bodyPost_ret (v := .slice a5 ll c5) (by simp [results, Tryd.results8, go_sem]) rfl ?_
      exact ⟨E, X, _, rfl, HGI.out, HRI.out, by rw [HLL.out]; exact HIL.out, Below.next HB4.out HBW.out⟩
end Go.Proofs.YtgmbkelmgolkpabDoor
/- Plain facts: what can be nothing, begins and follows goes along the rules. -/
namespace Go.Proofs.YtgmbkelmgolkpabDoor
open Go.RowKit
set_option linter.unusedVariables false

abbrev Ru := List (Nat × List Int)
theorem bit_or_left {A B : Nat} (h : A ||| B = A) {i : Nat} (hi : B.testBit i = true) : A.testBit i = true := by
  rw [← h, Nat.testBit_or, hi, Bool.or_true]
/-- Passes only add. -/
theorem gp_step (R : Ru) (M : Nat) (k : Nat) : gpTo R M k ≤ gpTo R M (k + 1) := by
  rw [gpTo]; split
  · exact Nat.left_le_or
  · exact Nat.le_refl _
theorem gp_mono (R : Ru) (M : Nat) : ∀ d k, gpTo R M k ≤ gpTo R M (k + d)
  | 0, k => Nat.le_refl _
  | d + 1, k => Nat.le_trans (gp_mono R M d k) (gp_step R M (k + d))
theorem gp_still {R : Ru} {X : Nat} (h : gpS R X = X) {k : Nat} (hk : k ≤ R.length) : gpTo R X k = X := by
  have h1 := gp_ge R X k
  have h2 := gp_mono R X (R.length - k) k
  rw [show k + (R.length - k) = R.length by omega] at h2
  have h3 : gpTo R X R.length = X := h
  omega
theorem gr_closed {R : Ru} {M X : Nat} (h : GrIs R M X) {k : Nat} (hk : k < R.length) (ha : (R.getD k (0, [])).2.all (fun x => X.testBit x.toNat) = true) : X.testBit (R.getD k (0, [])).1 = true := by
  obtain ⟨j, _, hs⟩ := h
  have h1 := gp_still hs (show k + 1 ≤ R.length by omega)
  rw [gpTo, gp_still hs (show k ≤ R.length by omega), if_pos ha] at h1
  exact bit_or_left h1 (by rw [Nat.testBit_two_pow]; simp)
theorem rp_step (R : Ru) (W M : Nat) (k : Nat) : rpTo R W M k ≤ rpTo R W M (k + 1) := by
  rw [rpTo]; split
  · exact Nat.left_le_or
  · exact Nat.le_refl _
theorem rp_mono (R : Ru) (W M : Nat) : ∀ d k, rpTo R W M k ≤ rpTo R W M (k + d)
  | 0, k => Nat.le_refl _
  | d + 1, k => Nat.le_trans (rp_mono R W M d k) (rp_step R W M (k + d))
theorem rp_still {R : Ru} {W X : Nat} (h : rpTo R W X R.length = X) {k : Nat} (hk : k ≤ R.length) : rpTo R W X k = X := by
  have h1 := rp_ge R W X k
  have h2 := rp_mono R W X (R.length - k) k
  rw [show k + (R.length - k) = R.length by omega] at h2
  omega
theorem re_closed {R : Ru} {W X : Nat} (h : rpTo R W X R.length = X) {k : Nat} (hk : k < R.length) (hl : X.testBit (R.getD k (0, [])).1 = true) (ha : (R.getD k (0, [])).2.all (fun x => W.testBit x.toNat) = true) : ∀ i, (riTo (R.getD k (0, [])).2 (R.getD k (0, [])).2.length).testBit i = true → X.testBit i = true := by
  have h1 := rp_still h (show k + 1 ≤ R.length by omega)
  rw [rpTo, rp_still h (show k ≤ R.length by omega), hl, ha, if_pos (show (true && true) = true from rfl)] at h1
  exact fun i hi => bit_or_left h1 hi
/-- What is reached within fewer is reached within more. -/
theorem re_sub {R : Ru} {W V X : Nat} (h : rpTo R V X R.length = X) (hWV : ∀ k, k < R.length → (R.getD k (0, [])).2.all (fun x => W.testBit x.toNat) = true → (R.getD k (0, [])).2.all (fun x => V.testBit x.toNat) = true) {M : Nat} (hM : ∀ i, M.testBit i = true → X.testBit i = true) : ∀ k, k ≤ R.length → ∀ i, (rpTo R W M k).testBit i = true → X.testBit i = true
  | 0, _, i, hi => hM i hi
  | k + 1, hk, i, hi => by
    have ih := re_sub h hWV hM k (by omega)
    rw [rpTo] at hi
    split at hi
    · rename_i hc
      rw [Bool.and_eq_true] at hc
      rw [Nat.testBit_or, Bool.or_eq_true] at hi
      rcases hi with hi | hi
      · exact ih i hi
      · exact re_closed h (by omega) (ih _ hc.1) (hWV k (by omega) hc.2) i hi
    · exact ih i hi
theorem re_subIt {R : Ru} {W V X : Nat} (h : rpTo R V X R.length = X) (hWV : ∀ k, k < R.length → (R.getD k (0, [])).2.all (fun x => W.testBit x.toNat) = true → (R.getD k (0, [])).2.all (fun x => V.testBit x.toNat) = true) {M : Nat} (hM : ∀ i, M.testBit i = true → X.testBit i = true) : ∀ j i, (rpIt R W M j).testBit i = true → X.testBit i = true
  | 0, i, hi => hM i hi
  | j + 1, i, hi => re_sub h hWV (re_subIt h hWV hM j) R.length (Nat.le_refl _) i hi
theorem rp_bits (R : Ru) (W M : Nat) {i : Nat} (hi : M.testBit i = true) : ∀ k, (rpTo R W M k).testBit i = true
  | 0 => hi
  | k + 1 => by
    rw [rpTo]; split
    · rw [Nat.testBit_or, rp_bits R W M hi k, Bool.true_or]
    · exact rp_bits R W M hi k
theorem rpIt_bits (R : Ru) (W M : Nat) {i : Nat} (hi : M.testBit i = true) : ∀ j, (rpIt R W M j).testBit i = true
  | 0 => hi
  | j + 1 => rp_bits R W _ (rpIt_bits R W M hi j) _
/-- What begins goes along the rules. -/
theorem bq_step (nul l : Nat) (r : List Int) (S : Nat → Nat) (x q : Nat) : bqTo nul l r S q x ≤ bqTo nul l r S (q + 1) x := by
  rw [bqTo]; split
  · by_cases h : x = l
    · rw [h, upd_same]; exact Nat.left_le_or
    · rw [upd_other h]; exact Nat.le_refl _
  · exact Nat.le_refl _
theorem bq_mono (nul l : Nat) (r : List Int) (S : Nat → Nat) (x : Nat) : ∀ d q, bqTo nul l r S q x ≤ bqTo nul l r S (q + d) x
  | 0, q => Nat.le_refl _
  | d + 1, q => Nat.le_trans (bq_mono nul l r S x d q) (bq_step nul l r S x (q + d))
theorem bp_mono (R : Ru) (nul : Nat) (S : Nat → Nat) (x : Nat) : ∀ d k, bpTo R nul S k x ≤ bpTo R nul S (k + d) x
  | 0, k => Nat.le_refl _
  | d + 1, k => Nat.le_trans (bp_mono R nul S x d k) (by
      show _ ≤ bqTo nul _ _ (bpTo R nul S (k + d)) _ x
      exact bq_ge _ _ _ _ x _)
theorem bp_still {R : Ru} {nul : Nat} {X : Nat → Nat} {x : Nat} (h : bpTo R nul X R.length x = X x) {k : Nat} (hk : k ≤ R.length) : bpTo R nul X k x = X x := by
  have h1 := bp_ge R nul X x k
  have h2 := bp_mono R nul X x (R.length - k) k
  rw [show k + (R.length - k) = R.length by omega] at h2
  omega
theorem bq_still {R : Ru} {nul : Nat} {X : Nat → Nat} {x : Nat} (h : bpTo R nul X R.length x = X x) {k : Nat} (hk : k < R.length) {q : Nat} (hq : q ≤ (R.getD k (0, [])).2.length) : bqTo nul (R.getD k (0, [])).1 (R.getD k (0, [])).2 (bpTo R nul X k) q x = X x := by
  have h1 := bq_ge nul (R.getD k (0, [])).1 (R.getD k (0, [])).2 (bpTo R nul X k) x q
  have h2 := bq_mono nul (R.getD k (0, [])).1 (R.getD k (0, [])).2 (bpTo R nul X k) x ((R.getD k (0, [])).2.length - q) q
  rw [show q + ((R.getD k (0, [])).2.length - q) = (R.getD k (0, [])).2.length by omega] at h2
  have h3 := bp_still h (show k ≤ R.length by omega)
  have h4 : bqTo nul (R.getD k (0, [])).1 (R.getD k (0, [])).2 (bpTo R nul X k) (R.getD k (0, [])).2.length x = X x := bp_still h (show k + 1 ≤ R.length by omega)
  omega
theorem bg_closed {R : Ru} {nul n : Nat} {X : Nat → Nat} (h : ∀ x, x < 128 → bpTo R nul X R.length x = X x) (hR : RuOk R n) (hn : n ≤ 128) {k : Nat} (hk : k < R.length) {q : Nat} (hq : q < (R.getD k (0, [])).2.length) (ha : ((R.getD k (0, [])).2.take q).all (fun x => nul.testBit x.toNat) = true) : ∀ i, (X ((R.getD k (0, [])).2.getD q 0).toNat).testBit i = true → (X (R.getD k (0, [])).1).testBit i = true := by
  have hl := (hR k hk).1
  obtain ⟨s, hs, hsn⟩ := (hR k hk).2.2 q hq
  have h1 := bq_still (h _ (show (R.getD k (0, [])).1 < 128 by omega)) hk (show q + 1 ≤ _ by omega)
  rw [bqTo, if_pos ha, upd_same, bq_still (h _ (show (R.getD k (0, [])).1 < 128 by omega)) hk (show q ≤ _ by omega), bq_still (h _ (show ((R.getD k (0, [])).2.getD q 0).toNat < 128 by rw [hs]; omega)) hk (show q ≤ _ by omega)] at h1
  exact fun i hi => bit_or_left h1 hi
theorem fi_sub {G : Gs} {L : Nat} {r : List Int} : ∀ {d : Nat}, d ≤ r.length → (∀ q, r.length - d ≤ q → q < r.length → (r.take q).all (fun x => G.nul.testBit x.toNat) = true → ∀ i, (G.bg (r.getD q 0).toNat).testBit i = true → L.testBit i = true) → (r.take (r.length - d)).all (fun x => G.nul.testBit x.toNat) = true → ∀ i, (fiS G (r.drop (r.length - d))).testBit i = true → L.testBit i = true
  | 0, _, h, ha, i, hi => by rw [Nat.sub_zero, List.drop_length] at hi; simp [fiS] at hi
  | d + 1, hd, h, ha, i, hi => by
    have hq : r.length - (d + 1) < r.length := by omega
    rw [drop_one hq] at hi
    rw [fiS, Nat.testBit_or, Bool.or_eq_true] at hi
    rcases hi with hi | hi
    · exact h _ (Nat.le_refl _) hq ha i hi
    · split at hi
      · rename_i hn
        rw [show r.length - (d + 1) + 1 = r.length - d by omega] at hi
        refine fi_sub (by omega) (fun q h1 h2 => h q (by omega) h2) ?_ i hi
        rw [show r.length - d = (r.length - (d + 1)) + 1 by omega, List.take_succ_eq_append_getElem hq, List.all_append, ha, Bool.true_and]
        have hg : r.getD (r.length - (d + 1)) 0 = r[r.length - (d + 1)] := by rw [List.getD_eq_getElem?_getD, List.getElem?_eq_getElem hq]; rfl
        rw [hg] at hn
        simp [hn]
      · simp at hi
/-- What follows goes along the rules. -/
theorem fq_bits {T nul : Nat} {bg S : Nat → Nat} {nx x i : Nat} (h : (S x).testBit i = true) : ∀ r, ((fqL T nul bg S nx r).1 x).testBit i = true
  | [] => h
  | s :: r => by
    rw [fqL]
    have ih := fq_bits (T := T) (nul := nul) (bg := bg) (nx := nx) h r
    show ((if T ≤ s.toNat then upd (fqL T nul bg S nx r).1 s.toNat ((fqL T nul bg S nx r).1 s.toNat ||| (fqL T nul bg S nx r).2) else (fqL T nul bg S nx r).1) x).testBit i = true
    split
    · by_cases hx : x = s.toNat
      · rw [hx, upd_same, Nat.testBit_or]; rw [hx] at ih; rw [ih, Bool.true_or]
      · rw [upd_other hx]; exact ih
    · exact ih
theorem fp_bits {R : Ru} {RE T nul : Nat} {bg S : Nat → Nat} {x i : Nat} (h : (S x).testBit i = true) : ∀ k, ((fpTo R RE T nul bg S k) x).testBit i = true
  | 0 => h
  | k + 1 => by
    rw [fpTo]; split
    · exact fq_bits (fp_bits h k) _
    · exact fp_bits h k
theorem fpIt_bits {R : Ru} {RE T nul : Nat} {bg S : Nat → Nat} {x i : Nat} (h : (S x).testBit i = true) : ∀ j, ((fpIt R RE T nul bg S j) x).testBit i = true
  | 0 => h
  | j + 1 => fp_bits (fpIt_bits h j) _
theorem fo_start {R : Ru} {n T st nul : Nat} {bg X : Nat → Nat} (h : FoIs R n T st nul bg X) : (X st).testBit (T - 1) = true := by
  obtain ⟨RE, j, _, hX, _⟩ := h
  rw [hX]
  exact fpIt_bits (by unfold foI; rw [upd_same, Nat.testBit_two_pow]; simp) j
theorem fp_mono (R : Ru) (RE T nul : Nat) (bg S : Nat → Nat) (x : Nat) : ∀ d k, fpTo R RE T nul bg S k x ≤ fpTo R RE T nul bg S (k + d) x
  | 0, k => Nat.le_refl _
  | d + 1, k => Nat.le_trans (fp_mono R RE T nul bg S x d k) (by
      show _ ≤ fpTo R RE T nul bg S (k + d + 1) x
      rw [fpTo]; split
      · exact fq_ge _ _ _ _ _ _ _
      · exact Nat.le_refl _)
theorem fp_still {R : Ru} {RE T nul : Nat} {bg X : Nat → Nat} {x : Nat} (h : fpTo R RE T nul bg X R.length x = X x) {k : Nat} (hk : k ≤ R.length) : fpTo R RE T nul bg X k x = X x := by
  have h1 := fp_ge R RE T nul bg X x k
  have h2 := fp_mono R RE T nul bg X x (R.length - k) k
  rw [show k + (R.length - k) = R.length by omega] at h2
  omega
theorem fq_grow (T nul : Nat) (bg S : Nat → Nat) (nx x : Nat) (s : Int) (r : List Int) : (fqL T nul bg S nx r).1 x ≤ (fqL T nul bg S nx (s :: r)).1 x := by
  show _ ≤ (if T ≤ s.toNat then upd (fqL T nul bg S nx r).1 s.toNat ((fqL T nul bg S nx r).1 s.toNat ||| (fqL T nul bg S nx r).2) else (fqL T nul bg S nx r).1) x
  split
  · by_cases hx : x = s.toNat
    · rw [hx, upd_same]; exact Nat.left_le_or
    · rw [upd_other hx]; exact Nat.le_refl _
  · exact Nat.le_refl _
theorem fq_drop (T nul : Nat) (bg S : Nat → Nat) (nx x : Nat) (r : List Int) : ∀ d, d ≤ r.length → (fqL T nul bg S nx (r.drop d)).1 x ≤ (fqL T nul bg S nx r).1 x
  | 0, _ => by rw [List.drop_zero]; exact Nat.le_refl _
  | d + 1, hd => by
    refine Nat.le_trans ?_ (fq_drop T nul bg S nx x r d (by omega))
    rw [drop_one (show d < r.length by omega)]
    exact fq_grow T nul bg S nx x _ _
theorem fq_next {G : Gs} {T : Nat} {S : Nat → Nat} {nx : Nat} : ∀ (r : List Int), (∀ i, (fiS G r).testBit i = true → (fqL T G.nul G.bg S nx r).2.testBit i = true) ∧ (r.all (fun x => G.nul.testBit x.toNat) = true → ∀ i, nx.testBit i = true → (fqL T G.nul G.bg S nx r).2.testBit i = true)
  | [] => ⟨fun i hi => by simp [fiS] at hi, fun _ i hi => hi⟩
  | s :: r => by
    obtain ⟨h1, h2⟩ := fq_next (G := G) (T := T) (S := S) (nx := nx) r
    constructor
    · intro i hi
      rw [fiS, Nat.testBit_or, Bool.or_eq_true] at hi
      show ((if G.nul.testBit s.toNat then (fqL T G.nul G.bg S nx r).2 else 0) ||| G.bg s.toNat).testBit i = true
      rw [Nat.testBit_or, Bool.or_eq_true]
      rcases hi with hi | hi
      · exact .inr hi
      · split at hi
        · rename_i hn; rw [if_pos hn]; exact .inl (h1 i hi)
        · simp at hi
    · intro ha i hi
      rw [List.all_cons, Bool.and_eq_true] at ha
      show ((if G.nul.testBit s.toNat then (fqL T G.nul G.bg S nx r).2 else 0) ||| G.bg s.toNat).testBit i = true
      rw [Nat.testBit_or, Bool.or_eq_true, if_pos ha.1]
      exact .inl (h2 ha.2 i hi)
theorem fo_closed {R : Ru} {RE T n : Nat} {G : Gs} {X : Nat → Nat} (h : ∀ x, x < 128 → fpTo R RE T G.nul G.bg X R.length x = X x) (hR : RuOk R n) (hn : n ≤ 128) {k : Nat} (hk : k < R.length) (hre : RE.testBit (R.getD k (0, [])).1 = true) {d : Nat} (hd : d < (R.getD k (0, [])).2.length) (hT : T ≤ ((R.getD k (0, [])).2.getD d 0).toNat) :
    (∀ i, (fiS G ((R.getD k (0, [])).2.drop (d + 1))).testBit i = true → (X ((R.getD k (0, [])).2.getD d 0).toNat).testBit i = true) ∧ (((R.getD k (0, [])).2.drop (d + 1)).all (fun x => G.nul.testBit x.toNat) = true → ∀ i, (X (R.getD k (0, [])).1).testBit i = true → (X ((R.getD k (0, [])).2.getD d 0).toNat).testBit i = true) := by
  have hl := (hR k hk).1
  obtain ⟨s, hs, hsn⟩ := (hR k hk).2.2 d hd
  have hs' : ((R.getD k (0, [])).2.getD d 0).toNat = s := by rw [hs]; rfl
  rw [hs'] at hT ⊢
  have e1 := fp_still (h s (by omega)) (show k + 1 ≤ R.length by omega)
  have e0 := fp_still (h s (by omega)) (show k ≤ R.length by omega)
  have el := fp_still (h _ (show (R.getD k (0, [])).1 < 128 by omega)) (show k ≤ R.length by omega)
  rw [fpTo, if_pos hre, el] at e1
  generalize fpTo R RE T G.nul G.bg X k = S at *
  generalize (R.getD k (0, [])).2 = r at *
  generalize X (R.getD k (0, [])).1 = nx at *
  have g1 := fq_drop T G.nul G.bg S nx s r d (by omega)
  rw [drop_one hd, hs] at g1
  have g0 := fq_ge T G.nul G.bg S nx s (r.drop (d + 1))
  have gq : (fqL T G.nul G.bg S nx ((s : Int) :: r.drop (d + 1))).1 s = (fqL T G.nul G.bg S nx (r.drop (d + 1))).1 s ||| (fqL T G.nul G.bg S nx (r.drop (d + 1))).2 := by
    show (if T ≤ (s : Int).toNat then upd (fqL T G.nul G.bg S nx (r.drop (d + 1))).1 (s : Int).toNat ((fqL T G.nul G.bg S nx (r.drop (d + 1))).1 (s : Int).toNat ||| (fqL T G.nul G.bg S nx (r.drop (d + 1))).2) else (fqL T G.nul G.bg S nx (r.drop (d + 1))).1) s = _
    rw [Int.toNat_natCast, if_pos hT, upd_same]
  have gle : (fqL T G.nul G.bg S nx (r.drop (d + 1))).1 s ≤ (fqL T G.nul G.bg S nx ((s : Int) :: r.drop (d + 1))).1 s := fq_grow _ _ _ _ _ _ _ _
  have h5 : (fqL T G.nul G.bg S nx (r.drop (d + 1))).1 s = X s := by omega
  have h6 : X s ||| (fqL T G.nul G.bg S nx (r.drop (d + 1))).2 = X s := by rw [← h5, ← gq]; omega
  obtain ⟨q1, q2⟩ := fq_next (G := G) (T := T) (S := S) (nx := nx) (r.drop (d + 1))
  exact ⟨fun i hi => bit_or_left h6 (q1 i hi), fun ha i hi => bit_or_left h6 (q2 ha i hi)⟩
/-- The numbers of a set's list. -/
theorem li_mem {M : Nat} : ∀ {k : Nat} {x : Int}, x ∈ liTo M k ↔ ∃ i : Nat, x = (i : Int) ∧ i < k ∧ M.testBit i = true
  | 0, x => by simp [liTo]
  | k + 1, x => by
    rw [liTo]
    split
    · rename_i h
      rw [List.mem_append, li_mem, List.mem_singleton]
      constructor
      · rintro (⟨i, h1, h2, h3⟩ | h1)
        · exact ⟨i, h1, by omega, h3⟩
        · exact ⟨k, h1, by omega, h⟩
      · rintro ⟨i, h1, h2, h3⟩
        by_cases hi : i = k
        · exact .inr (by rw [h1, hi])
        · exact .inl ⟨i, h1, by omega, h3⟩
    · rename_i h
      rw [li_mem]
      constructor
      · rintro ⟨i, h1, h2, h3⟩; exact ⟨i, h1, by omega, h3⟩
      · rintro ⟨i, h1, h2, h3⟩
        by_cases hi : i = k
        · rw [hi] at h3; exact absurd h3 h
        · exact ⟨i, h1, by omega, h3⟩
theorem has_li {M i : Nat} (hi : i < 128) (h : M.testBit i = true) : (liTo M 128).contains (i : Int) = true := by
  rw [List.contains_iff_mem]
  exact li_mem.2 ⟨i, rfl, hi, h⟩
theorem us_not {E X T : Nat} : ∀ {k l : Nat}, T ≤ l → l < T + k → (usTo E X T k).contains (l : Int) = false → E.testBit l = true ∧ X.testBit l = true
  | 0, l, h1, h2, _ => by omega
  | k + 1, l, h1, h2, h => by
    rw [usTo] at h
    split at h
    · rename_i hc
      by_cases hl : l = T + k
      · rw [hl]; rw [Bool.and_eq_true] at hc; exact hc
      · exact us_not h1 (by omega) h
    · by_cases hl : l = T + k
      · rw [List.contains_eq_any_beq, List.any_append] at h
        simp [hl] at h
      · refine us_not (k := k) h1 (by omega) ?_
        cases hq : (usTo E X T k).contains (l : Int) with
        | false => rfl
        | true =>
          rw [List.contains_iff_mem] at hq
          have : (usTo E X T k ++ [((T + k : Nat) : Int)]).contains (l : Int) = true := by rw [List.contains_iff_mem]; exact List.mem_append_left _ hq
          rw [this] at h; cases h
end Go.Proofs.YtgmbkelmgolkpabDoor
/- Plain facts: the least texts are of terminals, empty just where nothing can be, and begin as is told. -/
namespace Go.Proofs.YtgmbkelmgolkpabDoor
open Go.RowKit
set_option linter.unusedVariables false

theorem cat_nil {F : Nat → Of} {l : List Int} : ∀ {m : Nat}, catTo F l m = [] → ∀ j, j < m → (F (l.getD j 0).toNat).t = []
  | 0, _, j, hj => absurd hj (by omega)
  | m + 1, h, j, hj => by
    rw [catTo, List.append_eq_nil_iff] at h
    by_cases hjm : j = m
    · rw [hjm]; exact h.2
    · exact cat_nil h.1 j (by omega)
theorem nil_cat {F : Nat → Of} {l : List Int} : ∀ {m : Nat}, (∀ j, j < m → (F (l.getD j 0).toNat).t = []) → catTo F l m = []
  | 0, _ => rfl
  | m + 1, h => by rw [catTo, nil_cat (fun j hj => h j (by omega)), h m (by omega)]; rfl
theorem cat_mem {F : Nat → Of} {l : List Int} {b : UInt8} : ∀ {m : Nat}, b ∈ catTo F l m → ∃ j, j < m ∧ b ∈ (F (l.getD j 0).toNat).t
  | 0, h => by cases h
  | m + 1, h => by
    rw [catTo, List.mem_append] at h
    rcases h with h | h
    · obtain ⟨j, h1, h2⟩ := cat_mem h; exact ⟨j, by omega, h2⟩
    · exact ⟨m, by omega, h⟩
theorem cat_head {F : Nat → Of} {l : List Int} {b : UInt8} : ∀ {m : Nat} {r : Tx}, catTo F l m = b :: r → ∃ q r', q < m ∧ (∀ j, j < q → (F (l.getD j 0).toNat).t = []) ∧ (F (l.getD q 0).toNat).t = b :: r'
  | 0, r, h => by cases h
  | m + 1, r, h => by
    rw [catTo] at h
    cases hc : catTo F l m with
    | nil =>
      rw [hc, List.nil_append] at h
      exact ⟨m, r, by omega, fun j hj => cat_nil hc j hj, h⟩
    | cons a r0 =>
      rw [hc, List.cons_append] at h
      obtain ⟨h1, h2⟩ := List.cons_eq_cons.1 h
      obtain ⟨q, r', e1, e2, e3⟩ := cat_head hc
      exact ⟨q, r', by omega, e2, by rw [← h1]; exact e3⟩
/-- A text that a symbol may have. -/
def TxG (Tt nul : Nat) (bg : Nat → Nat) (s : Nat) (t : Tx) : Prop := (∀ b ∈ t, b.toNat < Tt - 1) ∧ (t = [] → nul.testBit s = true) ∧ ∀ b r, t = b :: r → (bg s).testBit b.toNat = true
/-- The grammar, as the rounds want it. -/
structure Gy (R : Ru) (n Tt nul : Nat) (bg : Nat → Nat) : Prop where
  ok : RuOk R n
  few : n ≤ 128
  tn : 1 ≤ Tt ∧ Tt ≤ n
  left : ∀ k, k < R.length → Tt ≤ (R.getD k (0, [])).1
  right : ∀ k, k < R.length → ∀ j, j < (R.getD k (0, [])).2.length → (R.getD k (0, [])).2.getD j 0 ≠ ((Tt - 1 : Nat) : Int)
  gr : GrIs R 0 nul
  bs : ∀ x, x < 128 → bpTo R nul bg R.length x = bg x
  bt : ∀ x, x < Tt → (bg x).testBit x = true
structure Inv (R : Ru) (n Tt nul : Nat) (bg : Nat → Nat) (F : Nat → Of) (A : Nat → Bool) : Prop where
  len : ∀ s, s < n → (F s).t.length ≤ 1048576
  ter : ∀ s, s < Tt → F s = ⟨[UInt8.ofNat s], true, true⟩
  ok : ∀ s, Tt ≤ s → s < n → (F s).th = true → TxG Tt nul bg s (F s).t
  sth : ∀ s, s < n → (F s).se = true → (F s).th = true
  ask : ∀ k, k < R.length → A k = true → (R.getD k (0, [])).2.all (fun x => (F x.toNat).se) = true ∧ ((∀ j, j < (R.getD k (0, [])).2.length → (F ((R.getD k (0, [])).2.getD j 0).toNat).t = []) → (F (R.getD k (0, [])).1).th = true ∧ (F (R.getD k (0, [])).1).t = [])
  ph : (∀ s, Tt ≤ s → s < n → (F s).se = true → (F s).t = []) ∨ ∀ s, s < n → nul.testBit s = true → (F s).se = true ∧ (F s).t = []
theorem all_get {l : List Int} {f : Int → Bool} (h : l.all f = true) {j : Nat} (hj : j < l.length) : f (l.getD j 0) = true := by
  rw [List.all_eq_true] at h
  exact h _ (by rw [List.getD_eq_getElem?_getD, List.getElem?_eq_getElem hj]; exact List.getElem_mem hj)
/-- The texts of a rule's right symbols, one behind the other, are one that its left symbol may have. -/
theorem cat_good {R : Ru} {n Tt nul : Nat} {bg : Nat → Nat} (G : Gy R n Tt nul bg) {F : Nat → Of} {A : Nat → Bool} (I : Inv R n Tt nul bg F A) {k : Nat} (hk : k < R.length) (ha : (R.getD k (0, [])).2.all (fun x => (F x.toNat).se) = true) : TxG Tt nul bg (R.getD k (0, [])).1 (catTo F (R.getD k (0, [])).2 (R.getD k (0, [])).2.length) := by
  have hpc : ∀ j, j < (R.getD k (0, [])).2.length → ∃ s : Nat, (R.getD k (0, [])).2.getD j 0 = (s : Int) ∧ s < n ∧ ((s < Tt - 1 ∧ (F s).t = [UInt8.ofNat s]) ∨ (Tt ≤ s ∧ TxG Tt nul bg s (F s).t)) := fun j hj => by
    obtain ⟨s, hs, hsn⟩ := (G.ok k hk).2.2 j hj
    refine ⟨s, hs, hsn, ?_⟩
    have hse := all_get ha hj
    rw [hs] at hse
    have hse : (F s).se = true := hse
    have hne := G.right k hk j hj
    rw [hs] at hne
    rcases Nat.lt_or_ge s Tt with h | h
    · exact .inl ⟨by omega, by rw [I.ter s h]⟩
    · exact .inr ⟨h, I.ok s h hsn (I.sth s hsn hse)⟩
  have hbyte : ∀ s : Nat, s < Tt - 1 → (UInt8.ofNat s).toNat = s := fun s hs => by
    have := G.tn; have := G.few
    rw [UInt8.toNat_ofNat']; omega
  have hnul : ∀ j, j < (R.getD k (0, [])).2.length → (F ((R.getD k (0, [])).2.getD j 0).toNat).t = [] → nul.testBit ((R.getD k (0, [])).2.getD j 0).toNat = true := fun j hj he => by
    obtain ⟨s, hs, hsn, h⟩ := hpc j hj
    rw [hs, Int.toNat_natCast] at he ⊢
    rcases h with ⟨_, h⟩ | ⟨_, h⟩
    · rw [h] at he; cases he
    · exact h.2.1 he
  refine ⟨fun b hb => ?_, fun he => ?_, fun b r he => ?_⟩
  · obtain ⟨j, hj, hbj⟩ := cat_mem hb
    obtain ⟨s, hs, hsn, h⟩ := hpc j hj
    rw [hs, Int.toNat_natCast] at hbj
    rcases h with ⟨h1, h⟩ | ⟨_, h⟩
    · rw [h, List.mem_singleton] at hbj; rw [hbj, hbyte s h1]; exact h1
    · exact h.1 b hbj
  · exact gr_closed G.gr hk (by
      rw [List.all_eq_true]
      intro x hx
      obtain ⟨j, hj, hxj⟩ := List.mem_iff_getElem.1 hx
      have := hnul j hj (cat_nil he j hj)
      rwa [List.getD_eq_getElem?_getD, List.getElem?_eq_getElem hj, Option.getD_some, hxj] at this)
  · obtain ⟨q, r', hq, hpre, hh⟩ := cat_head he
    have hb := bg_closed G.bs G.ok G.few hk hq (by
      rw [List.all_eq_true]
      intro x hx
      obtain ⟨j, hj, hxj⟩ := List.mem_iff_getElem.1 hx
      rw [List.length_take] at hj
      have := hnul j (by omega) (hpre j (by omega))
      rw [List.getElem_take] at hxj
      rwa [List.getD_eq_getElem?_getD, List.getElem?_eq_getElem (by omega), Option.getD_some, hxj] at this) b.toNat
    refine hb ?_
    obtain ⟨s, hs, hsn, h⟩ := hpc q hq
    rw [hs, Int.toNat_natCast] at hh ⊢
    rcases h with ⟨h1, h⟩ | ⟨_, h⟩
    · rw [h] at hh
      obtain ⟨h2, _⟩ := List.cons_eq_cons.1 hh
      rw [← h2, hbyte s h1]
      exact G.bt s (by omega)
    · exact h.2.2 b r' hh
theorem inv_zero {R : Ru} {n Tt nul : Nat} {bg : Nat → Nat} (G : Gy R n Tt nul bg) : Inv R n Tt nul bg (beO Tt) (fun _ => false) := by
  refine ⟨fun s _ => ?_, fun s hs => ?_, fun s h1 _ h => ?_, fun s _ h => ?_, fun k _ h => (by cases h), .inl fun s h1 _ h => ?_⟩
  · unfold beO; split <;> simp
  · unfold beO; rw [if_pos hs]
  · unfold beO at h; rw [if_neg (by omega)] at h; cases h
  · unfold beO at h ⊢
    split at h
    · rename_i hc; rw [if_pos hc]
    · cases h
  · unfold beO at h; rw [if_neg (by omega)] at h; cases h
theorem inv_ask {R : Ru} {n Tt nul : Nat} {bg : Nat → Nat} (G : Gy R n Tt nul bg) {F F' : Nat → Of} {A : Nat → Bool} (I : Inv R n Tt nul bg F A) {k : Nat} (hk : k < R.length) (ha : (R.getD k (0, [])).2.all (fun x => (F x.toNat).se) = true) (ho : OfIs F (R.getD k (0, [])).1 (catTo F (R.getD k (0, [])).2 (R.getD k (0, [])).2.length) F') : Inv R n Tt nul bg F' (updA A k) := by
  have hL := (G.ok k hk).1
  have hLT := G.left k hk
  have hse := ho.se
  have hnil : (∀ j, j < (R.getD k (0, [])).2.length → (F ((R.getD k (0, [])).2.getD j 0).toNat).t = []) → catTo F (R.getD k (0, [])).2 (R.getD k (0, [])).2.length = [] := nil_cat
  have hall : ∀ l : List Int, l.all (fun x => (F' x.toNat).se) = l.all (fun x => (F x.toNat).se) := fun l => by
    congr 1; funext x; exact hse _
  rcases ho with ⟨hbig, rfl⟩ | ⟨hsm, ⟨rfl, h1, h2⟩ | ⟨rfl, h1⟩⟩
  · refine { I with ask := fun j hj hA => ?_ }
    by_cases hjk : j = k
    · subst hjk
      refine ⟨ha, fun h => ?_⟩
      rw [hnil h] at hbig; simp at hbig
    · exact I.ask j hj (by unfold updA at hA; rwa [if_neg hjk] at hA)
  · refine { I with ask := fun j hj hA => ?_ }
    by_cases hjk : j = k
    · subst hjk
      refine ⟨ha, fun h => ⟨h1, ?_⟩⟩
      rw [hnil h] at h2
      exact List.length_eq_zero_iff.1 (Nat.le_zero.1 h2)
    · exact I.ask j hj (by unfold updA at hA; rwa [if_neg hjk] at hA)
  · have hgood := cat_good G I hk ha
    generalize hX : catTo F (R.getD k (0, [])).2 (R.getD k (0, [])).2.length = X at *
    generalize hLF : (R.getD k (0, [])).1 = L at *
    -- where the left symbol is settled and what is offered is empty, it was empty
    have hold : X = [] → (F L).se = true → (F L).t = [] := fun hx hs => by
      rcases I.ph with h | h
      · exact h L hLT hL hs
      · exact (h L hL (hgood.2.1 hx)).2
    have hback : ∀ y, y < n → (F y).se = true → (updO F L { F L with t := X, th := true } y).t = [] → (F y).t = [] := fun y hy hs ht => by
      by_cases hyL : y = L
      · subst hyL
        rw [updO_same] at ht
        exact hold ht hs
      · rwa [updO_other hyL] at ht
    have hstay : (F L).th = true → (F L).t = [] → X = [] := fun hth ht => by
      have := h1 hth
      rw [ht] at this
      exact List.length_eq_zero_iff.1 (Nat.le_zero.1 this)
    refine ⟨fun s hs => ?_, fun s hs => ?_, fun s e1 e2 e3 => ?_, fun s e1 e2 => ?_, fun j hj hA => ?_, ?_⟩
    · by_cases hsL : s = L
      · rw [hsL, updO_same]; exact hsm
      · rw [updO_other hsL]; exact I.len s hs
    · rw [updO_other (by omega)]; exact I.ter s hs
    · by_cases hsL : s = L
      · rw [hsL, updO_same]; exact hgood
      · rw [updO_other hsL] at e3 ⊢; exact I.ok s e1 e2 e3
    · by_cases hsL : s = L
      · rw [hsL, updO_same]
      · rw [updO_other hsL] at e2 ⊢; exact I.sth s e1 e2
    · rw [hall]
      by_cases hjk : j = k
      · subst hjk
        refine ⟨ha, fun h => ?_⟩
        have hX2 : X = [] := by
          rw [← hX]
          refine nil_cat fun q hq => ?_
          obtain ⟨y, hy, hyn⟩ := (G.ok j hk).2.2 q hq
          have h3 := h q hq
          have h4 := all_get ha hq
          rw [hy, Int.toNat_natCast] at h3 ⊢
          rw [hy] at h4
          exact hback y hyn h4 h3
        rw [hLF, updO_same]
        exact ⟨rfl, hX2⟩
      · obtain ⟨a1, a2⟩ := I.ask j hj (by unfold updA at hA; rwa [if_neg hjk] at hA)
        refine ⟨a1, fun h => ?_⟩
        obtain ⟨b1, b2⟩ := a2 fun q hq => by
          obtain ⟨y, hy, hyn⟩ := (G.ok j hj).2.2 q hq
          have h3 := h q hq
          have h4 := all_get a1 hq
          rw [hy, Int.toNat_natCast] at h3 ⊢
          rw [hy] at h4
          exact hback y hyn h4 h3
        by_cases hjL : (R.getD j (0, [])).1 = L
        · rw [hjL] at b1 b2 ⊢
          rw [updO_same]
          exact ⟨rfl, hstay b1 b2⟩
        · rw [updO_other hjL]; exact ⟨b1, b2⟩
    · rcases I.ph with h | h
      · refine .inl fun s e1 e2 e3 => ?_
        by_cases hsL : s = L
        · rw [hsL, updO_same] at e3 ⊢
          exact hstay (I.sth L hL e3) (h L hLT hL e3)
        · rw [updO_other hsL] at e3 ⊢; exact h s e1 e2 e3
      · refine .inr fun s e1 e2 => ?_
        by_cases hsL : s = L
        · rw [hsL, updO_same]
          rw [hsL] at e2
          obtain ⟨q1, q2⟩ := h L hL e2
          exact ⟨q1, hstay (I.sth L hL q1) q2⟩
        · rw [updO_other hsL]; exact h s e1 e2
theorem inv_settle {R : Ru} {n Tt nul : Nat} {bg : Nat → Nat} (G : Gy R n Tt nul bg) {F : Nat → Of} {A : Nat → Bool} (I : Inv R n Tt nul bg F A) (hp : ∀ j, j < R.length → (R.getD j (0, [])).2.all (fun x => (F x.toNat).se) = true → A j = true) {s : Nat} (hlo : LoTo F n (s : Int)) : Inv R n Tt nul bg (updO F s { F s with se := true }) A := by
  obtain ⟨y, e0, hsn, hop, hmin⟩ : ∃ y : Nat, (s : Int) = (y : Int) ∧ y < n ∧ opn F y = true ∧ ∀ z, z < n → opn F z = true → (F y).t.length ≤ (F z).t.length := by
    rcases hlo with ⟨h, _⟩ | h
    · omega
    · exact h
  obtain rfl : s = y := by omega
  unfold opn at hop
  rw [Bool.and_eq_true] at hop
  have hth := hop.1
  have hse : (F s).se = false := by simpa using hop.2
  have hsT : Tt ≤ s := by
    rcases Nat.lt_or_ge s Tt with h | h
    · rw [I.ter s h] at hse; cases hse
    · exact h
  have htx : ∀ y, (updO F s { F s with se := true } y).t = (F y).t := fun y => by
    by_cases h : y = s
    · rw [h, updO_same]
    · rw [updO_other h]
  have hthx : ∀ y, (updO F s { F s with se := true } y).th = (F y).th := fun y => by
    by_cases h : y = s
    · rw [h, updO_same]
    · rw [updO_other h]
  have hsex : ∀ y, (F y).se = true → (updO F s { F s with se := true } y).se = true := fun y hy => by
    by_cases h : y = s
    · rw [h, updO_same]
    · rw [updO_other h]; exact hy
  refine ⟨fun y hy => by rw [htx]; exact I.len y hy, fun y hy => by rw [updO_other (by omega)]; exact I.ter y hy, fun y e1 e2 e3 => by rw [htx]; rw [hthx] at e3; exact I.ok y e1 e2 e3, fun y e1 e2 => ?_, fun k hk hA => ?_, ?_⟩
  · rw [hthx]
    by_cases h : y = s
    · rw [h]; exact hth
    · rw [updO_other h] at e2; exact I.sth y e1 e2
  · obtain ⟨a1, a2⟩ := I.ask k hk hA
    refine ⟨?_, fun h => ?_⟩
    · rw [List.all_eq_true] at a1 ⊢
      exact fun x hx => hsex _ (a1 x hx)
    · rw [htx, hthx]
      exact a2 fun j hj => by rw [← htx]; exact h j hj
  · by_cases he : (F s).t = []
    · rcases I.ph with h | h
      · refine .inl fun y e1 e2 e3 => ?_
        rw [htx]
        by_cases hy : y = s
        · rw [hy]; exact he
        · rw [updO_other hy] at e3; exact h y e1 e2 e3
      · exact .inr fun y e1 e2 => ⟨hsex y (h y e1 e2).1, by rw [htx]; exact (h y e1 e2).2⟩
    · -- all that can be nothing is settled
      have hstep : ∀ (M : Nat), (∀ y, M.testBit y = true → (F y).se = true ∧ (F y).t = []) → ∀ k, k ≤ R.length → ∀ y, (gpTo R M k).testBit y = true → (F y).se = true ∧ (F y).t = [] := fun M hM k => by
        induction k with
        | zero => exact fun _ y hy => hM y hy
        | succ k ih =>
          intro hk y hy
          have ihk := ih (by omega)
          rw [gpTo] at hy
          split at hy
          · rename_i hall
            rw [Nat.testBit_or, Bool.or_eq_true] at hy
            rcases hy with hy | hy
            · exact ihk y hy
            · rw [Nat.testBit_two_pow] at hy
              have hy : (R.getD k (0, [])).1 = y := by simpa using hy
              have hkl : k < R.length := by omega
              have hset : (R.getD k (0, [])).2.all (fun x => (F x.toNat).se) = true := by
                rw [List.all_eq_true] at hall ⊢
                exact fun x hx => (ihk _ (hall x hx)).1
              obtain ⟨_, a2⟩ := I.ask k hkl (hp k hkl hset)
              obtain ⟨b1, b2⟩ := a2 fun j hj => (ihk _ (all_get hall hj)).2
              rw [hy] at b1 b2
              refine ⟨?_, b2⟩
              cases hc : (F y).se with
              | true => rfl
              | false =>
                have hyn : y < n := by rw [← hy]; exact (G.ok k hkl).1
                have := hmin y hyn (by unfold opn; rw [b1, hc]; rfl)
                rw [b2] at this
                exact absurd (List.length_eq_zero_iff.1 (Nat.le_zero.1 this)) he
          · exact ihk y hy
      have hiter : ∀ j y, (gpIt R 0 j).testBit y = true → (F y).se = true ∧ (F y).t = [] := fun j => by
        induction j with
        | zero => intro y hy; simp [gpIt] at hy
        | succ j ih => exact hstep _ ih R.length (Nat.le_refl _)
      obtain ⟨j, hj, _⟩ := G.gr
      refine .inr fun y e1 e2 => ?_
      rw [hj] at e2
      obtain ⟨q1, q2⟩ := hiter j y e2
      exact ⟨hsex y q1, by rw [htx]; exact q2⟩
theorem rounds_of {R : Ru} {n Tt nul : Nat} {bg : Nat → Nat} (G : Gy R n Tt nul bg) : Rounds Tt n R (Inv R n Tt nul bg) (fun k F A => Inv R n Tt nul bg F A ∧ ∀ j, j < k → j < R.length → (R.getD j (0, [])).2.all (fun x => (F x.toNat).se) = true → A j = true) where
  zero := inv_zero G
  len := fun k F A h s hs => h.1.len s hs
  lenI := fun F A h s hs => h.len s hs
  start := fun F A h => ⟨h, fun j hj => absurd hj (by omega)⟩
  skip := fun k F A hk h hc => ⟨h.1, fun j hj hjl ha => by
    by_cases hjk : j = k
    · subst hjk
      rcases hc with hc | hc
      · exact hc
      · rw [hc] at ha; cases ha
    · exact h.2 j (by omega) hjl ha⟩
  ask := fun k F A F' hk h hA ha ho => ⟨inv_ask G h.1 hk ha ho, fun j hj hjl hs => by
    unfold updA
    by_cases hjk : j = k
    · rw [if_pos hjk]
    · rw [if_neg hjk]
      refine h.2 j (by omega) hjl ?_
      rw [← hs]
      congr 1; funext x; exact (ho.se _).symm⟩
  settle := fun F A s h hlo => inv_settle G h.1 (fun j hj ha => h.2 j hj hj ha) hlo
/-- What is told of a symbol that is settled. -/
theorem inv_told {R : Ru} {n Tt nul : Nat} {bg : Nat → Nat} {F : Nat → Of} {A : Nat → Bool} (I : Inv R n Tt nul bg F A) {s : Nat} (h1 : Tt ≤ s) (h2 : s < n) (h3 : (F s).se = true) : TxG Tt nul bg s (F s).t ∧ (nul.testBit s = true → (F s).t = []) :=
  ⟨I.ok s h1 h2 (I.sth s h2 h3), fun hn => by
    rcases I.ph with h | h
    · exact h s h1 h2 h3
    · exact (h s h2 hn).2⟩
end Go.Proofs.YtgmbkelmgolkpabDoor
