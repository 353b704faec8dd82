/- Texts of one proof, one behind the other. -/
import Derived.Test.YtgmbkelmgolkpaaDoorDsh
import Derived.Test.YtgmbkelmgolkpaaDoorDc
import Derived.Test.YtgmbkelmgolkpaaDoorGcl
/- The document's Follow. -/
namespace Go.Proofs.YtgmbkelmgolkpaaDoor
open Go.RowKit Go.Maps
set_option linter.unusedVariables false

theorem il_fromQ {a : Option Addr} {cap n : Nat} {L : List Int} {Q : World → Prop} (hil : ∀ w', Q w' → IlAt w' (.slice a n cap) L) {w0 : World} (h0 : Q w0) (C : Nat) (hC : C ≤ n) : ∃ a2 c2, (∀ w, (Instr.sliceAt 43 (.slice a n cap) (some (.int .i64 (C : Int))) none none).run Tryd.prog w = .ok (.slice a2 (n - C) c2) w) ∧ ∀ w', Q w' → IlAt w' (.slice a2 (n - C) c2) (L.drop C) := by
  obtain ⟨a2, c2, h1, h2⟩ := il_from (hil w0 h0) C hC
  refine ⟨a2, c2, h1, fun w' hq => ?_⟩
  obtain ⟨a3, c3, h3, h4⟩ := il_from (hil w' hq) C hC
  have e := (h1 w').symm.trans (h3 w')
  cases e
  exact h4
/-- One rule: its first q right symbols. -/
def dqTo (n nul : Nat) (S : Nat → Nat) (lf : Nat) (r : List Int) (D : Nat → Nat) : Nat → Nat → Nat
  | 0 => D
  | q + 1 => if (r.drop (q + 1)).all (fun x => nul.testBit x.toNat) then
      upd (upd (dqTo n nul S lf r D q) (r.getD q 0).toNat (dqTo n nul S lf r D q (r.getD q 0).toNat ||| fiS (gsN n nul S) (r.drop (q + 1)))) (r.getD q 0).toNat ((upd (dqTo n nul S lf r D q) (r.getD q 0).toNat (dqTo n nul S lf r D q (r.getD q 0).toNat ||| fiS (gsN n nul S) (r.drop (q + 1)))) (r.getD q 0).toNat ||| (upd (dqTo n nul S lf r D q) (r.getD q 0).toNat (dqTo n nul S lf r D q (r.getD q 0).toNat ||| fiS (gsN n nul S) (r.drop (q + 1)))) lf)
    else upd (dqTo n nul S lf r D q) (r.getD q 0).toNat (dqTo n nul S lf r D q (r.getD q 0).toNat ||| fiS (gsN n nul S) (r.drop (q + 1)))
def dpTo (R : Rus) (n LV nul : Nat) (S D : Nat → Nat) : Nat → Nat → Nat
  | 0 => D
  | k + 1 => if LV.testBit (R.getD k (0, [])).1 then dqTo n nul S (R.getD k (0, [])).1 (R.getD k (0, [])).2 (dpTo R n LV nul S D k) (R.getD k (0, [])).2.length else dpTo R n LV nul S D k
def dpIt (R : Rus) (n LV nul : Nat) (S D : Nat → Nat) : Nat → Nat → Nat
  | 0 => D
  | j + 1 => dpTo R n LV nul S (dpIt R n LV nul S D j) R.length
def DoIs (R : Rus) (n tn st LV nul : Nat) (S X : Nat → Nat) : Prop := ∃ j, X = dpIt R n LV nul S (upd (fun _ => 0) st (2 ^ tn)) j ∧ ∀ x, x < n → dpTo R n LV nul S X R.length x = X x
theorem dq_ge (n nul : Nat) (S : Nat → Nat) (lf : Nat) (r : List Int) (D : Nat → Nat) (x : Nat) : ∀ q, D x ≤ dqTo n nul S lf r D q x
  | 0 => Nat.le_refl _
  | q + 1 => by
    have ih := dq_ge n nul S lf r D x q
    rw [dqTo]
    by_cases e : x = (r.getD q 0).toNat
    · split
      · rw [← e, upd_same, upd_same]; exact Nat.le_trans ih (Nat.le_trans Nat.left_le_or Nat.left_le_or)
      · rw [← e, upd_same]; exact Nat.le_trans ih Nat.left_le_or
    · split
      · rw [upd_other e, upd_other e]; exact ih
      · rw [upd_other e]; exact ih
theorem dp_ge (R : Rus) (n LV nul : Nat) (S D : Nat → Nat) (x : Nat) : ∀ k, D x ≤ dpTo R n LV nul S D k x
  | 0 => Nat.le_refl _
  | k + 1 => by
    have ih := dp_ge R n LV nul S D x k
    rw [dpTo]; split
    · exact Nat.le_trans ih (dq_ge _ _ _ _ _ _ _ _)
    · exact ih
theorem dq_pow {n nul : Nat} {S : Nat → Nat} (hS : ∀ x, x < n → S x < 2 ^ n) {lf : Nat} (hlf : lf < n) {r : List Int} (hr : SymL n r) {D : Nat → Nat} (hD : ∀ x, x < n → D x < 2 ^ n) : ∀ q, q ≤ r.length → ∀ x, x < n → dqTo n nul S lf r D q x < 2 ^ n
  | 0, _, x, hx => hD x hx
  | q + 1, hq, x, hx => by
    have ih := dq_pow hS hlf hr hD (nul := nul) q (by omega)
    have hF : fiS (gsN n nul S) (r.drop (q + 1)) < 2 ^ n := fis_pow hS _ fun y hy => symL_mem hr y (List.mem_of_mem_drop hy)
    obtain ⟨s, hs, hsn⟩ := hr q (by omega)
    have h1 : ∀ y, y < n → upd (dqTo n nul S lf r D q) (r.getD q 0).toNat (dqTo n nul S lf r D q (r.getD q 0).toNat ||| fiS (gsN n nul S) (r.drop (q + 1))) y < 2 ^ n := fun y hy => by
      by_cases e : y = (r.getD q 0).toNat
      · rw [e, upd_same]; exact Nat.or_lt_two_pow (ih _ (by rw [hs, Int.toNat_natCast]; exact hsn)) hF
      · rw [upd_other e]; exact ih y hy
    rw [dqTo]; split
    · by_cases e : x = (r.getD q 0).toNat
      · rw [e, upd_same]; exact Nat.or_lt_two_pow (h1 _ (by rw [← e]; exact hx)) (h1 _ hlf)
      · rw [upd_other e]; exact h1 x hx
    · exact h1 x hx
theorem dp_pow {R : Rus} {n : Nat} (hR : RuOk R n) {LV nul : Nat} {S : Nat → Nat} (hS : ∀ x, x < n → S x < 2 ^ n) {D : Nat → Nat} (hD : ∀ x, x < n → D x < 2 ^ n) : ∀ k, k ≤ R.length → ∀ x, x < n → dpTo R n LV nul S D k x < 2 ^ n
  | 0, _, x, hx => hD x hx
  | k + 1, hk, x, hx => by
    have ih := dp_pow hR hS hD (LV := LV) (nul := nul) k (by omega)
    rw [dpTo]; split
    · exact dq_pow hS (hR k (by omega)).1 (hR k (by omega)).2.2 ih _ (Nat.le_refl _) x hx
    · exact ih x hx
theorem do_base {n st tn : Nat} (ht : tn < n) : ∀ x, x < n → upd (fun _ => 0) st (2 ^ tn) x < 2 ^ n := fun x hx => by
  by_cases e : x = st
  · rw [e, upd_same]; exact Nat.pow_lt_pow_right (by decide) ht
  · rw [upd_other e]; exact Nat.two_pow_pos n
theorem dpIt_pow {R : Rus} {n : Nat} (hR : RuOk R n) {LV nul st tn : Nat} (ht : tn < n) {S : Nat → Nat} (hS : ∀ x, x < n → S x < 2 ^ n) : ∀ j x, x < n → dpIt R n LV nul S (upd (fun _ => 0) st (2 ^ tn)) j x < 2 ^ n
  | 0 => do_base ht
  | j + 1 => dp_pow hR hS (dpIt_pow hR ht hS j) _ (Nat.le_refl _)
theorem dq_congr {n nul : Nat} {S : Nat → Nat} {lf : Nat} (hlf : lf < n) {r : List Int} (hr : SymL n r) {D D' : Nat → Nat} (h : ∀ x, x < n → D x = D' x) : ∀ q, q ≤ r.length → ∀ x, x < n → dqTo n nul S lf r D q x = dqTo n nul S lf r D' q x
  | 0, _, x, hx => h x hx
  | q + 1, hq, x, hx => by
    have ih := dq_congr hlf hr h (nul := nul) (S := S) q (by omega)
    obtain ⟨s, hs, hsn⟩ := hr q (by omega)
    have hy : (r.getD q 0).toNat < n := by rw [hs, Int.toNat_natCast]; exact hsn
    have h1 : ∀ y, y < n → upd (dqTo n nul S lf r D q) (r.getD q 0).toNat (dqTo n nul S lf r D q (r.getD q 0).toNat ||| fiS (gsN n nul S) (r.drop (q + 1))) y = upd (dqTo n nul S lf r D' q) (r.getD q 0).toNat (dqTo n nul S lf r D' q (r.getD q 0).toNat ||| fiS (gsN n nul S) (r.drop (q + 1))) y := fun y hyn => by
      by_cases e : y = (r.getD q 0).toNat
      · rw [e, upd_same, upd_same, ih _ hy]
      · rw [upd_other e, upd_other e]; exact ih y hyn
    rw [dqTo, dqTo]
    generalize upd (dqTo n nul S lf r D q) (r.getD q 0).toNat (dqTo n nul S lf r D q (r.getD q 0).toNat ||| fiS (gsN n nul S) (r.drop (q + 1))) = A at *
    generalize upd (dqTo n nul S lf r D' q) (r.getD q 0).toNat (dqTo n nul S lf r D' q (r.getD q 0).toNat ||| fiS (gsN n nul S) (r.drop (q + 1))) = B at *
    split
    · by_cases e : x = (r.getD q 0).toNat
      · rw [e, upd_same, upd_same, h1 _ hy, h1 _ hlf]
      · rw [upd_other e, upd_other e]; exact h1 x hx
    · exact h1 x hx
theorem dp_congr {R : Rus} {n : Nat} (hR : RuOk R n) {LV nul : Nat} {S D D' : Nat → Nat} (h : ∀ x, x < n → D x = D' x) : ∀ k, k ≤ R.length → ∀ x, x < n → dpTo R n LV nul S D k x = dpTo R n LV nul S D' k x
  | 0, _, x, hx => h x hx
  | k + 1, hk, x, hx => by
    have ih := dp_congr hR h (LV := LV) (nul := nul) (S := S) k (by omega)
    rw [dpTo, dpTo]; split
    · exact dq_congr (hR k (by omega)).1 (hR k (by omega)).2.2 ih _ (Nat.le_refl _) x hx
    · exact ih x hx
end Go.Proofs.YtgmbkelmgolkpaaDoor
/- The document's Follow: the walk. -/
namespace Go.Proofs.YtgmbkelmgolkpaaDoor
open Go.RowKit Go.Maps
set_option linter.unusedVariables false

/-- What Follow reads and does not write. -/
structure FoW (w : World) (n gF gn gv nul LV : Nat) (gx S : Nat → Nat) : Prop where
  f : MaAt w gF n gx S
  u : CsAt w gn (mkC n nul) 3
  v : CsAt w gv (mkC n LV) 3
theorem FoW.next {w w' : World} {n gF gn gv nul LV : Nat} {gx S : Nat → Nat} (h : FoW w n gF gn gv nul LV gx S) (hb : Below w.heap.size w w') : FoW w' n gF gn gv nul LV gx S := ⟨h.f.next hb, h.u.next hb, h.v.next hb⟩
theorem FoW.but {w w' : World} {n gF gn gv nul LV g : Nat} {gx S : Nat → Nat} (h : FoW w n gF gn gv nul LV gx S) (hb : But g w w') (h1 : gF ≠ g) (h2 : ∀ x, x < n → gx x ≠ g) (h3 : gn ≠ g) (h4 : gv ≠ g) : FoW w' n gF gn gv nul LV gx S := ⟨h.f.far hb h1 h2, But.cs h.u hb h3, But.cs h.v hb h4⟩
theorem same_step {A : Nat → Nat} {x F : Nat} (h : A x ||| F = A x) : upd A x (A x ||| F) = A := by
  funext y
  by_cases e : y = x
  · rw [e, upd_same, h]
  · rw [upd_other e]
theorem up_ge {A : Nat → Nat} {x F : Nat} (y : Nat) : A y ≤ upd A x (A x ||| F) y := by
  by_cases e : y = x
  · rw [e, upd_same]; exact Nat.left_le_or
  · rw [upd_other e]; exact Nat.le_refl _
theorem grow_step {D0 A : Nat → Nat} {k x F : Nat} (hx : x < k) (hge : ∀ y, D0 y ≤ A y) (h : ¬ (A x ||| F = A x)) : msum D0 k < msum (upd A x (A x ||| F)) k := by
  refine msum_lt k (fun y _ => Nat.le_trans (hge y) (up_ge y)) x hx ?_
  rw [upd_same]
  have h1 := hge x
  have h2 : A x ≤ A x ||| F := Nat.left_le_or
  omega
theorem sym_drop {n : Nat} {l : List Int} (h : SymL n l) (c : Nat) : SymL n (l.drop c) := fun j hj => by
  rw [List.length_drop] at hj
  obtain ⟨s, hs, hsn⟩ := h (c + j) (by omega)
  refine ⟨s, ?_, hsn⟩
  rw [List.getD_eq_getElem?_getD, List.getElem?_drop, ← List.getD_eq_getElem?_getD]
  exact hs
theorem mkV_on {M i : Nat} (h : M.testBit i = true) : mkV M i = .int .i64 1 := by unfold mkV; rw [h]; rfl
theorem mkV_off {M i : Nat} (h : M.testBit i = false) : mkV M i = .int .i64 0 := by unfold mkV; rw [h]; rfl
section
variable {w : World} {p : Nat} {a0 : Option Addr} {k0 : Nat} {a1 : Option Addr} {k1 gr og cr : Nat} {T O : List Tx} {R : Rus} {s : Int}
set_option maxRecDepth 100000 in
set_option maxHeartbeats 1600000 in
theorem refFollow_no (h : RgW w p a0 k0 a1 k1 gr og cr T O R s) (n : Nat) (hnn : (allN T O).length = n) (hn : n ≤ 128) (x : Int) (hx : x ≤ (T.length : Int) ∨ (n : Int) ≤ x) : Calls Tryd.prog 24 #[.pointer (some ⟨p, 0, none⟩), .int .i64 x] w fun e w' => e = .returned (.slice none 0 0) ∧ Below w.heap.size w w' := by
  have HSY := hidD (refSymbols_any h (by rw [allN_len] at hnn; omega))
  rw [hnn] at HSY
  have f0 := h.c0 w (Below.refl _ _)
  clear h hnn
  generalize T.length = tn at *
  by_cases h1 : x ≤ (tn : Int)
  · have h1d : decide (x ≤ (tn : Int)) = true := decide_eq_true h1
    go_enter Tryd.func24, Tryd.ntmps24
    go_wp2_with fail
    all_goals first | exact (un_bool6 (by assumption)).elim | skip
    refine bodyPost_ret (v := .slice none 0 0) (by simp [results, Tryd.results24, go_sem]) rfl ?_
    exact ⟨rfl, Below.refl _ _⟩
  · have h1d : decide (x ≤ (tn : Int)) = false := decide_eq_false h1
    have h2 : (n : Int) ≤ x := hx.resolve_left h1
    have h2d : decide ((n : Int) ≤ x) = true := decide_eq_true h2
    clear hx
    go_enter Tryd.func24, Tryd.ntmps24
    go_wp2_with (go_at_call 27; refine HSY.out.mono ?_; rintro e w1 ⟨rfl, hb1⟩; have HB1 := hidD hb1; clear hb1)
    all_goals first | exact (un_bool6 (by assumption)).elim | skip
    refine bodyPost_ret (v := .slice none 0 0) (by simp [results, Tryd.results24, go_sem]) rfl ?_
    exact ⟨rfl, HB1.out⟩
set_option maxRecDepth 100000 in
set_option maxHeartbeats 6400000 in
theorem refFollow_any (h : RgW w p a0 k0 a1 k1 gr og cr T O R s) (n : Nat) (hnn : (allN T O).length = n) (hn : n ≤ 128) (hR : RuOk R n) (hrl : R.length ≤ 128) (st : Nat) (hst : (T.length : Int) + 1 + s = (st : Int)) (hs0 : 0 ≤ s) (hstn : st < n) (nul : Nat) (hgi : GrIs R 0 nul) (x : Nat) (hx1 : T.length + 1 ≤ x) (hx2 : x < n) : Calls Tryd.prog 24 #[.pointer (some ⟨p, 0, none⟩), .int .i64 (x : Int)] w fun e w' => ∃ LV S D u, e = .returned u ∧ ReIs R (utS n) (2 ^ st) LV ∧ SpIs R n nul (T.length + 1) S ∧ (∀ x, x < n → S x < 2 ^ n) ∧ DoIs R n T.length st LV nul S D ∧ (∀ x, x < n → D x < 2 ^ n) ∧ IlAt w' u (liTo (D x) n) ∧ Below w.heap.size w w' := by
  have HG := hidD h
  have HRO := hidD hR
  have hln : T.length + 1 ≤ n := by rw [allN_len] at hnn; omega
  have HNU : Hid (∀ w', Below w.heap.size w w' → Calls Tryd.prog 67 #[.pointer (some ⟨p, 0, none⟩)] w' fun e w'' => ∃ g, e = .returned (.slice (some ⟨g, 0, none⟩) n n) ∧ CsAt w'' g (mkC n nul) 3 ∧ w'.heap.size ≤ g ∧ Below w'.heap.size w' w'') := fun w' hb => (refNulls_any (h.next hb) n hnn hn hR hrl).mono fun e w'' ⟨g, M, h1, h2, h3, h4, h5⟩ => by
    have := gr_one h3 hgi
    subst this
    exact ⟨g, h1, h2, h4, h5⟩
  have HFI : Hid (∀ w', Below w.heap.size w w' → Calls Tryd.prog 71 #[.pointer (some ⟨p, 0, none⟩)] w' fun e w'' => ∃ gM gx S, e = .returned (.slice (some ⟨gM, 0, none⟩) n n) ∧ MaAt w'' gM n gx S ∧ SpIs R n nul (T.length + 1) S ∧ w'.heap.size ≤ gM ∧ (∀ x, x < n → w'.heap.size ≤ gx x) ∧ (∀ x, x < n → S x < 2 ^ n) ∧ Below w'.heap.size w' w'') := fun w' hb => (refFirsts_any (h.next hb) n hnn hn hR hrl).mono fun e w'' ⟨gM, gx, M, S, h1, h2, h3, h4, h5, h6, h7, h8⟩ => by
    have := gr_one h3 hgi
    subst this
    exact ⟨gM, gx, S, h1, h2, h4, h5, h6, h7, h8⟩
  have HRE := hidD (fun w' (hb : Below w.heap.size w w') => refReached_any (h.next hb) n hnn hn hR hrl st hst hs0 hstn)
  have HSY := hidD (fun w' (hb : Below w.heap.size w w') => refSymbols_any (h.next hb) (by rw [allN_len] at hnn; omega))
  rw [hnn] at HSY
  have HSTA := hidD (fun w' (hb : Below w.heap.size w w') => refStart_any (h.next hb) (by rw [allN_len] at hnn; omega) ⟨hs0, by rw [allN_len] at hnn; omega⟩)
  rw [hst] at HSTA
  have HEND := hidD (fun w' (hb : Below w.heap.size w w') => refEnd_any (h.next hb))
  have hmk := make_marks n (by omega)
  have hmr := make_rows n (by omega) (fun _ => 0)
  have f0 := h.c0 w (Below.refl _ _)
  have HWA : Hid (∀ (w1 : World) o, Below w1.heap.size w1 (w1.alloc o)) := fun w1 o => (Below.refl _ _).alloc (Nat.le_refl _) o
  have HPW := hidD (fun LV (S : Nat → Nat) (hS : ∀ x, x < n → S x < 2 ^ n) j => dpIt_pow hR (LV := LV) (nul := nul) (st := st) (show T.length < n by omega) hS j)
  have HPX := hidD (fun LV (S D : Nat → Nat) (hS : ∀ x, x < n → S x < 2 ^ n) (hD : ∀ x, x < n → D x < 2 ^ n) k hk => dp_pow hR (LV := LV) (nul := nul) hS hD k hk)
  clear h hR hnn hst hs0 hgi
  generalize hrn : R.length = rn at *
  have HRN := hidD hrn
  clear hrn
  generalize htn : T.length = tn at *
  clear htn
  have hx1d : decide ((x : Int) ≤ (tn : Int)) = false := decide_eq_false (by omega)
  have hx1n : ¬ (x : Int) ≤ (tn : Int) := by omega
  have hx2d : decide ((n : Int) ≤ (x : Int)) = false := decide_eq_false (by omega)
  have hx2n : ¬ (n : Int) ≤ (x : Int) := by omega
  have hsti : (st : Int) < (n : Int) := by omega
  have htni : (tn : Int) < (n : Int) := by omega
  go_enter Tryd.func24, Tryd.ntmps24
  go_upto_region 5 with first
    | (go_at_call 27; have := M1; clear this; refine (HSY.out _ HB0.out).mono ?_; rintro e w1 ⟨rfl, hb1⟩; have HB1 := hidD (Below.next HB0.out hb1); clear hb1)
    | (go_at_call 27; refine (HSY.out _ (Below.refl _ _)).mono ?_; rintro e w0 ⟨rfl, hb0⟩; have HB0 := hidD hb0; have M1 := trivial; clear hb0)
  all_goals first | exact (un_bool6 (by assumption)).elim | skip
  have HC0 : Hid (CsAt (w1.alloc (.cells (mpC n 0 (fun _ => 0)) (43 : TypeId))) w1.heap.size (mpC n 0 (fun _ => 0)) 43) := heap_alloc_new _ _
  have HBA := hidD (HWA.out w1 (.cells (mpC n 0 (fun _ => 0)) (43 : TypeId)))
  clear hmr M1 HB0 f0
  generalize hwa : w1.alloc (.cells (mpC n 0 (fun _ => 0)) (43 : TypeId)) = wa at *
  clear hwa
  obtain ⟨gM, hg⟩ : ∃ g, g = w1.heap.size := ⟨_, rfl⟩
  rw [← hg] at HC0 ⊢
  have HGB : Hid (w1.heap.size ≤ gM) := Nat.le_of_eq hg.symm
  clear hg
  go_wp2_with fail
  go_loopw [7] (fun i wr => ∃ (k : Nat) (gy : Nat → Nat), k ≤ n ∧ i = .int .i64 (k : Int) ∧ MpAt2 wr w1 gM n k gy (fun _ => 0) ∧ Below w1.heap.size w1 wr) (fun i _ => n - (intOf i).toNat)
  case atStart => exact ⟨0, fun _ => 0, Nat.zero_le _, rfl, ⟨HC0.out, fun x hx => absurd hx (by omega), fun x hx => absurd hx (by omega), fun x y hx => absurd hx (by omega)⟩, HBA.out⟩
  case round =>
    obtain ⟨k, gy, hk, rfl, hmp, hbel⟩ := hrel
    have HMP := hidD hmp
    have HBR := hidD hbel
    have HGL : Hid (gM < wr.heap.size) := hmp.m.lt
    clear hmp hbel
    by_cases hlt : k < n
    · have hlti : (k : Int) < (n : Int) := by omega
      have HMO := hidD ((HMP.out.more hlt HGL.out).same (S' := fun _ => 0) (fun x _ => by by_cases e : x = k; (· rw [e, upd_same]); (· rw [upd_other e])))
      have HALB := hidD (HWA.out wr (.cells (mkC n 0) (3 : TypeId)))
      have fM : (wr.alloc (.cells (mkC n 0) (3 : TypeId))).cell? ⟨gM, k, none⟩ = some (.slice none 0 0) := ((HMP.out.m.next HALB.out).cell k).trans ((mp_get hlt).trans (by rw [if_neg (Nat.lt_irrefl k)]))
      have fz : (wr.alloc (.cells (mkC n 0) (3 : TypeId))).frozen? ⟨gM, k, none⟩ = false := (HMP.out.m.next HALB.out).frz k
      have HB2 := hidD ((Below.next HBR.out HALB.out).setCell (p := ⟨gM, k, none⟩) (show w1.heap.size ≤ gM from HGB.out) (.slice (some ⟨wr.heap.size, 0, none⟩) n n))
      go_wp2_with fail
      go_roundw
      case rel => exact ⟨k + 1, _, by omega, by go_num, HMO.out, HB2.out⟩
      case measure => simp [intOf]; omega
    · obtain rfl : k = n := by omega
      have hnni : ¬ (k : Int) < (k : Int) := by omega
      have HMA := hidD HMP.out.all
      have HGY : Hid (∀ y, y < k → w1.heap.size ≤ gy y) := fun y hy => by have := (HMP.out.b y hy).1; have := HGB.out; omega
      obtain ⟨wL, hwL⟩ : ∃ wL, wL = wr := ⟨_, rfl⟩
      subst hwL
      have HGYL : Hid (∀ y, y < k → gy y < wL.heap.size) := fun y hy => (HMP.out.b y hy).2
      have HBL := hidD (Below.next HB1.out HBR.out)
      clear HMP HGL hmk
      -- PART B
      have HKK : Hid (∀ w', Below wL.heap.size wL w' → ∃ i : KB wL [gM], w' = i.v) := fun w' hb => ⟨⟨w', fun y hy => by rw [List.mem_singleton] at hy; subst hy; exact hb.block _ HMA.out.m.lt⟩, rfl⟩
      have fM : wL.cell? ⟨gM, st, none⟩ = some (.slice (some ⟨gy st, 0, none⟩) k k) := (HMA.out.m.cell _).trans (ma_get hstn)
      obtain ⟨gs, hgs⟩ : ∃ gs, gs = gy st := ⟨_, rfl⟩
      rw [← hgs] at fM
      have HGS := hidD hgs
      clear hgs
      have gFM : ∀ i : KB wL [gM], i.v.cell? ⟨gM, st, none⟩ = some (.slice (some ⟨gs, 0, none⟩) k k) := fun i => (i.cell (b := gM) (by simp) _).trans fM
      have HDW : Hid (Below wL.heap.size wL wL.drew) := (Below.refl _ _).drew
      go_wp2_with fail
      refine wp_region_seg [0, 0, 1, 2, 2, 0, 3, 4, 99] 2 8 [gM] (by kernel_rfl) (by kernel_rfl) (by kernel_rfl) (by kernel_rfl) (by kernel_rfl) (by kernel_rfl) (by kernel_rfl) (by kernel_rfl) (fun _ _ _ _ _ h => h) ?_
      simp only [SegW, pk, Nat.reduceMul, Nat.reduceAdd, Nat.reduceBEq, cond_true, cond_false]
      repeat (go_big_quiet_step (fail))
      refine wpQuiet_nil ?_
      go_wp2_with (go_at_call 50; refine (HSTA.out _ (Below.next HBL.out HDW.out)).mono ?_; rintro e w2 ⟨rfl, hb2⟩; have HB2 := hidD (Below.next HDW.out hb2); clear hb2)
      refine ⟨HKK.out _ HB2.out, ?_⟩
      repeat (go_big_quiet_step (fail))
      refine wpQuiet_nil ?_
      go_wp2_with (go_at_call 73; refine (HEND.out _ (Below.next HBL.out HB2.out)).mono ?_; rintro e w3 ⟨rfl, hw3⟩; subst w3)
      refine ⟨HKK.out _ HB2.out, ?_⟩
      repeat (go_big_quiet_step (fail))
      refine wpQuiet_nil ?_
      have HM3 := hidD (HMA.out.next HB2.out)
      have HRS : Hid (CsAt w2 gs (mkC k 0) 3) := by have := HM3.out.r st hstn; rwa [← HGS.out] at this
      have fb : w2.cell? ⟨gs, tn, none⟩ = some (mkV 0 tn) := (HRS.out.cell tn).trans (mk_get (by omega))
      rw [mkV_zero] at fb
      have hfb : w2.frozen? ⟨gs, tn, none⟩ = false := HRS.out.frz tn
      have HM4 : Hid (MaAt (w2.setCell ⟨gs, tn, none⟩ (.int .i64 1)) gM k gy (upd (fun _ => 0) st (2 ^ tn))) := by
        have h1 := cs_mark HRS.out (i := tn) (by omega)
        rw [Nat.zero_or, HGS.out] at h1
        have h2 := HM3.out.but hstn ((But.refl (gy st) w2).put tn (.int .i64 1)) h1
        rw [HGS.out]
        exact h2
      have HGSB : Hid (w1.heap.size ≤ gs) := by have := HGY.out st hstn; rwa [← HGS.out] at this
      have HBR4 := hidD ((Below.next HBR.out HB2.out).setCell (p := ⟨gs, tn, none⟩) (show w1.heap.size ≤ gs from HGSB.out) (.int .i64 1))
      have HBW4 := hidD (Below.next HB1.out HBR4.out)
      have HSZ4 : Hid (wL.heap.size ≤ (w2.setCell ⟨gs, tn, none⟩ (.int .i64 1)).heap.size) := by have := HB2.out.size; show _ ≤ _; simpa using this
      clear HKK HSTA HEND HDW HMA HM3 fM gFM
      go_upto_region 10 with fail
      clear fb hfb
      generalize hw4 : w2.setCell ⟨gs, tn, none⟩ (.int .i64 1) = w4 at *
      clear hw4
      go_upto_region 12 with first
        | (go_at_call 71; refine (HFI.out _ HBW4.out).mono ?_; rintro e w5 ⟨gF, gf, S, rfl, hmf, hsp, hgF, hgf, hS, hb5⟩; have HMF := hidD hmf; have HSP := hidD hsp; have HGF := hidD hgF; have HGf := hidD hgf; have HSB := hidD hS; have HB5 := hidD hb5; have HBW5 := hidD (Below.next HBW4.out hb5); clear hmf hsp hgF hgf hS hb5)
        | (go_at_call 67; refine (HNU.out _ HBW5.out).mono ?_; rintro e w6 ⟨gn, rfl, hcn, hgn, hb6⟩; have HCN := hidD hcn; have HGN : Hid (w4.heap.size ≤ gn) := Nat.le_trans HB5.out.size hgn; have HB6 := hidD (Below.next HB5.out hb6); have HB56 := hidD hb6; have HBW6 := hidD (Below.next HBW5.out hb6); clear hcn hgn hb6)
        | (go_at_call 74; refine (HRE.out _ HBW6.out).mono ?_; rintro e w7 ⟨gv, LV, rfl, hcv, hre, hgv, hb7⟩; have HCV := hidD hcv; have HRI := hidD hre; have HGV : Hid (w4.heap.size ≤ gv) := Nat.le_trans HB6.out.size hgv; have HB7 := hidD (Below.next HB6.out hb7); have HB67 := hidD hb7; clear hcv hre hgv hb7)
      have HFW : Hid (FoW w7 k gF gn gv nul LV gf S) := ⟨(HMF.out.next HB56.out).next HB67.out, HCN.out.next HB67.out, HCV.out⟩
      have HM7 := hidD (HM4.out.next HB7.out)
      have HBR7 := hidD (Below.next HBR4.out HB7.out)
      have HAP : Hid (∀ y, y < k → gF ≠ gy y ∧ (∀ z, z < k → gf z ≠ gy y) ∧ gn ≠ gy y ∧ gv ≠ gy y) := fun y hy => by
        have h1 := HGYL.out y hy
        have h2 := HSZ4.out
        have h3 := HGF.out
        have h5 := HGN.out
        have h6 := HGV.out
        refine ⟨by omega, fun z hz => ?_, by omega, by omega⟩
        have h4 := HGf.out z hz
        omega
      have HPJ := hidD (HPW.out LV S HSB.out)
      have HPK := hidD (fun D hD j hj => HPX.out LV S D HSB.out hD j hj)
      have HNJ0 : Hid (∀ j, dpIt R k LV nul S (upd (fun _ => 0) st (2 ^ tn)) (j + 1) = dpTo R k LV nul S (dpIt R k LV nul S (upd (fun _ => 0) st (2 ^ tn)) j) R.length) := fun _ => rfl
      have HP0 : Hid (∀ D, dpTo R k LV nul S D 0 = D) := fun _ => rfl
      have HPN : Hid (∀ D i, dpTo R k LV nul S D (i + 1) = if LV.testBit (R.getD i (0, [])).1 then dqTo k nul S (R.getD i (0, [])).1 (R.getD i (0, [])).2 (dpTo R k LV nul S D i) (R.getD i (0, [])).2.length else dpTo R k LV nul S D i) := fun _ _ => rfl
      have HD0 : Hid (dpIt R k LV nul S (upd (fun _ => 0) st (2 ^ tn)) 0 = upd (fun _ => 0) st (2 ^ tn)) := rfl
      clear HPW HPX HFI HNU HRE HSY HMF HCN HCV HM4 HB5 HB6 HB7 HB56 HB67 HBW5 HBW6 HGF HGf HGN HGV HSZ4 HGYL HRS HGS HGSB HB2 HBR4 HBW4
      go_wp2_with fail
      go_loopw [11, 12, 13, 14, 15] (fun x _ _ _ _ wr => ∃ (j : Nat) (b : Bool), x = .bool b ∧ MaAt wr gM k gy (dpIt R k LV nul S (upd (fun _ => 0) st (2 ^ tn)) j) ∧ FoW wr k gF gn gv nul LV gf S ∧ (b = false → ∀ x, x < k → dpTo R k LV nul S (dpIt R k LV nul S (upd (fun _ => 0) st (2 ^ tn)) j) R.length x = dpIt R k LV nul S (upd (fun _ => 0) st (2 ^ tn)) j x) ∧ Below w1.heap.size w1 wr) (fun x _ _ _ _ wr => mleft2 x wr gy k)
      case atStart => exact ⟨0, true, rfl, by rw [HD0.out]; exact HM7.out, HFW.out, fun h => (by cases h), HBR7.out⟩
      case round =>
        obtain ⟨j, b, rfl, hma, hfw, hst, hbel⟩ := hrel
        have HST := hidD hst
        have HMJ := hidD hma
        have HFJ := hidD hfw
        have HBJ := hidD hbel
        have HPB := hidD (HPJ.out j)
        have HNJ := hidD (HNJ0.out j)
        clear hma hfw hst hbel
        cases b with
        | false =>
          have HDO : Hid (DoIs R k tn st LV nul S (dpIt R k LV nul S (upd (fun _ => 0) st (2 ^ tn)) j)) := ⟨j, rfl, HST.out rfl⟩
          generalize dpIt R k LV nul S (upd (fun _ => 0) st (2 ^ tn)) j = DD at *
          have f5 : wr.cell? ⟨gM, x, none⟩ = some (.slice (some ⟨gy x, 0, none⟩) k k) := (HMJ.out.m.cell _).trans (ma_get hx2)
          have HMK := hidD (refMarked_any k (DD x) (gy x) (by omega) wr (HMJ.out.r x hx2))
          have hx2i : (x : Int) < (k : Int) := by omega
          have HBJW := hidD (Below.next HB1.out HBJ.out)
          clear HST HNJ0 HNJ
          go_wp2_with (go_at_call 72; refine HMK.out.mono ?_; rintro e w9 ⟨u, rfl, hrow, hb9⟩; have HIL := hidD (il_of_own hrow); have HB9 := hidD (Below.next HBJW.out hb9); clear hrow hb9)
          refine bodyPost_ret (v := u) (by simp [results, Tryd.results24, go_sem]) rfl ?_
          exact ⟨LV, S, DD, u, rfl, HRI.out, HSP.out, HSB.out, HDO.out, HPB.out, HIL.out, HB9.out⟩
        | true =>
          clear HST
          generalize hM0 : dpIt R k LV nul S (upd (fun _ => 0) st (2 ^ tn)) j = D0 at *
          clear hM0
          have HSUM := hidD (HMJ.out.sum HPB.out)
          obtain ⟨wo, hwo⟩ : ∃ wo, wo = wr := ⟨_, rfl⟩
          subst hwo
          go_wp2_with fail
          go_loopw [11, 12, 13, 14, 15] (fun x i _ _ _ wr => ∃ (q : Nat) (b : Bool), q ≤ rn ∧ i = .int .i64 (q : Int) ∧ x = .bool b ∧ MaAt wr gM k gy (dpTo R k LV nul S D0 q) ∧ FoW wr k gF gn gv nul LV gf S ∧ (b = false → ∀ x, x < k → dpTo R k LV nul S D0 q x = D0 x) ∧ (b = true → msum D0 k < msum (dpTo R k LV nul S D0 q) k) ∧ Below w1.heap.size w1 wr) (fun _ i _ _ _ _ => rn - (intOf i).toNat)
          case atStart => exact ⟨0, false, Nat.zero_le _, rfl, rfl, by rw [HP0.out]; exact HMJ.out, HFJ.out, fun _ x _ => by rw [HP0.out], fun h => (by cases h), HBJ.out⟩
          case round =>
            obtain ⟨q, b, hq, rfl, rfl, hma, hfw, hbf, hbt, hbel⟩ := hrel
            have HMQ := hidD hma
            have HFQ := hidD hfw
            have HBF := hidD hbf
            have HBT := hidD hbt
            have HBR2 := hidD hbel
            have HBW := hidD (Below.next HB1.out hbel)
            have f2 := HG.out.c2 wr HBW.out
            rw [HRN.out] at f2
            clear hma hfw hbf hbt hbel
            by_cases hqt : q < rn
            · have hqti : (q : Int) < (rn : Int) := by omega
              have f3 := HG.out.lf wr HBW.out q (by rw [HRN.out]; exact hqt)
              obtain ⟨ar, cr2, hrt⟩ := HG.out.rt q (by rw [HRN.out]; exact hqt)
              have HRT := hidD (fun w' (hb : Below w.heap.size w w') => (hrt w' hb).2)
              obtain ⟨f4, hil⟩ := hrt wr HBW.out
              obtain ⟨hlf, hrl2, hrs⟩ := HRO.out q (by rw [HRN.out]; exact hqt)
              have HRS2 : Hid (SymL k (R.getD q (0, [])).2) := hrs
              have HNQ0 := hidD (HPN.out D0 q)
              have HPQ := hidD (HPK.out D0 HPB.out q (by omega))
              have HGEQ := hidD (fun y => dp_ge R k LV nul S D0 y q)
              have HAL0 := hidD (HWA.out wr)
              clear hrt hil hrs
              generalize hDq : dpTo R k LV nul S D0 q = Dq at *
              clear hDq
              generalize hRR : (R.getD q (0, [])).2 = rr at *
              clear hRR
              generalize hLf : (R.getD q (0, [])).1 = lf at *
              clear hLf
              generalize hnr : rr.length = nr at *
              have HNR := hidD hnr
              clear hnr
              have hlfi : (lf : Int) < (k : Int) := by omega
              obtain ⟨wp, hwp⟩ : ∃ wp, wp = wr := ⟨_, rfl⟩
              subst hwp
              go_upto_region 19 with fail
              have HC8 : Hid (CsAt (wp.alloc (.cells #[.int .i64 (lf : Int), .slice ar nr cr2] (80 : TypeId))) wp.heap.size #[.int .i64 (lf : Int), .slice ar nr cr2] 80) := heap_alloc_last _ _
              have HB8 := hidD (HAL0.out (.cells #[.int .i64 (lf : Int), .slice ar nr cr2] (80 : TypeId)))
              clear f2 f3 f4 HAL0
              generalize hw8 : wp.alloc (.cells #[.int .i64 (lf : Int), .slice ar nr cr2] (80 : TypeId)) = w8 at *
              clear hw8
              have HM8 := hidD (HMQ.out.next HB8.out)
              have HF8 := hidD (HFQ.out.next HB8.out)
              have HBR8 := hidD (Below.next HBR2.out HB8.out)
              have HNE8 : Hid (∀ y, y < k → wp.heap.size ≠ gy y) := fun y hy => by have := (HMQ.out.r y hy).lt; omega
              obtain ⟨g8, hg8⟩ : ∃ g, g = wp.heap.size := ⟨_, rfl⟩
              rw [← hg8] at HC8 HNE8 ⊢
              clear hg8 HB8
              cases hlv : LV.testBit lf with
              | false =>
                have HN : Hid (dpTo R k LV nul S D0 (q + 1) = Dq) := by show _ = _; rw [HNQ0.out, if_neg (by rw [hlv]; decide)]
                have c0 : w8.cell? ⟨g8, 0, none⟩ = some (.int .i64 (lf : Int)) := HC8.out.cell 0
                have c1 : w8.cell? ⟨g8, 1, none⟩ = some (.slice ar nr cr2) := HC8.out.cell 1
                have cv : w8.cell? ⟨gv, lf, none⟩ = some (.int .i64 0) := (HF8.out.v.cell lf).trans ((mk_get hlf).trans (by rw [mkV_off hlv]))
                go_wp2_with fail
                go_loopw [11, 14, 15] (fun x i _ wr => x = .bool b ∧ i = .int .i64 0 ∧ wr = w8) (fun _ _ _ _ => 0)
                case atStart => exact ⟨rfl, rfl, rfl⟩
                case round =>
                  obtain ⟨rfl, rfl, rfl⟩ := hrel
                  by_cases hn0 : 0 < nr
                  · have hn0i : (0 : Int) < (nr : Int) := by omega
                    go_wp2_with fail
                    go_roundw
                    case rel => exact ⟨q + 1, b, by omega, by go_num, rfl, by rw [HN.out]; exact HM8.out, HF8.out, fun h x hx => by rw [HN.out]; exact HBF.out h x hx, fun h => by rw [HN.out]; exact HBT.out h, HBR8.out⟩
                    case measure => simp [intOf]; omega
                  · have hn0i : ¬ (0 : Int) < (nr : Int) := by omega
                    go_wp2_with fail
                    go_roundw
                    case rel => exact ⟨q + 1, b, by omega, by go_num, rfl, by rw [HN.out]; exact HM8.out, HF8.out, fun h x hx => by rw [HN.out]; exact HBF.out h x hx, fun h => by rw [HN.out]; exact HBT.out h, HBR8.out⟩
                    case measure => simp [intOf]; omega
              | true =>
                have HN : Hid (dpTo R k LV nul S D0 (q + 1) = dqTo k nul S lf rr Dq nr) := by show _ = _; rw [HNQ0.out, if_pos hlv]
                have HQ0 : Hid (dqTo k nul S lf rr Dq 0 = Dq) := rfl
                go_wp2_with fail
                go_loopw [11, 14, 15] (fun x i _ wr => ∃ (c : Nat) (b2 : Bool), c ≤ nr ∧ i = .int .i64 (c : Int) ∧ x = .bool b2 ∧ MaAt wr gM k gy (dqTo k nul S lf rr Dq c) ∧ FoW wr k gF gn gv nul LV gf S ∧ CsAt wr g8 #[.int .i64 (lf : Int), .slice ar nr cr2] 80 ∧ (b2 = false → ∀ x, x < k → dqTo k nul S lf rr Dq c x = D0 x) ∧ (b2 = true → msum D0 k < msum (dqTo k nul S lf rr Dq c) k) ∧ Below w1.heap.size w1 wr) (fun _ i _ _ => nr - (intOf i).toNat)
                case atStart => exact ⟨0, b, Nat.zero_le _, rfl, rfl, by rw [HQ0.out]; exact HM8.out, HF8.out, HC8.out, fun h x hx => by rw [HQ0.out]; exact HBF.out h x hx, fun h => by rw [HQ0.out]; exact HBT.out h, HBR8.out⟩
                case round =>
                  obtain ⟨c, b2, hc, rfl, rfl, hma, hfw, hc8, hbf, hbt, hbel⟩ := hrel
                  have HMC := hidD hma
                  have HFC := hidD hfw
                  have HCC := hidD hc8
                  have HBF2 := hidD hbf
                  have HBT2 := hidD hbt
                  have HBC := hidD hbel
                  have HBWC := hidD (Below.next HB1.out hbel)
                  have c0 : wr.cell? ⟨g8, 0, none⟩ = some (.int .i64 (lf : Int)) := hc8.cell 0
                  have c1 : wr.cell? ⟨g8, 1, none⟩ = some (.slice ar nr cr2) := hc8.cell 1
                  have cv : wr.cell? ⟨gv, lf, none⟩ = some (.int .i64 1) := (hfw.v.cell lf).trans ((mk_get hlf).trans (by rw [mkV_on hlv]))
                  clear hma hfw hc8 hbf hbt hbel
                  by_cases hct : c < nr
                  · have hcti : (c : Int) < (nr : Int) := by omega
                    have HPC := hidD (dq_pow HSB.out hlf HRS2.out HPQ.out (nul := nul) c (by rw [HNR.out]; omega))
                    have HGC := hidD (fun y => Nat.le_trans (HGEQ.out y) (dq_ge k nul S lf rr Dq y c))
                    have HNX0 : Hid (∀ c, dqTo k nul S lf rr Dq (c + 1) = if (rr.drop (c + 1)).all (fun x => nul.testBit x.toNat) then
                  upd (upd (dqTo k nul S lf rr Dq c) (rr.getD c 0).toNat (dqTo k nul S lf rr Dq c (rr.getD c 0).toNat ||| fiS (gsN k nul S) (rr.drop (c + 1)))) (rr.getD c 0).toNat ((upd (dqTo k nul S lf rr Dq c) (rr.getD c 0).toNat (dqTo k nul S lf rr Dq c (rr.getD c 0).toNat ||| fiS (gsN k nul S) (rr.drop (c + 1)))) (rr.getD c 0).toNat ||| (upd (dqTo k nul S lf rr Dq c) (rr.getD c 0).toNat (dqTo k nul S lf rr Dq c (rr.getD c 0).toNat ||| fiS (gsN k nul S) (rr.drop (c + 1)))) lf)
                else upd (dqTo k nul S lf rr Dq c) (rr.getD c 0).toNat (dqTo k nul S lf rr Dq c (rr.getD c 0).toNat ||| fiS (gsN k nul S) (rr.drop (c + 1)))) := fun _ => rfl
                    have HFF : Hid (fiS (gsN k nul S) (rr.drop (c + 1)) < 2 ^ k) := fis_pow HSB.out _ fun y hy => symL_mem HRS2.out y (List.mem_of_mem_drop hy)
                    obtain ⟨xs, hxs, hxk⟩ := HRS2.out c (by rw [HNR.out]; exact hct)
                    obtain ⟨hmc, hc64, hce⟩ := (HRT.out wr HBWC.out).at
                    obtain ⟨ga, oa, rfl, hga, hcx⟩ := hce c hct
                    rw [hxs] at hcx
                    have HNX := hidD (HNX0.out c)
                    rw [hxs, Int.toNat_natCast] at HNX
                    obtain ⟨a3, c3, hsl, hil3⟩ := il_fromQ (Q := fun w' => Below w.heap.size w w') (fun w' hb => HRT.out w' hb) HBWC.out (c + 1) (by omega)
                    have hsl : ∀ w, (Instr.sliceAt 43 (.slice (some ⟨ga, oa, none⟩) nr cr2) (some (.int .i64 ((c : Int) + 1))) none none).run Tryd.prog w = .ok (.slice a3 (nr - (c + 1)) c3) w := hsl
                    have HIL3 := hidD hil3
                    have hdl : (rr.drop (c + 1)).length ≤ 1048576 := by rw [List.length_drop, HNR.out]; omega
                    have HSD := hidD (sym_drop HRS2.out (c + 1))
                    clear hce hil3 HNX0
                    generalize hDR : rr.drop (c + 1) = DR at *
                    clear hDR
                    generalize hQQ : dqTo k nul S lf rr Dq c = Q at *
                    clear hQQ
                    obtain ⟨hap1, hap2, hap3, hap4⟩ := HAP.out xs hxk
                    have HA4 : Hid (gv ≠ gy xs) := hap4
                    have HFD : Hid (FoW wr.drew k gF gn gv nul LV gf S) := ⟨⟨HFC.out.f.m, HFC.out.f.r, HFC.out.f.inj⟩, HFC.out.u, HFC.out.v⟩
                    have HMD : Hid (MaAt wr.drew gM k gy Q) := ⟨HMC.out.m, HMC.out.r, HMC.out.inj⟩
                    have HBD := hidD HBC.out.drew
                    have HBWD := hidD HBWC.out.drew
                    have HCD : Hid (CsAt wr.drew g8 #[.int .i64 (lf : Int), .slice (some ⟨ga, oa, none⟩) nr cr2] 80) := HCC.out
                    have hgyx := HGY.out xs hxk
                    have HBG := hidD (refBegins_any k nul (Q xs) gF gn (gy xs) gf S (by omega) HSB.out DR hdl HSD.out (.slice a3 (nr - (c + 1)) c3) wr.drew HFD.out.f.m hap1 HFD.out.f.r (fun z hz e => absurd e (hap2 z hz)) HFD.out.u hap3 (HMD.out.r xs hxk) (fun w' hb => HIL3.out w' (Below.trans HBWD.out (hb.bel.mono (Nat.le_trans HB1.out.size hgyx)))))
                    generalize hFF : fiS (gsN k nul S) DR = FF at *
                    clear hFF
                    obtain ⟨A, hA⟩ : ∃ A, A = upd Q xs (Q xs ||| FF) := ⟨_, rfl⟩
                    have HAA := hidD hA
                    rw [← hA] at HNX
                    clear hA
                    have HPOST : Hid (∀ w', CsAt w' (gy xs) (mkC k (Q xs ||| FF)) 3 → But (gy xs) wr.drew w' → MaAt w' gM k gy A ∧ FoW w' k gF gn gv nul LV gf S ∧ CsAt w' g8 #[.int .i64 (lf : Int), .slice (some ⟨ga, oa, none⟩) nr cr2] 80 ∧ Below w1.heap.size w1 w') := fun w' h1 h2 => ⟨by rw [HAA.out]; exact HMD.out.but hxk h2 h1, HFD.out.but h2 hap1 hap2 hap3 hap4, But.cs HCD.out h2 (HNE8.out xs hxk), HBD.out.trans (h2.bel.mono hgyx)⟩
                    have HPA : Hid (∀ y, y < k → A y < 2 ^ k) := fun y hy => by
                      rw [HAA.out]
                      by_cases e : y = xs
                      · rw [e, upd_same]; exact Nat.or_lt_two_pow (HPC.out xs hxk) HFF.out
                      · rw [upd_other e]; exact HPC.out y hy
                    have HGA : Hid (∀ y, D0 y ≤ A y) := fun y => by rw [HAA.out]; exact Nat.le_trans (HGC.out y) (up_ge y)
                    have HS1 : Hid (Q xs ||| FF = Q xs → A = Q) := fun h => by rw [HAA.out]; exact same_step h
                    have HG1 : Hid (¬ (Q xs ||| FF = Q xs) → msum D0 k < msum A k) := fun h => by rw [HAA.out]; exact grow_step hxk HGC.out h
                    have HS2 : Hid (A xs ||| A lf = A xs → upd A xs (A xs ||| A lf) = A) := fun h => same_step h
                    have HG2 : Hid (¬ (A xs ||| A lf = A xs) → msum D0 k < msum (upd A xs (A xs ||| A lf)) k) := fun h => grow_step hxk HGA.out h
                    have cM : wr.cell? ⟨gM, xs, none⟩ = some (.slice (some ⟨gy xs, 0, none⟩) k k) := (HMC.out.m.cell _).trans (ma_get hxk)
                    have HALL0 : Hid (∀ w', FoW w' k gF gn gv nul LV gf S → Below w1.heap.size w1 w' → Calls Tryd.prog 66 #[.slice (some ⟨gn, 0, none⟩) k k, .slice a3 (nr - (c + 1)) c3] w' fun e w'' => e = .returned (.bool (DR.all fun x => nul.testBit x.toNat)) ∧ w'' = w') := fun w' h1 h2 => refAll_any k nul gn (by omega) DR hdl HSD.out _ w' h1.u (HIL3.out w' (Below.next HB1.out h2))
                    have HUN0 : Hid (∀ w', MaAt w' gM k gy A → FoW w' k gF gn gv nul LV gf S → CsAt w' g8 #[.int .i64 (lf : Int), .slice (some ⟨ga, oa, none⟩) nr cr2] 80 → Below w1.heap.size w1 w' → Calls Tryd.prog 75 #[.slice (some ⟨gy xs, 0, none⟩) k k, .slice (some ⟨gy lf, 0, none⟩) k k] w' fun e w'' => e = .returned (.bool (!decide (A xs ||| A lf = A xs))) ∧ MaAt w'' gM k gy (upd A xs (A xs ||| A lf)) ∧ FoW w'' k gF gn gv nul LV gf S ∧ CsAt w'' g8 #[.int .i64 (lf : Int), .slice (some ⟨ga, oa, none⟩) nr cr2] 80 ∧ Below w1.heap.size w1 w'') := fun w' h1 h2 h3 h4 => (refUnion_any k (A xs) (A lf) (gy xs) (gy lf) (by omega) (HPA.out lf hlf) w' (h1.r xs hxk) (h1.r lf hlf) (fun e => by rw [h1.inj lf xs hlf hxk e])).mono fun e w'' ⟨h5, h6, h7⟩ => ⟨h5, h1.but hxk h7 h6, h2.but h7 hap1 hap2 hap3 hap4, But.cs h3 h7 (HNE8.out xs hxk), h4.trans (h7.bel.mono hgyx)⟩
                    have hxki : (xs : Int) < (k : Int) := by omega
                    clear hap1 hap2 hap3 hap4 hgyx hdl HFD HMD HBD HCD HBWD HIL3 HSD HFF HPC
                    generalize hgX : gy xs = gX at *
                    have HGXE := hidD hgX
                    clear hgX
                    have k1 : ∀ i : KB wr [gM, g8], i.v.cell? ⟨gM, xs, none⟩ = some (.slice (some ⟨gX, 0, none⟩) k k) := fun i => (i.cell (b := gM) (by simp) _).trans cM
                    have k2 : ∀ i : KB wr [gM, g8], i.v.cell? ⟨g8, 1, none⟩ = some (.slice (some ⟨ga, oa, none⟩) nr cr2) := fun i => (i.cell (b := g8) (by simp) _).trans c1
                    go_wp2_with fail
                    clear c0 c1 cv cM hcx
                    refine wp_region_seg [0, 0, 0, 0, 0, 0, 0, 0, 0, 0, 0, 99, 99, 99, 99, 99] 0 11 [gM, g8] (by kernel_rfl) (by kernel_rfl) (by kernel_rfl) (by kernel_rfl) (by kernel_rfl) (by kernel_rfl) (by kernel_rfl) (by kernel_rfl) (fun _ _ _ _ _ h => h) ?_
                    simp only [SegW, pk, Nat.reduceMul, Nat.reduceBEq, cond_true, cond_false]
                    repeat (go_big_quiet_step (fail))
                    refine wpQuiet_nil ?_
                    by_cases heq : Q xs ||| FF = Q xs
                    · have HEQ := hidD (HS1.out heq)
                      have HF1 : Hid (b2 = false → ∀ x, x < k → A x = D0 x) := fun h x hx => by rw [HEQ.out]; exact HBF2.out h x hx
                      have HT1 : Hid (b2 = true → msum D0 k < msum A k) := fun h => by rw [HEQ.out]; exact HBT2.out h
                      have HBB : Hid ((!decide (Q xs ||| FF = Q xs)) = false) := by show _ = _; rw [decide_eq_true heq]; rfl
                      rw [HBB.out] at HBG
                      clear heq HBB
                      go_upto_region 24 with (go_at_call 70; refine HBG.out.mono ?_; rintro e w9 ⟨rfl, hc9, hb9⟩; have HP9 := hidD (HPOST.out w9 hc9 hb9); clear hc9 hb9)
                      all_goals first | exact (un_bool6 (by assumption)).elim | skip
                      have e1 : w9.cell? ⟨g8, 1, none⟩ = some (.slice (some ⟨ga, oa, none⟩) nr cr2) := HP9.out.2.2.1.cell 1
                      have HALL := hidD (HALL0.out w9 HP9.out.2.1 HP9.out.2.2.2)
                      cases hall : (DR.all fun x => nul.testBit x.toNat) with
                      | false =>
                        rw [hall] at HALL
                        have HQN : Hid (dqTo k nul S lf rr Dq (c + 1) = A) := by show _ = _; rw [HNX.out, if_neg (by rw [hall]; decide)]
                        clear hall
                        go_wp2_with (go_at_call 66; refine HALL.out.mono ?_; rintro e w10 ⟨rfl, hw⟩; subst w10)
                        go_roundw
                        case rel => exact ⟨c + 1, b2, by omega, by go_num, rfl, by rw [HQN.out]; exact HP9.out.1, HP9.out.2.1, HP9.out.2.2.1, by rw [HQN.out]; exact HF1.out, by rw [HQN.out]; exact HT1.out, HP9.out.2.2.2⟩
                        case measure => simp [intOf]; omega
                      | true =>
                        rw [hall] at HALL
                        have HQN : Hid (dqTo k nul S lf rr Dq (c + 1) = upd A xs (A xs ||| A lf)) := by show _ = _; rw [HNX.out, if_pos hall]
                        clear hall
                        have eX : w9.cell? ⟨gM, xs, none⟩ = some (.slice (some ⟨gX, 0, none⟩) k k) := (HP9.out.1.m.cell _).trans ((ma_get hxk).trans (by rw [HGXE.out]))
                        have eL : w9.cell? ⟨gM, lf, none⟩ = some (.slice (some ⟨gy lf, 0, none⟩) k k) := (HP9.out.1.m.cell _).trans (ma_get hlf)
                        have e0 : w9.cell? ⟨g8, 0, none⟩ = some (.int .i64 (lf : Int)) := HP9.out.2.2.1.cell 0
                        have k3 : ∀ i : KB w9 [gM, g8], i.v.cell? ⟨gM, xs, none⟩ = some (.slice (some ⟨gX, 0, none⟩) k k) := fun i => (i.cell (b := gM) (by simp) _).trans eX
                        have k4 : ∀ i : KB w9 [gM, g8], i.v.cell? ⟨gM, lf, none⟩ = some (.slice (some ⟨gy lf, 0, none⟩) k k) := fun i => (i.cell (b := gM) (by simp) _).trans eL
                        have k5 : ∀ i : KB w9 [gM, g8], i.v.cell? ⟨g8, 0, none⟩ = some (.int .i64 (lf : Int)) := fun i => (i.cell (b := g8) (by simp) _).trans e0
                        have HUN := hidD (HUN0.out w9.drew ⟨HP9.out.1.m, HP9.out.1.r, HP9.out.1.inj⟩ ⟨⟨HP9.out.2.1.f.m, HP9.out.2.1.f.r, HP9.out.2.1.f.inj⟩, HP9.out.2.1.u, HP9.out.2.1.v⟩ HP9.out.2.2.1 HP9.out.2.2.2.drew)
                        go_wp2_with (go_at_call 66; refine HALL.out.mono ?_; rintro e w10 ⟨rfl, hw⟩; subst w10)
                        clear eX eL e0 e1
                        refine wp_region_seg [0, 0, 0, 0, 0, 0, 0, 0, 0, 99, 99, 99, 99, 99] 0 9 [gM, g8] (by kernel_rfl) (by kernel_rfl) (by kernel_rfl) (by kernel_rfl) (by kernel_rfl) (by kernel_rfl) (by kernel_rfl) (by kernel_rfl) (fun _ _ _ _ _ h => h) ?_
                        simp only [SegW, pk, Nat.reduceMul, Nat.reduceBEq, cond_true, cond_false]
                        repeat (go_big_quiet_step (fail))
                        refine wpQuiet_nil ?_
                        by_cases heq2 : A xs ||| A lf = A xs
                        · have HEQ2 := hidD (HS2.out heq2)
                          rw [decide_eq_true heq2, HEQ2.out] at HUN
                          rw [HEQ2.out] at HQN
                          clear heq2
                          go_wp2_with (go_at_call 75; refine HUN.out.mono ?_; rintro e w11 ⟨rfl, hp11⟩; have HP11 := hidD hp11; clear hp11)
                          all_goals first | exact (un_bool6 (by assumption)).elim | skip
                          go_roundw
                          case rel => exact ⟨c + 1, b2, by omega, by go_num, rfl, by rw [HQN.out]; exact HP11.out.1, HP11.out.2.1, HP11.out.2.2.1, by rw [HQN.out]; exact HF1.out, by rw [HQN.out]; exact HT1.out, HP11.out.2.2.2⟩
                          case measure => simp [intOf]; omega
                        · have HGR2 := hidD (HG2.out heq2)
                          rw [decide_eq_false heq2] at HUN
                          clear heq2
                          go_wp2_with (go_at_call 75; refine HUN.out.mono ?_; rintro e w11 ⟨rfl, hp11⟩; have HP11 := hidD hp11; clear hp11)
                          all_goals first | exact (un_bool6 (by assumption)).elim | skip
                          go_roundw
                          case rel => exact ⟨c + 1, true, by omega, by go_num, rfl, by rw [HQN.out]; exact HP11.out.1, HP11.out.2.1, HP11.out.2.2.1, fun h => (by cases h), fun _ => by rw [HQN.out]; exact HGR2.out, HP11.out.2.2.2⟩
                          case measure => simp [intOf]; omega
                    · have HT0 := hidD (HG1.out heq)
                      have HF1 : Hid (true = false → ∀ x, x < k → A x = D0 x) := fun h => (by cases h)
                      have HT1 : Hid (true = true → msum D0 k < msum A k) := fun _ => HT0.out
                      have HBB : Hid ((!decide (Q xs ||| FF = Q xs)) = true) := by show _ = _; rw [decide_eq_false heq]; rfl
                      rw [HBB.out] at HBG
                      clear heq HBB
                      go_upto_region 24 with (go_at_call 70; refine HBG.out.mono ?_; rintro e w9 ⟨rfl, hc9, hb9⟩; have HP9 := hidD (HPOST.out w9 hc9 hb9); clear hc9 hb9)
                      all_goals first | exact (un_bool6 (by assumption)).elim | skip
                      have e1 : w9.cell? ⟨g8, 1, none⟩ = some (.slice (some ⟨ga, oa, none⟩) nr cr2) := HP9.out.2.2.1.cell 1
                      have HALL := hidD (HALL0.out w9 HP9.out.2.1 HP9.out.2.2.2)
                      cases hall : (DR.all fun x => nul.testBit x.toNat) with
                      | false =>
                        rw [hall] at HALL
                        have HQN : Hid (dqTo k nul S lf rr Dq (c + 1) = A) := by show _ = _; rw [HNX.out, if_neg (by rw [hall]; decide)]
                        clear hall
                        go_wp2_with (go_at_call 66; refine HALL.out.mono ?_; rintro e w10 ⟨rfl, hw⟩; subst w10)
                        go_roundw
                        case rel => exact ⟨c + 1, true, by omega, by go_num, rfl, by rw [HQN.out]; exact HP9.out.1, HP9.out.2.1, HP9.out.2.2.1, by rw [HQN.out]; exact HF1.out, fun _ => by rw [HQN.out]; exact HT0.out, HP9.out.2.2.2⟩
                        case measure => simp [intOf]; omega
                      | true =>
                        rw [hall] at HALL
                        have HQN : Hid (dqTo k nul S lf rr Dq (c + 1) = upd A xs (A xs ||| A lf)) := by show _ = _; rw [HNX.out, if_pos hall]
                        clear hall
                        have eX : w9.cell? ⟨gM, xs, none⟩ = some (.slice (some ⟨gX, 0, none⟩) k k) := (HP9.out.1.m.cell _).trans ((ma_get hxk).trans (by rw [HGXE.out]))
                        have eL : w9.cell? ⟨gM, lf, none⟩ = some (.slice (some ⟨gy lf, 0, none⟩) k k) := (HP9.out.1.m.cell _).trans (ma_get hlf)
                        have e0 : w9.cell? ⟨g8, 0, none⟩ = some (.int .i64 (lf : Int)) := HP9.out.2.2.1.cell 0
                        have k3 : ∀ i : KB w9 [gM, g8], i.v.cell? ⟨gM, xs, none⟩ = some (.slice (some ⟨gX, 0, none⟩) k k) := fun i => (i.cell (b := gM) (by simp) _).trans eX
                        have k4 : ∀ i : KB w9 [gM, g8], i.v.cell? ⟨gM, lf, none⟩ = some (.slice (some ⟨gy lf, 0, none⟩) k k) := fun i => (i.cell (b := gM) (by simp) _).trans eL
                        have k5 : ∀ i : KB w9 [gM, g8], i.v.cell? ⟨g8, 0, none⟩ = some (.int .i64 (lf : Int)) := fun i => (i.cell (b := g8) (by simp) _).trans e0
                        have HUN := hidD (HUN0.out w9.drew ⟨HP9.out.1.m, HP9.out.1.r, HP9.out.1.inj⟩ ⟨⟨HP9.out.2.1.f.m, HP9.out.2.1.f.r, HP9.out.2.1.f.inj⟩, HP9.out.2.1.u, HP9.out.2.1.v⟩ HP9.out.2.2.1 HP9.out.2.2.2.drew)
                        go_wp2_with (go_at_call 66; refine HALL.out.mono ?_; rintro e w10 ⟨rfl, hw⟩; subst w10)
                        clear eX eL e0 e1
                        refine wp_region_seg [0, 0, 0, 0, 0, 0, 0, 0, 0, 99, 99, 99, 99, 99] 0 9 [gM, g8] (by kernel_rfl) (by kernel_rfl) (by kernel_rfl) (by kernel_rfl) (by kernel_rfl) (by kernel_rfl) (by kernel_rfl) (by kernel_rfl) (fun _ _ _ _ _ h => h) ?_
                        simp only [SegW, pk, Nat.reduceMul, Nat.reduceBEq, cond_true, cond_false]
                        repeat (go_big_quiet_step (fail))
                        refine wpQuiet_nil ?_
                        by_cases heq2 : A xs ||| A lf = A xs
                        · have HEQ2 := hidD (HS2.out heq2)
                          rw [decide_eq_true heq2, HEQ2.out] at HUN
                          rw [HEQ2.out] at HQN
                          clear heq2
                          go_wp2_with (go_at_call 75; refine HUN.out.mono ?_; rintro e w11 ⟨rfl, hp11⟩; have HP11 := hidD hp11; clear hp11)
                          all_goals first | exact (un_bool6 (by assumption)).elim | skip
                          go_roundw
                          case rel => exact ⟨c + 1, true, by omega, by go_num, rfl, by rw [HQN.out]; exact HP11.out.1, HP11.out.2.1, HP11.out.2.2.1, by rw [HQN.out]; exact HF1.out, fun _ => by rw [HQN.out]; exact HT0.out, HP11.out.2.2.2⟩
                          case measure => simp [intOf]; omega
                        · have HGR2 := hidD (HG2.out heq2)
                          rw [decide_eq_false heq2] at HUN
                          clear heq2
                          go_wp2_with (go_at_call 75; refine HUN.out.mono ?_; rintro e w11 ⟨rfl, hp11⟩; have HP11 := hidD hp11; clear hp11)
                          all_goals first | exact (un_bool6 (by assumption)).elim | skip
                          go_roundw
                          case rel => exact ⟨c + 1, true, by omega, by go_num, rfl, by rw [HQN.out]; exact HP11.out.1, HP11.out.2.1, HP11.out.2.2.1, fun h => (by cases h), fun _ => by rw [HQN.out]; exact HGR2.out, HP11.out.2.2.2⟩
                          case measure => simp [intOf]; omega
                  · obtain rfl : c = nr := by omega
                    have hcn : ¬ (c : Int) < (c : Int) := by omega
                    go_wp2_with fail
                    go_roundw
                    case rel => exact ⟨q + 1, b2, by omega, by go_num, rfl, by rw [HN.out]; exact HMC.out, HFC.out, by rw [HN.out]; exact HBF2.out, by rw [HN.out]; exact HBT2.out, HBC.out⟩
                    case measure => simp [intOf]; omega
            · obtain rfl : q = rn := by omega
              have HPF := hidD (HPK.out D0 HPB.out q (Nat.le_refl _))
              have HSF := hidD (HMQ.out.sum HPF.out)
              have HTOP := hidD (msum_top k HPF.out)
              go_wp2_with fail
              go_roundw
              case rel => exact ⟨j + 1, b, rfl, by rw [HNJ.out, HRN.out]; exact HMQ.out, HFQ.out, fun h x hx => by
                have hsame : ∀ y, y < k → dpTo R k LV nul S D0 q y = D0 y := HBF.out h
                rw [HNJ.out, HRN.out, dp_congr HRO.out hsame q (by rw [HRN.out]; exact Nat.le_refl _) x hx], HBR2.out⟩
              case measure =>
                cases b with
                | false => unfold mleft2; simp only; omega
                | true =>
                  have h1 := HBT.out rfl
                  have h2 := HSF.out
                  have h3 := HSUM.out
                  have h4 := HTOP.out
                  unfold mleft2
                  simp only
                  rw [h2, h3]
                  omega
end
end Go.Proofs.YtgmbkelmgolkpaaDoor
