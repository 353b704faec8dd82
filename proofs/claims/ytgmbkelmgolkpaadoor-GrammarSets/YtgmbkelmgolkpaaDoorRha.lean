/- The document's Symbols, Start, Name and Of. -/
import Derived.Test.YtgmbkelmgolkpaaDoorGt
import Derived.Test.YtgmbkelmgolkpaaDoorGf
namespace Go.Proofs.YtgmbkelmgolkpaaDoor
open Go.RowKit Go.Maps
set_option linter.unusedVariables false

theorem nm_len {x : Tx} (h : nmS x = true) : x.length ≤ 32 := by
  simp only [nmS, Bool.and_eq_true, decide_eq_true_eq] at h
  exact h.1.1.1.1.2
theorem nam_len {T O : List Tx} (h : Nam T O) (s : Nat) : ((allN T O).getD s []).length ≤ 32 := by
  by_cases hs : s < (allN T O).length
  · by_cases ht : s = T.length
    · subst ht
      have : (allN T O).getD T.length [] = tEnd := by simp [allN, List.getD_eq_getElem?_getD]
      rw [this]; decide
    · rcases alN_split hs ht with ⟨h1, h2⟩ | ⟨k, h1, h2, h3⟩
      · rw [h2]; exact nm_len (h.all _ (.inl (getD_mem h1)))
      · rw [h3]; exact nm_len (h.all _ (.inr (getD_mem h2)))
  · rw [List.getD_eq_getElem?_getD, List.getElem?_eq_none (by omega)]; exact Nat.zero_le _
/-- The document's grammar, in worlds that keep what there was. -/
structure RgW (w0 : World) (p : Nat) (a0 : Option Addr) (k0 : Nat) (a1 : Option Addr) (k1 gr og cr : Nat) (T O : List Tx) (R : Rus) (s : Int) : Prop where
  c0 : ∀ wr, Below w0.heap.size w0 wr → wr.cell? ⟨p, 0, none⟩ = some (.slice a0 T.length k0)
  c1 : ∀ wr, Below w0.heap.size w0 wr → wr.cell? ⟨p, 1, none⟩ = some (.slice a1 O.length k1)
  c2 : ∀ wr, Below w0.heap.size w0 wr → wr.cell? ⟨p, 2, none⟩ = some (.slice (some ⟨gr, og, none⟩) R.length cr)
  c3 : ∀ wr, Below w0.heap.size w0 wr → wr.cell? ⟨p, 3, none⟩ = some (.int .i64 s)
  sT : ∀ wr, Below w0.heap.size w0 wr → SrAt wr p (.slice a0 T.length k0) T
  sO : ∀ wr, Below w0.heap.size w0 wr → SrAt wr p (.slice a1 O.length k1) O
  lf : ∀ wr, Below w0.heap.size w0 wr → ∀ k, k < R.length → wr.cell? ⟨gr, og + k * 2, none⟩ = some (.int .i64 ((R.getD k (0, [])).1 : Int))
  rt : ∀ k, k < R.length → ∃ a c, ∀ wr, Below w0.heap.size w0 wr → wr.cell? ⟨gr, og + k * 2 + 1, none⟩ = some (.slice a (R.getD k (0, [])).2.length c) ∧ IlAt wr (.slice a (R.getD k (0, [])).2.length c) (R.getD k (0, [])).2
  pl : p < w0.heap.size
theorem ru_of_ownE {w : World} {base n : Nat} {e : TypeId} {v : Value} {xs : List Value} {R : List (Nat × List Int)} {B : Nat} (h : w.ownsRow base e 2 v n xs) (hn : n = R.length) (hr : RuB w B xs R) : RuAt w v R := by
  subst hn
  rcases h.2 with ⟨rfl, h0⟩ | ⟨g, cap, cur, rfl, hb, hg, hnc, hcm, hcs, htk⟩
  · exact ⟨none, 0, by rw [h0], fun k hk => absurd hk (by omega)⟩
  · refine ⟨_, cap, rfl, fun k hk => ?_⟩
    obtain ⟨u, e1, e2, e3⟩ := hr.2 k hk
    have c1 := h.cells (g := g) rfl (k * 2) _ e1
    have c2 := h.cells (g := g) rfl (k * 2 + 1) _ e2
    rw [Addr.add_lit] at c1 c2
    refine ⟨g, 0, u, rfl, row_lt hg, c1, ?_, e3.il⟩
    rw [show 0 + k * 2 + 1 = 0 + (k * 2 + 1) by omega]; exact c2
theorem RgAt.gw {w : World} {p : Nat} {T O : List Tx} {R : Rus} {s : Int} (h : RgAt w p T O R s) (hR : 1 ≤ R.length) : ∃ a0 k0 a1 k1 gr og cr, RgW w p a0 k0 a1 k1 gr og cr T O R s := by
  obtain ⟨v0, v1, v2, base, xs, h1, h2, h3, h4, h5⟩ := h
  have hru := ru_of_ownE h4 rfl h5
  obtain ⟨a0, k0, rfl⟩ := h2.shape
  obtain ⟨a1, k1, rfl⟩ := h3.shape
  obtain ⟨ar, cr, rfl, hrc⟩ := hru
  obtain ⟨gr, og, _, rfl, _⟩ := hrc 0 (by omega)
  obtain ⟨c0, c1, c2, c3⟩ := h1.cells
  have hp : p < w.heap.size := row_lt h1
  refine ⟨a0, k0, a1, k1, gr, og, cr, ⟨fun wr hb => (hb.cell (p := ⟨p, 0, none⟩) hp).trans c0, fun wr hb => (hb.cell (p := ⟨p, 1, none⟩) hp).trans c1, fun wr hb => (hb.cell (p := ⟨p, 2, none⟩) hp).trans c2, fun wr hb => (hb.cell (p := ⟨p, 3, none⟩) hp).trans c3, fun wr hb => h2.next hb, fun wr hb => h3.next hb, fun wr hb k hk => ?_, fun k hk => ?_, hp⟩⟩
  · obtain ⟨g, o, rv, q1, q2, q3, q4⟩ := hrc k hk
    cases q1
    exact (hb.cell (p := ⟨gr, og + k * 2, none⟩) q2).trans q3
  · obtain ⟨g, o, rv, q1, q2, q3, q4, q5⟩ := hrc k hk
    cases q1
    obtain ⟨a, c, rfl, q6⟩ := id q5
    exact ⟨a, c, fun wr hb => ⟨(hb.cell (p := ⟨gr, og + k * 2 + 1, none⟩) q2).trans q4, q5.next hb⟩⟩
theorem RgW.next {w0 w1 : World} {p : Nat} {a0 : Option Addr} {k0 : Nat} {a1 : Option Addr} {k1 gr og cr : Nat} {T O : List Tx} {R : Rus} {s : Int} (h : RgW w0 p a0 k0 a1 k1 gr og cr T O R s) (hb : Below w0.heap.size w0 w1) : RgW w1 p a0 k0 a1 k1 gr og cr T O R s := by
  have H : ∀ wr, Below w1.heap.size w1 wr → Below w0.heap.size w0 wr := fun wr h1 => Below.next hb h1
  exact ⟨fun wr h1 => h.c0 wr (H wr h1), fun wr h1 => h.c1 wr (H wr h1), fun wr h1 => h.c2 wr (H wr h1), fun wr h1 => h.c3 wr (H wr h1), fun wr h1 => h.sT wr (H wr h1), fun wr h1 => h.sO wr (H wr h1), fun wr h1 => h.lf wr (H wr h1), fun k hk => (h.rt k hk).imp fun a h2 => h2.imp fun c h3 wr h1 => h3 wr (H wr h1), Nat.lt_of_lt_of_le h.pl hb.size⟩
section
variable {w : World} {p : Nat} {a0 : Option Addr} {k0 : Nat} {a1 : Option Addr} {k1 gr og cr : Nat} {T O : List Tx} {R : Rus} {s : Int}
set_option maxRecDepth 100000 in
set_option maxHeartbeats 800000 in
theorem refSymbols_any (h : RgW w p a0 k0 a1 k1 gr og cr T O R s) (hl : T.length + O.length ≤ 1048576) : Calls Tryd.prog 27 #[.pointer (some ⟨p, 0, none⟩)] w fun e w' => e = .returned (.int .i64 ((allN T O).length : Int)) ∧ Below w.heap.size w w' := by
  have c0 := h.c0 w (Below.refl _ _)
  have c1 := h.c1 w (Below.refl _ _)
  have HL : Hid (((allN T O).length : Int) = (T.length : Int) + 1 + (O.length : Int)) := by show _ = _; rw [allN_len]; omega
  have h1 : (T.length : Int) + 1 ≤ 9223372036854775807 := by omega
  have h2 : (T.length : Int) + 1 + (O.length : Int) ≤ 9223372036854775807 := by omega
  clear h
  generalize (allN T O).length = n at *
  generalize T.length = t at *
  generalize O.length = o at *
  go_enter Tryd.func27, Tryd.ntmps27
  go_wp2_with fail
  go_quiet (fail)
  go_wp2_with fail
  go_ret
  exact ⟨by rw [HL.out]; rfl, below_drewN (Below.refl _ _) _⟩
set_option maxRecDepth 100000 in
set_option maxHeartbeats 800000 in
theorem refStart_any (h : RgW w p a0 k0 a1 k1 gr og cr T O R s) (hl : T.length + O.length ≤ 1048576) (hs : 0 ≤ s ∧ s ≤ 1048576) : Calls Tryd.prog 50 #[.pointer (some ⟨p, 0, none⟩)] w fun e w' => e = .returned (.int .i64 ((T.length : Int) + 1 + s)) ∧ Below w.heap.size w w' := by
  have c0 := h.c0 w (Below.refl _ _)
  have c3 := h.c3 w (Below.refl _ _)
  have h1 : (T.length : Int) + 1 ≤ 9223372036854775807 := by omega
  have h2 : (T.length : Int) + 1 + s ≤ 9223372036854775807 := by omega
  clear h
  generalize T.length = t at *
  go_enter Tryd.func50, Tryd.ntmps50
  go_wp2_with fail
  go_quiet (fail)
  go_wp2_with fail
  go_ret
  exact ⟨rfl, below_drewN (Below.refl _ _) _⟩
theorem alN_E {T O : List Tx} : (allN T O).getD T.length [] = tEnd := by simp [allN, List.getD_eq_getElem?_getD]
set_option maxRecDepth 100000 in
set_option maxHeartbeats 800000 in
theorem refName_no (h : RgW w p a0 k0 a1 k1 gr og cr T O R s) (hl : T.length + O.length ≤ 1048576) (x : Int) (hx : x < 0 ∨ ((allN T O).length : Int) ≤ x) : Calls Tryd.prog 54 #[.pointer (some ⟨p, 0, none⟩), .int .i64 x] w fun e w' => e = .returned (.tuple #[encT [], .bool false]) ∧ Below w.heap.size w w' := by
  have HSY := hidD (refSymbols_any h hl)
  clear h
  generalize (allN T O).length = n at *
  by_cases h0 : x < 0
  · have h1 : decide (x < 0) = true := decide_eq_true h0
    go_enter Tryd.func54, Tryd.ntmps54
    go_wp2_with fail
    refine bodyPost_ret (v := .tuple #[encT [], .bool false]) (by simp [results, Tryd.results54, go_sem]; rfl) rfl ?_
    exact ⟨rfl, Below.refl _ _⟩
  · have h1 : decide (x < 0) = false := decide_eq_false h0
    have h2 : (n : Int) ≤ x := by omega
    have h3 : decide ((n : Int) ≤ x) = true := decide_eq_true h2
    go_enter Tryd.func54, Tryd.ntmps54
    go_wp2_with (go_at_call 27; refine HSY.out.mono ?_; rintro e w2 ⟨rfl, hb2⟩; have HB2 := hidD hb2; clear hb2)
    refine bodyPost_ret (v := .tuple #[encT [], .bool false]) (by simp [results, Tryd.results54, go_sem]; rfl) rfl ?_
    exact ⟨rfl, HB2.out⟩
set_option maxRecDepth 100000 in
set_option maxHeartbeats 1600000 in
theorem refName_is (h : RgW w p a0 k0 a1 k1 gr og cr T O R s) (hl : T.length + O.length ≤ 1048576) (x : Nat) (hx : x < (allN T O).length) : Calls Tryd.prog 54 #[.pointer (some ⟨p, 0, none⟩), .int .i64 (x : Int)] w fun e w' => e = .returned (.tuple #[encT ((allN T O).getD x []), .bool true]) ∧ Below w.heap.size w w' := by
  have HSY := hidD (refSymbols_any h hl)
  have HG := hidD h
  have hAL := allN_len T O
  have h1 : ¬ (x : Int) < 0 := by omega
  have h2 : ¬ (((allN T O).length : Nat) : Int) ≤ (x : Int) := by omega
  have h3 : decide ((((allN T O).length : Nat) : Int) ≤ (x : Int)) = false := decide_eq_false h2
  by_cases ht : x < T.length
  · have hti : (x : Int) < (T.length : Int) := by omega
    have htd : decide ((x : Int) < (T.length : Int)) = true := decide_eq_true hti
    have HF := hidD (fun w2 (hb : Below w.heap.size w w2) => HG.out.c0 w2 hb)
    obtain ⟨g, o, rfl, _⟩ := (HG.out.sT w (Below.refl _ _)).cell (k := x) ht
    have HC : Hid (∀ w2, Below w.heap.size w w2 → w2.cell? ⟨g, o + x, none⟩ = some (encT (T.getD x []))) := fun w2 hb => by
      obtain ⟨g2, o2, e1, _, _, e2⟩ := (HG.out.sT w2 hb).cell (k := x) ht
      cases e1; exact e2
    rw [alN_T ht]
    generalize T.getD x [] = X at *
    clear h HG hAL hx
    unfold encT at *
    generalize bA X = xb at *
    generalize (allN T O).length = n at *
    generalize T.length = t at *
    go_enter Tryd.func54, Tryd.ntmps54
    go_wp2_with (go_at_call 27; refine HSY.out.mono ?_; rintro e w2 ⟨rfl, hb2⟩; have HB2 := hidD hb2; have f0 := HF.out w2 hb2; have f1 := HC.out w2 hb2; clear hb2)
    refine bodyPost_ret (v := .tuple #[.string xb, .bool true]) (by simp [results, Tryd.results54, go_sem]) rfl ?_
    exact ⟨rfl, HB2.out⟩
  · have hti : ¬ (x : Int) < (T.length : Int) := by omega
    have htd : decide ((x : Int) < (T.length : Int)) = false := decide_eq_false hti
    have HF := hidD (fun w2 (hb : Below w.heap.size w w2) => HG.out.c0 w2 hb)
    by_cases he : x = T.length
    · have hei : ((x : Int) == (T.length : Int)) = true := by rw [beq_iff_eq]; omega
      rw [show (allN T O).getD x [] = tEnd by rw [he]; exact alN_E]
      clear h HG hAL hx ht he
      unfold encT at *
      generalize (allN T O).length = n at *
      generalize T.length = t at *
      go_enter Tryd.func54, Tryd.ntmps54
      go_wp2_with (go_at_call 27; refine HSY.out.mono ?_; rintro e w2 ⟨rfl, hb2⟩; have HB2 := hidD hb2; have f0 := HF.out w2 hb2; clear hb2)
      refine bodyPost_ret (v := .tuple #[.string (bA tEnd), .bool true]) (by simp [results, Tryd.results54, go_sem]; rfl) rfl ?_
      exact ⟨rfl, HB2.out⟩
    · have hei : ((x : Int) == (T.length : Int)) = false := by rw [beq_eq_false_iff_ne]; omega
      obtain ⟨k, hk⟩ : ∃ k, x = T.length + 1 + k := ⟨x - (T.length + 1), by omega⟩
      have hko : k < O.length := by omega
      have HF1 := hidD (fun w2 (hb : Below w.heap.size w w2) => HG.out.c1 w2 hb)
      obtain ⟨g, o, rfl, _⟩ := (HG.out.sO w (Below.refl _ _)).cell (k := k) hko
      have HC : Hid (∀ w2, Below w.heap.size w w2 → w2.cell? ⟨g, o + k, none⟩ = some (encT (O.getD k []))) := fun w2 hb => by
        obtain ⟨g2, o2, e1, _, _, e2⟩ := (HG.out.sO w2 hb).cell (k := k) hko
        cases e1; exact e2
      rw [show (allN T O).getD x [] = O.getD k [] by rw [hk]; exact alN_O k]
      have hs1 : (x : Int) - (T.length : Int) = (k : Int) + 1 := by omega
      have hs2 : (k : Int) + 1 - 1 = (k : Int) := by omega
      have hki : (k : Int) < (O.length : Int) := by omega
      have hx2 : (x : Int) ≤ 1048577 := by omega
      generalize O.getD k [] = X at *
      clear h HG hAL hx ht he hk
      unfold encT at *
      generalize bA X = xb at *
      generalize (allN T O).length = n at *
      generalize T.length = t at *
      generalize O.length = m at *
      go_enter Tryd.func54, Tryd.ntmps54
      go_wp2_with (go_at_call 27; refine HSY.out.mono ?_; rintro e w2 ⟨rfl, hb2⟩; have HB2 := hidD hb2; have f0 := HF.out w2 hb2; have f1 := HF1.out w2 hb2; have f2 := HC.out w2 hb2; clear hb2)
      go_quiet (fail)
      go_wp2_with fail
      refine bodyPost_ret (v := .tuple #[.string xb, .bool true]) (by simp [results, Tryd.results54, go_sem]) rfl ?_
      exact ⟨rfl, below_drewN HB2.out _⟩
set_option maxRecDepth 100000 in
set_option maxHeartbeats 1600000 in
theorem refOf_own (h : RgW w p a0 k0 a1 k1 gr og cr T O R s) (hRl : R.length ≤ 1048576) (x : Int) : Calls Tryd.prog 56 #[.pointer (some ⟨p, 0, none⟩), .int .i64 x] w fun e w' => ∃ u, e = .returned u ∧ w'.ownsRow w.heap.size 3 1 u (ofTo R x R.length).length ((ofTo R x R.length).map encI) ∧ Below w.heap.size w w' := by
  have HG := hidD h
  have HLN := hidD (of_len R x)
  have HNX : Hid (∀ k, ofTo R x (k + 1) = if ((R.getD k (0, [])).1 : Int) = x then ofTo R x k ++ [(k : Int)] else ofTo R x k) := fun k => rfl
  clear h
  generalize hrn : R.length = rn at *
  have HRN := hidD hrn
  clear hrn
  go_enter Tryd.func56, Tryd.ntmps56
  go_wp2_with fail
  go_loopw [5, 6] (fun o i wr => ∃ k : Nat, k ≤ rn ∧ i = .int .i64 (k : Int) ∧ wr.ownsRow w.heap.size 3 1 o (ofTo R x k).length ((ofTo R x k).map encI) ∧ Below w.heap.size w wr) (fun _ i _ => rn - (intOf i).toNat)
  case atStart => exact ⟨0, Nat.zero_le _, rfl, World.ownsRow_nil _ _ _ _, Below.refl _ _⟩
  case round =>
    obtain ⟨k, hk, rfl, hown, hbel⟩ := hrel
    have HOW := hidD hown
    have HBW := hidD hbel
    have f0 := HG.out.c2 wr hbel
    rw [HRN.out] at f0
    by_cases hlt : k < rn
    · have hlti : (k : Int) < (rn : Int) := by omega
      have f1 := HG.out.lf wr hbel k (by rw [HRN.out]; exact hlt)
      have HN := hidD (HNX.out k)
      have hln := HLN.out k
      clear hown hbel
      generalize (R.getD k (0, [])).1 = lf at *
      generalize hLL : ofTo R x k = LL at *
      clear hLL
      generalize hll : LL.length = ll at *
      have HLL := hidD hll
      clear hll
      obtain ⟨a5, c5, h5⟩ := row_shape HOW.out
      subst h5
      have hkl : ll ≤ 1048576 := by omega
      by_cases he : (lf : Int) = x
      · rw [if_pos he] at HN
        have hed : ((lf : Int) == x) = true := beq_iff_eq.2 he
        clear he
        have HBA := hidD (fun o' => HBW.out.alloc (show w.heap.size ≤ wr.heap.size from HBW.out.size) o')
        go_wp2_with (at_builtin; refine wpList_append_int rfl _ _ rfl w.heap.size (.slice a5 ll c5) ll (LL.map encI) rfl (HOW.out.alloc _) wr.heap.size (k : Int) rfl (by simp) (by omega) (by have := HBW.out.size; simp; omega) ?_; intro v8 w8 hown8 hg8; have HO8 := hidD hown8; have HB8 := hidD (row_grown (HOW.out.alloc _) (HBA.out _) hg8 (by have := HBW.out.size; simp; omega)); clear hown8 hg8)
        go_roundw
        case rel => exact ⟨k + 1, by omega, by go_num, by rw [HN.out, List.length_append, List.map_append, HLL.out]; exact HO8.out, HB8.out⟩
        case measure => simp [intOf]; omega
      · rw [if_neg he] at HN
        have hed : ((lf : Int) == x) = false := beq_eq_false_iff_ne.2 he
        clear he
        go_wp2_with fail
        go_roundw
        case rel => exact ⟨k + 1, by omega, by go_num, by rw [HN.out, HLL.out]; exact HOW.out, HBW.out⟩
        case measure => simp [intOf]; omega
    · obtain rfl : k = rn := by omega
      obtain ⟨a5, c5, h5⟩ := row_shape hown
      subst h5
      clear hown hbel
      generalize hLL : ofTo R x k = LL at *
      generalize hll : LL.length = ll at *
      go_wp2_with fail
      refine bodyPost_ret (v := .slice a5 ll c5) (by simp [results, Tryd.results56, go_sem]) rfl ?_
      exact ⟨_, rfl, by rw [hLL, hll]; exact HOW.out, HBW.out⟩
end
end Go.Proofs.YtgmbkelmgolkpaaDoor
