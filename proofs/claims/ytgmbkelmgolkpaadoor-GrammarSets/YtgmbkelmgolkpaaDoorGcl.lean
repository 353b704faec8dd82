/- The law GrammarClosed: true of any text. -/
import Derived.Test.YtgmbkelmgolkpaaDoorGnl
import Derived.Test.YtgmbkelmgolkpaaDoorGcm
import Derived.Test.YtgmbkelmgolkpaaDoorRul
namespace Go.Proofs.YtgmbkelmgolkpaaDoor
open Go.RowKit Go.Maps
set_option linter.unusedVariables false

theorem GfAt.rules {w : World} {p : Nat} {T O : List Tx} {st : Nat} {R : List (Nat × List Int)} {nul : Nat} {bg fo : Nat → Nat} (h : GfAt w p T O st R nul bg fo) : Calls Tryd.prog 32 #[.pointer (some ⟨p, 0, none⟩)] w fun e w' => ∃ u, e = .returned u ∧ RuAt w' u R ∧ Below w.heap.size w w' := by
  obtain ⟨cs, h1, _, _, h2, h3, ⟨vr, h4, h5⟩, _⟩ := h.cs
  exact rules_any R _ h.ok (by have := h.len; omega) vr w h1.lt (by rw [h1.cell]; exact h4) h5
/-- A left side is no terminal. -/
theorem left_other {x : Tx} (h : (prR x).2 = 0) {k : Nat} (hk : k < ((parsL x).map (rnF (nuF (teS (parsL x)) (otS (parsL x))))).length) : (teS (parsL x)).length < (((parsL x).map (rnF (nuF (teS (parsL x)) (otS (parsL x))))).getD k (0, [])).1 := by
  rw [List.length_map] at hk
  have hall : (parsL x).all (roF (nuF (teS (parsL x)) (otS (parsL x))) (teS (parsL x)).length) = true := by
    unfold prR at h
    split at h
    · cases h
    · split at h
      · split at h
        · rename_i he
          unfold prE newE at he
          split at he
          · split at he
            · rename_i hc
              rw [Bool.and_eq_true] at hc
              exact hc.1
            · cases he
          · cases he
        · rename_i he; exact absurd h he
      · cases h
  rw [List.all_eq_true] at hall
  have h1 := hall ((parsL x)[k]) (List.getElem_mem hk)
  rw [List.getD_eq_getElem?_getD, List.getElem?_map, List.getElem?_eq_getElem hk]
  show _ < (rnF _ _).1
  unfold roF at h1
  rw [Bool.and_eq_true, Bool.and_eq_true] at h1
  have h2 := of_decide_eq_true h1.1.2
  unfold rnF
  show _ < (vaF _ _).toNat
  omega
structure Cl (w : World) (p : Nat) (R : List (Nat × List Int)) (G : Gs) (E X : Nat) (us : List Int) : Prop where
  gm : GmAt w p G
  us1 : us.length ≤ 128
  sn : G.s < G.n
  tn : G.t ≤ 128
  nn : ∀ k, k < R.length → (R.getD k (0, [])).2.all (nulS G) = true → [((R.getD k (0, [])).1 : Int)].all (nulS G) = true
  fi : ∀ k, k < R.length → subL (liTo (fiS G (R.getD k (0, [])).2) 128) (liTo (fiS G [((R.getD k (0, [])).1 : Int)]) 128) = true
  fo : ∀ k, k < R.length → us.contains ((R.getD k (0, [])).1 : Int) = false → ∀ d, d < (R.getD k (0, [])).2.length → (G.t : Int) ≤ ((R.getD k (0, [])).2.getD d 0) → subL (liTo (fiS G ((R.getD k (0, [])).2.drop (d + 1))) 128) (liTo (G.fo ((R.getD k (0, [])).2.getD d 0).toNat) 128) = true ∧ (((R.getD k (0, [])).2.drop (d + 1)).all (nulS G) = true → subL (liTo (G.fo (R.getD k (0, [])).1) 128) (liTo (G.fo ((R.getD k (0, [])).2.getD d 0).toNat) 128) = true)
  st : (liTo (G.fo G.s) 128).contains ((G.t : Int) - 1) = true
  hs : ∀ k, k < R.length → hasS G ((R.getD k (0, [])).1 : Int) = true ∧ (R.getD k (0, [])).2.length ≤ 1048576 ∧ ∀ j, j < (R.getD k (0, [])).2.length → hasS G ((R.getD k (0, [])).2.getD j 0) = true
theorem all_nul {G : Gs} {l : List Int} (h : l.all (nulS G) = true) : l.all (fun x => G.nul.testBit x.toNat) = true := by
  rw [List.all_eq_true] at h ⊢
  intro x hx
  have := h x hx
  unfold nulS at this
  rw [Bool.and_eq_true] at this
  exact this.2
theorem has_of {G : Gs} {s : Nat} (h : s < G.n) : hasS G (s : Int) = true := by
  unfold hasS
  rw [decide_eq_true (show (0 : Int) ≤ (s : Int) by omega), decide_eq_true (show (s : Int) < ((G.n : Nat) : Int) by omega)]; rfl
theorem cl_of {w : World} {p : Nat} {T O : List Tx} {st : Nat} {R : List (Nat × List Int)} {nul : Nat} {bg fo : Nat → Nat} (h : GfAt w p T O st R nul bg fo) (hl : ∀ k, k < R.length → T.length < (R.getD k (0, [])).1) {E X : Nat} (hX : ReIs R E (2 ^ st) X) : Cl w p R (gsOf T O st nul bg fo) E X (usTo E X (T.length + 1) O.length) := by
  have hn := h.few
  obtain ⟨RE, j, hre, hfe, hff⟩ := h.fs
  obtain ⟨jb, hbe, hbb⟩ := h.bs
  have hal := allN_len T O
  refine ⟨h.gm, Nat.le_trans (us_len _ _ _ _) (by omega), h.stl.2, (by show T.length + 1 ≤ 128; omega), ?_, ?_, ?_, ?_, ?_⟩
  · intro k hk ha
    have h1 := gr_closed h.gr hk (all_nul (G := gsOf T O st nul bg fo) ha)
    rw [List.all_cons, List.all_nil, Bool.and_true]
    unfold nulS
    rw [has_of (show (R.getD k (0, [])).1 < (gsOf T O st nul bg fo).n from (h.ok k hk).1), Bool.true_and, Int.toNat_natCast]
    exact h1
  · intro k hk
    refine sub_li fun i hi => ?_
    have h1 : fiS (gsOf T O st nul bg fo) [((R.getD k (0, [])).1 : Int)] = bg (R.getD k (0, [])).1 := by
      show bg _ ||| (if nul.testBit _ then 0 else 0) = _
      rw [ite_self, Nat.or_zero, Int.toNat_natCast]
    rw [h1]
    have h2 := fi_sub (G := gsOf T O st nul bg fo) (L := bg (R.getD k (0, [])).1) (r := (R.getD k (0, [])).2) (d := (R.getD k (0, [])).2.length) (Nat.le_refl _) (fun q _ hq ha i hi => bg_closed hbb h.ok hn hk hq ha i hi) (by rw [Nat.sub_self, List.take_zero]; rfl) i
    rw [Nat.sub_self, List.drop_zero] at h2
    exact h2 hi
  · intro k hk hu d hd ht
    have hll := (h.ok k hk).1
    have h1 := us_not (E := E) (X := X) (T := T.length + 1) (k := O.length) (l := (R.getD k (0, [])).1) (hl k hk) (by omega) hu
    have h2 : RE.testBit (R.getD k (0, [])).1 = true := by
      obtain ⟨j1, e1, e2⟩ := hX
      obtain ⟨j2, e3, e4⟩ := hre
      have h3 := h1.2
      rw [e1] at h3
      refine re_subIt e4 (fun q hq _ => ?_) (fun i hi => ?_) j1 _ h3
      · rw [List.all_eq_true]
        intro y hy
        obtain ⟨z, hz, he⟩ := List.mem_iff_getElem.1 hy
        obtain ⟨s, hs, hsn⟩ := (h.ok q hq).2.2 z hz
        rw [List.getD_eq_getElem?_getD, List.getElem?_eq_getElem hz, Option.getD_some, he] at hs
        rw [hs, Int.toNat_natCast, ut_bit, decide_eq_true hsn]
      · rw [e3]; exact rpIt_bits _ _ _ hi _
    have h4 := fo_closed (G := gsOf T O st nul bg fo) hff h.ok hn hk h2 hd (by
      have : ((T.length + 1 : Nat) : Int) ≤ (R.getD k (0, [])).2.getD d 0 := ht
      omega)
    exact ⟨sub_li h4.1, fun ha => sub_li (h4.2 (all_nul ha))⟩
  · have h1 := fo_start h.fs
    have h2 := h.stl
    show (liTo (fo st) 128).contains (((T.length + 1 : Nat) : Int) - 1) = true
    rw [show ((T.length + 1 : Nat) : Int) - 1 = ((T.length + 1 - 1 : Nat) : Int) by omega]
    exact has_li (by omega) h1
  · intro k hk
    refine ⟨has_of (h.ok k hk).1, (h.ok k hk).2.1, fun j hj => ?_⟩
    obtain ⟨s, hs, hsn⟩ := (h.ok k hk).2.2 j hj
    rw [hs]; exact has_of hsn
theorem Cl.next {w w' : World} {p : Nat} {R : List (Nat × List Int)} {G : Gs} {E X : Nat} {us : List Int} (h : Cl w p R G E X us) (hb : Below w.heap.size w w') : Cl w' p R G E X us := { h with gm := h.gm.next hb }
theorem sliceL43 (a : Option Addr) (len cap C : Nat) (hC : C ≤ len) (w : World) : (Instr.sliceAt 43 (.slice a len cap) (some (.int .i64 (C : Int))) none none).run Tryd.prog w = .ok (.slice (if cap = C then a else a.map (·.add C)) (len - C) (cap - C)) w := by
  have hu : Tryd.prog.underlying 43 = some (.slice (Tryd.prog.elem 43)) := by kernel_rfl
  have he : Tryd.prog.elem 43 = 3 := by kernel_rfl
  obtain ⟨i0, hin, _, hz1, _⟩ := info_parts Tryd.info3
  rw [run_sliceAt_slice w 43 _ _ _ _ hu, run_slice_l w 43 a len cap hu .i64 (C : Int) (by omega) (by omega), he, run_sizeOf w hin, Result.andThen_ok]
  simp only [sliced, Int.toNat_natCast]
  rw [show Tryd.prog.cellsOf 3 = 1 by kernel_rfl, Nat.mul_one]
/-- Numbers but the first ones. -/
theorem il_from {w0 : World} {a : Option Addr} {cap : Nat} {L : List Int} {n : Nat} (hb : IlAt w0 (.slice a n cap) L) (C : Nat) (hC : C ≤ n) : ∃ a2 c2, (∀ w, (Instr.sliceAt 43 (.slice a n cap) (some (.int .i64 (C : Int))) none none).run Tryd.prog w = .ok (.slice a2 (n - C) c2) w) ∧ IlAt w0 (.slice a2 (n - C) c2) (L.drop C) := by
  obtain ⟨a', cap', e, h1, h2, h3⟩ := hb
  cases e
  refine ⟨if cap = C then a else a.map (·.add C), cap - C, fun w => sliceL43 a _ cap C hC w, if cap = C then a else a.map (·.add C), cap - C, by rw [List.length_drop], by rw [List.length_drop]; omega, by omega, fun k hk => ?_⟩
  rw [List.length_drop] at hk
  obtain ⟨g, o, e1, e2, e3⟩ := h3 (C + k) (by omega)
  refine ⟨g, o + C, ?_, e2, ?_⟩
  · rw [if_neg (by omega), e1]; show some ((⟨g, o, none⟩ : Addr).add C) = _; rw [Addr.add_lit]
  · rw [List.getD_eq_getElem?_getD, List.getElem?_drop, ← List.getD_eq_getElem?_getD, ← e3, Nat.add_assoc]
theorem IlAt.at {w : World} {a : Option Addr} {n c : Nat} {l : List Int} (h : IlAt w (.slice a n c) l) : n ≤ c ∧ c ≤ 9223372036854775807 ∧ ∀ q, q < n → ∃ g o, a = some ⟨g, o, none⟩ ∧ g < w.heap.size ∧ w.cell? ⟨g, o + q, none⟩ = some (.int .i64 (l.getD q 0)) := by
  obtain ⟨a', c', e, h1, h2, h3⟩ := h
  cases e
  exact ⟨h1, h2, h3⟩
/-- What the calls answer of lists that need not be told. -/
def FiC (w : World) (p : Nat) (l A : List Int) : Prop := ∀ v w', Below w.heap.size w w' → IlAt w' v l → Calls Tryd.prog 21 #[.pointer (some ⟨p, 0, none⟩), v] w' fun e w'' => ∃ u, e = .returned u ∧ IlAt w'' u A ∧ Below w'.heap.size w' w''
def FoC (w : World) (p : Nat) (s : Int) (F : List Int) : Prop := ∀ w', Below w.heap.size w w' → Calls Tryd.prog 23 #[.pointer (some ⟨p, 0, none⟩), .int .i64 s] w' fun e w'' => ∃ u, e = .returned u ∧ IlAt w'' u F ∧ Below w'.heap.size w' w''
def NuC (w : World) (p : Nat) (l : List Int) (b : Bool) : Prop := ∀ v w', Below w.heap.size w w' → IlAt w' v l → Calls Tryd.prog 18 #[.pointer (some ⟨p, 0, none⟩), v] w' fun e w'' => e = .returned (.bool b) ∧ Below w'.heap.size w' w''
def WiC (A B : List Int) : Prop := ∀ u v w', IlAt w' u A → IlAt w' v B → Calls Tryd.prog 36 #[u, v] w' fun e w'' => e = .returned (.bool true) ∧ Below w'.heap.size w' w''
def HsC (A : List Int) (x : Int) (b : Bool) : Prop := ∀ u w', IlAt w' u A → Calls Tryd.prog 33 #[u, .int .i64 x] w' fun e w'' => e = .returned (.bool b) ∧ Below w'.heap.size w' w''
theorem wi_of {M N : Nat} (h : subL (liTo M 128) (liTo N 128) = true) : WiC (liTo M 128) (liTo N 128) := fun u v w' hu hv => by
  have := within_any (liTo M 128) (liTo N 128) (Nat.le_trans (liTo_len _ _) (by decide)) (Nat.le_trans (liTo_len _ _) (by decide)) u v w' hu hv
  rw [h] at this
  exact this
theorem Cl.start {w : World} {p : Nat} {R : List (Nat × List Int)} {G : Gs} {E X : Nat} {us : List Int} (h : Cl w p R G E X us) : ∃ F, FoC w p (G.s : Int) F ∧ HsC F ((G.t : Int) - 1) true := by
  refine ⟨_, fun w' hb => follow_any G.s h.sn w' (h.gm.next hb), fun u w' hu => ?_⟩
  have := lawHas_any _ (Nat.le_trans (liTo_len _ _) (by decide)) ((G.t : Int) - 1) u w' hu
  rw [h.st] at this
  exact this
theorem Cl.right {w : World} {p : Nat} {R : List (Nat × List Int)} {G : Gs} {E X : Nat} {us : List Int} (h : Cl w p R G E X us) {k : Nat} (hk : k < R.length) : ∃ A B nb, FiC w p (R.getD k (0, [])).2 A ∧ FiC w p [((R.getD k (0, [])).1 : Int)] B ∧ WiC A B ∧ NuC w p (R.getD k (0, [])).2 nb ∧ (nb = true → NuC w p [((R.getD k (0, [])).1 : Int)] true) := by
  obtain ⟨h1, h2, h3⟩ := h.hs k hk
  refine ⟨_, _, _, fun v w' hb hv => first_any _ (by omega) h3 v w' (h.gm.next hb) hv, fun v w' hb hv => first_any _ (by rw [List.length_singleton]; omega) (fun j hj => ?_) v w' (h.gm.next hb) hv, wi_of (h.fi k hk), fun v w' hb hv => nullable_any _ (by omega) v w' (h.gm.next hb) hv, fun hn v w' hb hv => ?_⟩
  · have hj1 : j < 1 := hj
    obtain rfl : j = 0 := by omega
    exact h1
  · have := nullable_any _ (by rw [List.length_singleton]; omega) v w' (h.gm.next hb) hv
    rw [h.nn k hk hn] at this
    exact this
theorem Cl.rest {w : World} {p : Nat} {R : List (Nat × List Int)} {G : Gs} {E X : Nat} {us : List Int} (h : Cl w p R G E X us) {k : Nat} (hk : k < R.length) (hu : us.contains ((R.getD k (0, [])).1 : Int) = false) {d : Nat} (hd : d < (R.getD k (0, [])).2.length) (ht : (G.t : Int) ≤ ((R.getD k (0, [])).2.getD d 0)) : ∃ C D F nd, FiC w p ((R.getD k (0, [])).2.drop (d + 1)) C ∧ FoC w p ((R.getD k (0, [])).2.getD d 0) D ∧ WiC C D ∧ NuC w p ((R.getD k (0, [])).2.drop (d + 1)) nd ∧ FoC w p ((R.getD k (0, [])).1 : Int) F ∧ (nd = true → WiC F D) := by
  obtain ⟨h1, h2, h3⟩ := h.hs k hk
  obtain ⟨q1, q2⟩ := h.fo k hk hu d hd ht
  obtain ⟨s, hs, hsn⟩ := has_nat (h3 d hd)
  obtain ⟨l, hl, hln⟩ := has_nat h1
  have hl' : (R.getD k (0, [])).1 = l := by omega
  refine ⟨_, _, _, _, fun v w' hb hv => first_any _ (by rw [List.length_drop]; omega) (fun j hj => ?_) v w' (h.gm.next hb) hv, ?_, wi_of q1, fun v w' hb hv => nullable_any _ (by rw [List.length_drop]; omega) v w' (h.gm.next hb) hv, ?_, fun hn => wi_of (q2 hn)⟩
  · rw [List.length_drop] at hj
    rw [List.getD_eq_getElem?_getD, List.getElem?_drop, ← List.getD_eq_getElem?_getD]
    exact h3 _ (by omega)
  · intro w' hb
    rw [hs, Int.toNat_natCast]
    exact follow_any s hsn w' (h.gm.next hb)
  · intro w' hb
    rw [hl']
    exact follow_any l hln w' (h.gm.next hb)
end Go.Proofs.YtgmbkelmgolkpaaDoor
