/- GrammarSets: the law's walk. -/
import Derived.Test.YtgmbkelmgolkpaaDoorDk
import Derived.Test.YtgmbkelmgolkpaaDoorGpr
namespace Go.Proofs.YtgmbkelmgolkpaaDoor
open Go.RowKit Go.Maps
set_option linter.unusedVariables false

theorem ints_same {L : List Int} (hL : L.length ≤ 9223372036854775806) (u v : Value) (w : World) (hu : IlAt w u L) (hv : IlAt w v L) : Calls Tryd.prog 20 #[u, v] w fun e w' => e = .returned (.bool true) ∧ Below w.heap.size w w' := by
  have := ints_any L L hL u v w hu hv
  rw [decide_eq_true (rfl : L = L)] at this
  exact this
set_option maxRecDepth 100000 in
set_option maxHeartbeats 3200000 in
theorem sets_bad (x : Tx) (hx : x.length ≤ maxLen) (hE : (prR x).2 ≠ 0) (a : Option Addr) (cap : Nat) (l : List Int) (hnone : a = none → cap = 0) (hll : l.length ≤ 17592186044416) (y : Int) (mx : Int) (w : World) (hv : IlAt w (.slice a l.length cap) l) (h00 : 0 < w.heap.size) (hm : w.cell? ⟨0, 0, none⟩ = some (.int .i64 mx)) : Calls Tryd.prog 5 #[encT x, .slice a l.length cap, .int .i64 y] w fun e w' => e = .returned (.bool true) ∧ Below w.heap.size w w' := by
  have H9 : Hid (Calls Tryd.prog 9 #[encT x] w fun e w' => e = .returned (.tuple #[.pointer none, .int .i64 (prR x).1, .int .i64 (prR x).2]) ∧ Below w.heap.size w w') := (parse_any x hx mx w h00 hm).mono fun e w' h => ⟨h.1 hE, h.2.2⟩
  have H10 : Hid (∀ w1 : World, Calls Tryd.prog 10 #[encT x] w1 fun e w' => e = .returned (.tuple #[.pointer none, .int .i64 (prR x).1, .int .i64 (prR x).2]) ∧ Below w1.heap.size w1 w') := fun w1 => (refParse_any x hx w1).mono fun e w' h => ⟨h.1 hE, h.2.2⟩
  have H12 := hidD (fun w1 (hb : Below w.heap.size w w1) => alive_any mx w1 (cell_next h00 hm hb).1 (cell_next h00 hm hb).2)
  have HV := hidD hv
  have HAA : Hid (∀ (w1 : World) o, Below w1.heap.size w1 (w1.alloc o)) := fun w1 o => (Below.refl _ _).alloc (Nat.le_refl _) o
  clear hE hm h00 hx hv
  unfold encT at *
  generalize bA x = xb at *
  generalize (prR x).1 = pa at *
  generalize (prR x).2 = pb at *
  go_enter Tryd.func5, Tryd.ntmps5
  go_upto_region 8 with first
    | (go_at_call 20; have := M3; clear this; refine (ints_same (by omega) _ _ _ HI14.out (HV.out.next HB14.out)).mono ?_; rintro e w15 ⟨rfl, hb⟩; have HB15 := hidD (Below.next HB14.out hb); clear hb)
    | (go_at_call 20; have := M2; clear this; refine (ints_same (L := []) (by simp) _ _ _ (IlAt.nil _) (IlAt.nil _)).mono ?_; rintro e w14 ⟨rfl, hb⟩; have HB14 := hidD (Below.next HB13.out hb); have HI14 := hidD (HI13.out.next hb); have M3 := trivial; clear hb)
    | (go_at_call 20; have := M1; clear this; refine (ints_same (L := []) (by simp) _ _ _ (IlAt.nil _) (IlAt.nil _)).mono ?_; rintro e w11 ⟨rfl, hb⟩; have HB11 := hidD (Below.next HB10.out hb); have HI11 := hidD (HI10.out.next hb); have M2 := trivial; clear hb)
    | (go_at_call 20; refine (ints_same (L := []) (by simp) _ _ _ HU8.out (IlAt.nil _)).mono ?_; rintro e w9 ⟨rfl, hb⟩; have HB9 := hidD (Below.next HB8.out hb); have HI9 := hidD (HI8.out.next hb); have M1 := trivial; clear hb)
    | (go_at_call 26; refine (refUseless_nil _).mono ?_; rintro e w13 ⟨rfl, hb⟩; have HB13 := hidD (Below.next HB12.out hb); have HI13 := hidD (HI12.out.next hb); clear hb)
    | (go_at_call 25; refine (useless_nil _).mono ?_; rintro e w12 ⟨rfl, hb⟩; have HB12 := hidD (Below.next HB11.out hb); have HI12 := hidD (HI11.out.next hb); clear hb)
    | (go_at_call 24; refine (refFollow_nil _ _).mono ?_; rintro e w10 ⟨rfl, hb⟩; have HB10 := hidD (Below.next HB9.out hb); have HI10 := hidD (HI9.out.next hb); clear hb)
    | (go_at_call 23; refine (follow_nil _ _).mono ?_; rintro e wz ⟨rfl, hw⟩; subst wz)
    | (go_at_call 22; refine (refFirst_nil _ _).mono ?_; rintro e w8 ⟨rfl, hb⟩; have HB8 := hidD (Below.next HB7.out hb); have HI8 := hidD (HI7.out.next hb); have HU8 := hidD (HU7.out.next hb); clear hb)
    | (go_at_call 21; refine (first_nilL l (by omega) _ _ HI6.out).mono ?_; rintro e w7 ⟨u7, rfl, hi, hb⟩; have HB7 := hidD (Below.next HB6.out hb); have HI7 := hidD (HI6.out.next hb); have HU7 := hidD hi; clear hi hb)
    | (go_at_call 19; refine (refNullable_nil _ _).mono ?_; rintro e w6 ⟨rfl, hb⟩; have HB6 := hidD (Below.next HB5.out hb); have HI6 := hidD (HI5.out.next hb); clear hb)
    | (go_at_call 18; refine (nullable_nil _ _).mono ?_; rintro e wz ⟨rfl, hw⟩; subst wz)
    | (at_builtin; refine wpList_append_il rfl _ _ rfl w3.heap.size (.slice (some ⟨w3.heap.size, 0, none⟩) 0 0) 0 [] rfl (own_empty3 w3) a cap l rfl hnone ((HV.out.next HB3.out).next (HAA.out _ _)) (by omega) (by simp) ?_; intro v5 w5 ho5 hb5; rw [Nat.zero_add, List.nil_append] at ho5; have HI5 := hidD (il_of_own ho5); have HB5 := hidD (Below.next HB3.out ((HAA.out w3 _).trans hb5)); clear ho5 hb5)
    | (go_at_call 12; refine (H12.out _ HB2.out).mono ?_; rintro e w3 ⟨rfl, hb3⟩; have HB3 := hidD (Below.next HB2.out hb3); clear hb3)
    | (go_at_call 10; refine (H10.out _).mono ?_; rintro e w2 ⟨rfl, hb2⟩; have HB2 := hidD (Below.next HB1.out hb2); clear hb2)
    | (go_at_call 9; refine H9.out.mono ?_; rintro e w1 ⟨rfl, hb1⟩; have HB1 := hidD hb1; clear hb1)
  all_goals first | exact (un_bool6 (by assumption)).elim | skip
  go_wp2_with fail
  go_loopw [14] (fun i wr => i = .int .i64 0 ∧ wr = w15) (fun _ _ => 0)
  case atStart => exact ⟨rfl, rfl⟩
  case round =>
    obtain ⟨rfl, hw⟩ := hrel
    subst wr
    go_wp2_with fail
    go_ret
    exact ⟨rfl, HB15.out⟩
/-- Both grammars, in one world. -/
structure Tw (w : World) (p : Nat) (T O : List Tx) (st : Nat) (R : Rus) (nul : Nat) (bg fo : Nat → Nat) (p2 : Nat) (a0 : Option Addr) (k0 : Nat) (a1 : Option Addr) (k1 gr og cr : Nat) (s : Int) : Prop where
  g : GfAt w p T O st R nul bg fo
  r : RgW w p2 a0 k0 a1 k1 gr og cr T O R s
theorem Tw.next {w w' : World} {p : Nat} {T O : List Tx} {st : Nat} {R : Rus} {nul : Nat} {bg fo : Nat → Nat} {p2 : Nat} {a0 : Option Addr} {k0 : Nat} {a1 : Option Addr} {k1 gr og cr : Nat} {s : Int} (h : Tw w p T O st R nul bg fo p2 a0 k0 a1 k1 gr og cr s) (hb : Below w.heap.size w w') : Tw w' p T O st R nul bg fo p2 a0 k0 a1 k1 gr og cr s := ⟨h.g.next hb, h.r.next hb⟩
set_option maxRecDepth 100000 in
set_option maxHeartbeats 6400000 in
theorem sets_ok (x : Tx) (hx : x.length ≤ maxLen) (hE : (prR x).2 = 0) (a : Option Addr) (cap : Nat) (l : List Int) (hnone : a = none → cap = 0) (hll : l.length ≤ 17592186044416) (y : Int) (mx : Int) (w : World) (hv : IlAt w (.slice a l.length cap) l) (h00 : 0 < w.heap.size) (hm : w.cell? ⟨0, 0, none⟩ = some (.int .i64 mx)) : Calls Tryd.prog 5 #[encT x, .slice a l.length cap, .int .i64 y] w fun e w' => e = .returned (.bool true) ∧ Below w.heap.size w w' := by
  have H9 : Hid (Calls Tryd.prog 9 #[encT x] w fun e w' => (∃ p nul bg fo, e = .returned (.tuple #[.pointer (some ⟨p, 0, none⟩), .int .i64 0, .int .i64 0]) ∧ w.heap.size ≤ p ∧ GfAt w' p (teS (parsL x)) (otS (parsL x)) (vaF (nuF (teS (parsL x)) (otS (parsL x))) (stS (parsL x))).toNat (dgR x) nul bg fo) ∧ Below w.heap.size w w') := (parse_any x hx mx w h00 hm).mono fun e w' h => ⟨by have := h.2.1 hE; rwa [pars_rules hE] at this, h.2.2⟩
  have H10 : Hid (∀ w1 : World, Calls Tryd.prog 10 #[encT x] w1 fun e w' => (∃ p, e = .returned (.tuple #[.pointer (some ⟨p, 0, none⟩), .int .i64 0, .int .i64 0]) ∧ w1.heap.size ≤ p ∧ RgAt w' p (teS (parsL x)) (otS (parsL x)) (dgR x) (atS (otS (parsL x)) (stS (parsL x)))) ∧ Below w1.heap.size w1 w') := fun w1 => (refParse_any x hx w1).mono fun e w' h => ⟨h.2.1 hE, h.2.2⟩
  have H12 := hidD (fun w1 (hb : Below w.heap.size w w1) => alive_any mx w1 (cell_next h00 hm hb).1 (cell_next h00 hm hb).2)
  have HPS := hidD (fun h1 => pars_start hE h1)
  have HLD : Hid ((dgR x).length = (parsL x).length) := by show _ = _; unfold dgR; rw [List.length_map]
  have HLF : Hid (∀ k, k < (dgR x).length → (teS (parsL x)).length + 1 ≤ ((dgR x).getD k (0, [])).1) := fun k hk => by
    have h1 := pars_rules hE
    have h2 := left_other hE (k := k) (by rw [h1]; exact hk)
    rw [h1] at h2
    exact h2
  have HV := hidD hv
  have HAA : Hid (∀ (w1 : World) o, Below w1.heap.size w1 (w1.alloc o)) := fun w1 o => (Below.refl _ _).alloc (Nat.le_refl _) o
  have HTWO : Hid (∀ (w1 : World) (p p2 nul : Nat) (bg fo : Nat → Nat), GfAt w1 p (teS (parsL x)) (otS (parsL x)) (vaF (nuF (teS (parsL x)) (otS (parsL x))) (stS (parsL x))).toNat (dgR x) nul bg fo → RgAt w1 p2 (teS (parsL x)) (otS (parsL x)) (dgR x) (atS (otS (parsL x)) (stS (parsL x))) → ((teS (parsL x)).length : Int) + 1 + atS (otS (parsL x)) (stS (parsL x)) = (((vaF (nuF (teS (parsL x)) (otS (parsL x))) (stS (parsL x))).toNat : Nat) : Int) ∧ 0 ≤ atS (otS (parsL x)) (stS (parsL x)) ∧ ∃ a0 k0 a1 k1 gr og cr, Tw w1 p (teS (parsL x)) (otS (parsL x)) (vaF (nuF (teS (parsL x)) (otS (parsL x))) (stS (parsL x))).toNat (dgR x) nul bg fo p2 a0 k0 a1 k1 gr og cr (atS (otS (parsL x)) (stS (parsL x)))) := fun w1 p p2 nul bg fo hg hr => by
    obtain ⟨h1, h2⟩ := HPS.out (by rw [← HLD.out]; exact hg.one)
    obtain ⟨a0, k0, a1, k1, gr, og, cr, h3⟩ := hr.gw hg.one
    exact ⟨h1, h2, a0, k0, a1, k1, gr, og, cr, hg, h3⟩
  clear HPS HLD hE hm h00 hx hv
  generalize teS (parsL x) = T at *
  generalize otS (parsL x) = O at *
  generalize dgR x = R at *
  generalize (vaF (nuF T O) (stS (parsL x))).toNat = st at *
  generalize atS O (stS (parsL x)) = sO at *
  unfold encT at *
  generalize bA x = xb at *
  go_enter Tryd.func5, Tryd.ntmps5
  go_upto_region 3 with first
    | (go_at_call 10; refine (H10.out _).mono ?_; rintro e w2 ⟨⟨p2, rfl, hp2, hr2⟩, hb2⟩; have HB2 := hidD (Below.next HB1.out hb2); have HG2 := hidD (HG1.out.next hb2); have HR2 := hidD hr2; clear hb2 hr2)
    | (go_at_call 9; refine H9.out.mono ?_; rintro e w1 ⟨⟨p, nul, bg, fo, rfl, hp, hg⟩, hb1⟩; have HB1 := hidD hb1; have HG1 := hidD hg; clear hb1 hg)
  obtain ⟨hst, hs0, a0, k0, a1, k1, gr, og, cr, htw⟩ := HTWO.out _ _ _ _ _ _ HG2.out HR2.out
  have HTW2 := hidD htw
  clear htw HTWO HG1 HG2 HR2 H9 H10
  have H18 : Hid (∀ (w' : World) v, Tw w' p T O st R nul bg fo p2 a0 k0 a1 k1 gr og cr sO → IlAt w' v l → Calls Tryd.prog 18 #[.pointer (some ⟨p, 0, none⟩), v] w' fun e w'' => e = .returned (.bool (l.all (nulS (gsOf T O st nul bg fo)))) ∧ Below w'.heap.size w' w'') := fun w' v h hv => nullable_any l (by omega) v w' h.g.gm hv
  have H19 : Hid (∀ (w' : World) v, Tw w' p T O st R nul bg fo p2 a0 k0 a1 k1 gr og cr sO → IlAt w' v l → Calls Tryd.prog 19 #[.pointer (some ⟨p2, 0, none⟩), v] w' fun e w'' => e = .returned (.bool (l.all (nulS (gsOf T O st nul bg fo)))) ∧ Below w'.heap.size w' w'') := fun w' v h hv => refNullable_is h.g h.r l (by omega) v hv
  have H21 : Hid (∀ (L : List Int) (w' : World) v, L.length ≤ 17592186044416 → Tw w' p T O st R nul bg fo p2 a0 k0 a1 k1 gr og cr sO → IlAt w' v L → Calls Tryd.prog 21 #[.pointer (some ⟨p, 0, none⟩), v] w' fun e w'' => ∃ u, e = .returned u ∧ IlAt w'' u (fiL (gsOf T O st nul bg fo) L) ∧ Below w'.heap.size w' w'') := fun L w' v hL h hv => first_is h.g.gm L (by omega) v hv
  have H22 : Hid (∀ (L : List Int) (w' : World) v, L.length ≤ 17592186044416 → Tw w' p T O st R nul bg fo p2 a0 k0 a1 k1 gr og cr sO → IlAt w' v L → Calls Tryd.prog 22 #[.pointer (some ⟨p2, 0, none⟩), v] w' fun e w'' => ∃ u, e = .returned u ∧ IlAt w'' u (fiL (gsOf T O st nul bg fo) L) ∧ Below w'.heap.size w' w'') := fun L w' v hL h hv => refFirst_is h.g h.r L (by omega) v hv
  have H23 : Hid (∀ (z : Int) (w' : World), Tw w' p T O st R nul bg fo p2 a0 k0 a1 k1 gr og cr sO → Calls Tryd.prog 23 #[.pointer (some ⟨p, 0, none⟩), .int .i64 z] w' fun e w'' => ∃ u, e = .returned u ∧ IlAt w'' u (foL (gsOf T O st nul bg fo) z) ∧ Below w'.heap.size w' w'') := fun z w' h => follow_is h.g z
  have H24 : Hid (∀ (z : Int) (w' : World), Tw w' p T O st R nul bg fo p2 a0 k0 a1 k1 gr og cr sO → Calls Tryd.prog 24 #[.pointer (some ⟨p2, 0, none⟩), .int .i64 z] w' fun e w'' => ∃ u, e = .returned u ∧ IlAt w'' u (foL (gsOf T O st nul bg fo) z) ∧ Below w'.heap.size w' w'') := fun z w' h => refFollow_is h.g h.r HLF.out hst hs0 z
  have H25 : Hid (∀ (w' : World), Tw w' p T O st R nul bg fo p2 a0 k0 a1 k1 gr og cr sO → Calls Tryd.prog 25 #[.pointer (some ⟨p, 0, none⟩)] w' fun e w'' => ∃ L : List Int, L.length ≤ 128 ∧ (∀ w1 : World, Tw w1 p T O st R nul bg fo p2 a0 k0 a1 k1 gr og cr sO → Calls Tryd.prog 26 #[.pointer (some ⟨p2, 0, none⟩)] w1 fun e w2 => ∃ u, e = .returned u ∧ IlAt w2 u L ∧ Below w1.heap.size w1 w2) ∧ ∃ u, e = .returned u ∧ IlAt w'' u L ∧ Below w'.heap.size w' w'') := fun w' h => (useless_any h.g).mono fun e w'' ⟨E, X, u, e1, e2, e3, e4, e5⟩ => ⟨_, Nat.le_trans (us_len E X _ _) (by have := h.g.few; rw [allN_len] at this; omega), fun w1 h1 => refUseless_is h1.g h1.r hst hs0 e2 e3, u, e1, e4, e5⟩
  have H27 : Hid (∀ (w' : World), Tw w' p T O st R nul bg fo p2 a0 k0 a1 k1 gr og cr sO → Calls Tryd.prog 27 #[.pointer (some ⟨p2, 0, none⟩)] w' fun e w'' => e = .returned (.int .i64 ((allN T O).length : Int)) ∧ Below w'.heap.size w' w'') := fun w' h => refSymbols_any h.r (by have := h.g.few; rw [allN_len] at this; omega)
  have HFI : Hid (∀ L, (fiL (gsOf T O st nul bg fo) L).length ≤ 9223372036854775806) := fun L => Nat.le_trans (fiL_len _ L) (by decide)
  have HFO : Hid (∀ z, (foL (gsOf T O st nul bg fo) z).length ≤ 9223372036854775806) := fun z => Nat.le_trans (foL_len _ z) (by decide)
  have hnn := HTW2.out.g.few
  generalize (allN T O).length = n at *
  generalize l.all (nulS (gsOf T O st nul bg fo)) = nb at *
  generalize gsOf T O st nul bg fo = G at *
  clear hst hs0 HLF
  have hnbb : (nb == nb) = true := beq_self_eq_true _
  have HIN : Hid (∀ (w1 : World) (i : Int), IlAt (w1.alloc (.cells #[.int .i64 i] (3 : TypeId))) (.slice (some ⟨w1.heap.size, 0, none⟩) 1 1) [i]) := fun w1 i => il_new (l := [i]) (by simp)
  go_upto_region 8 with first
    | (go_at_call 20; have := M3; clear this; refine (ints_same (by omega) _ _ _ HI15.out (HV.out.next HB15.out)).mono ?_; rintro e w16 ⟨rfl, hb⟩; have HB16 := hidD (Below.next HB15.out hb); have HT16 := hidD (HT15.out.next hb); clear hb)
    | (go_at_call 20; have := M2; clear this; refine (ints_same (Nat.le_trans hL14 (by decide)) _ _ _ HU14.out HW14.out).mono ?_; rintro e w15 ⟨rfl, hb⟩; have HB15 := hidD (Below.next HB14.out hb); have HT15 := hidD (HT14.out.next hb); have HI15 := hidD (HI14.out.next hb); have M3 := trivial; clear hb)
    | (go_at_call 20; have := M1; clear this; refine (ints_same (HFO.out _) _ _ _ HU11.out HW11.out).mono ?_; rintro e w12 ⟨rfl, hb⟩; have HB12 := hidD (Below.next HB11.out hb); have HT12 := hidD (HT11.out.next hb); have HI12 := hidD (HI11.out.next hb); have M2 := trivial; clear hb)
    | (go_at_call 20; refine (ints_same (HFI.out _) _ _ _ HU8.out HW8.out).mono ?_; rintro e w9 ⟨rfl, hb⟩; have HB9 := hidD (Below.next HB8.out hb); have HT9 := hidD (HT8.out.next hb); have HI9 := hidD (HI8.out.next hb); have M1 := trivial; clear hb)
    | (go_at_call 26; refine (H26.out _ HT13.out).mono ?_; rintro e w14 ⟨u14, rfl, hi, hb⟩; have HB14 := hidD (Below.next HB13.out hb); have HT14 := hidD (HT13.out.next hb); have HI14 := hidD (HI13.out.next hb); have HU14 := hidD (HU13.out.next hb); have HW14 := hidD hi; clear hi hb)
    | (go_at_call 25; refine (H25.out _ HT12.out).mono ?_; rintro e w13 ⟨L14, hL14, h26, u13, rfl, hi, hb⟩; have H26 := hidD h26; have HB13 := hidD (Below.next HB12.out hb); have HT13 := hidD (HT12.out.next hb); have HI13 := hidD (HI12.out.next hb); have HU13 := hidD hi; clear hi hb h26)
    | (go_at_call 24; refine (H24.out _ _ HT10.out).mono ?_; rintro e w11 ⟨u11, rfl, hi, hb⟩; have HB11 := hidD (Below.next HB10.out hb); have HT11 := hidD (HT10.out.next hb); have HI11 := hidD (HI10.out.next hb); have HU11 := hidD (HU10.out.next hb); have HW11 := hidD hi; clear hi hb)
    | (go_at_call 23; refine (H23.out _ _ HT9.out).mono ?_; rintro e w10 ⟨u10, rfl, hi, hb⟩; have HB10 := hidD (Below.next HB9.out hb); have HT10 := hidD (HT9.out.next hb); have HI10 := hidD (HI9.out.next hb); have HU10 := hidD hi; clear hi hb)
    | (go_at_call 22; refine (H22.out l _ _ hll HT7.out (HV.out.next HB7.out)).mono ?_; rintro e w8 ⟨u8, rfl, hi, hb⟩; have HB8 := hidD (Below.next HB7.out hb); have HT8 := hidD (HT7.out.next hb); have HI8 := hidD (HI7.out.next hb); have HU8 := hidD (HU7.out.next hb); have HW8 := hidD hi; clear hi hb)
    | (go_at_call 21; refine (H21.out l _ _ hll HT6.out HI6.out).mono ?_; rintro e w7 ⟨u7, rfl, hi, hb⟩; have HB7 := hidD (Below.next HB6.out hb); have HT7 := hidD (HT6.out.next hb); have HI7 := hidD (HI6.out.next hb); have HU7 := hidD hi; clear hi hb)
    | (go_at_call 19; refine (H19.out _ _ HTb.out (HV.out.next HBb.out)).mono ?_; rintro e w6 ⟨rfl, hb⟩; have HB6 := hidD (Below.next HBb.out hb); have HT6 := hidD (HTb.out.next hb); have HI6 := hidD (HIb.out.next hb); clear hb)
    | (go_at_call 18; refine (H18.out _ _ HT5.out HI5.out).mono ?_; rintro e wb ⟨rfl, hb⟩; have HBb := hidD (Below.next HB5.out hb); have HTb := hidD (HT5.out.next hb); have HIb := hidD (HI5.out.next hb); clear hb)
    | (at_builtin; refine wpList_append_il rfl _ _ rfl w3.heap.size (.slice (some ⟨w3.heap.size, 0, none⟩) 0 0) 0 [] rfl (own_empty3 w3) a cap l rfl hnone ((HV.out.next HB3.out).next (HAA.out _ _)) (by omega) (by simp) ?_; intro v5 w5 ho5 hb5; rw [Nat.zero_add, List.nil_append] at ho5; have HI5 := hidD (il_of_own ho5); have HB35 := hidD ((HAA.out w3 _).trans hb5); have HB5 := hidD (Below.next HB3.out HB35.out); have HT5 := hidD (HT3.out.next HB35.out); clear ho5 hb5)
    | (go_at_call 12; refine (H12.out _ HB2.out).mono ?_; rintro e w3 ⟨rfl, hb3⟩; have HB3 := hidD (Below.next HB2.out hb3); have HT3 := hidD (HTW2.out.next hb3); clear hb3)
  all_goals first | exact (un_bool6 (by assumption)).elim | skip
  clear M1 M2 M3
  go_wp2_with fail
  go_loopw [14] (fun i wr => ∃ k : Nat, k ≤ n ∧ i = .int .i64 (k : Int) ∧ Below w16.heap.size w16 wr) (fun i _ => n - (intOf i).toNat)
  case atStart => exact ⟨0, Nat.zero_le _, rfl, Below.refl _ _⟩
  case round =>
    obtain ⟨k, hk, rfl, hbel⟩ := hrel
    have HBK := hidD hbel
    have HTK := hidD (HT16.out.next hbel)
    have HBWK := hidD (Below.next HB16.out hbel)
    clear hbel
    by_cases hlt : k < n
    · have hlti : (k : Int) < (n : Int) := by omega
      go_wp2_with first
        | (go_at_call 20; have := N1; clear this; refine (ints_same (HFI.out _) _ _ _ HUe.out HWe.out).mono ?_; rintro e wf ⟨rfl, hb⟩; have HBf := hidD (Below.next HBe.out hb); clear hb)
        | (go_at_call 20; refine (ints_same (HFO.out _) _ _ _ HUb.out HWb.out).mono ?_; rintro e wc ⟨rfl, hb⟩; have HBc := hidD (Below.next HBb2.out hb); have HTc := hidD (HTb2.out.next hb); have N1 := trivial; clear hb)
        | (go_at_call 22; refine (H22.out [(k : Int)] _ _ (by simp) (HTd.out.next (HAA.out _ _)) (HIN.out _ _)).mono ?_; rintro e we ⟨ue, rfl, hi, hb⟩; have HBe := hidD (Below.next (Below.next HBd.out (HAA.out _ _)) hb); have HUe := hidD ((HUd.out.next (HAA.out _ _)).next hb); have HWe := hidD hi; clear hi hb)
        | (go_at_call 21; refine (H21.out [(k : Int)] _ _ (by simp) (HTc.out.next (HAA.out _ _)) (HIN.out _ _)).mono ?_; rintro e wd ⟨ud, rfl, hi, hb⟩; have HBd := hidD (Below.next (Below.next HBc.out (HAA.out _ _)) hb); have HTd := hidD ((HTc.out.next (HAA.out _ _)).next hb); have HUd := hidD hi; clear hi hb)
        | (go_at_call 24; refine (H24.out _ _ HTa.out).mono ?_; rintro e wb2 ⟨ub, rfl, hi, hb⟩; have HBb2 := hidD (Below.next HBa.out hb); have HTb2 := hidD (HTa.out.next hb); have HUb := hidD (HUa.out.next hb); have HWb := hidD hi; clear hi hb)
        | (go_at_call 23; refine (H23.out _ _ HTs.out).mono ?_; rintro e wa ⟨ua, rfl, hi, hb⟩; have HBa := hidD (Below.next HBs.out hb); have HTa := hidD (HTs.out.next hb); have HUa := hidD hi; clear hi hb)
        | (go_at_call 27; refine (H27.out _ HTK.out).mono ?_; rintro e ws ⟨rfl, hb⟩; have HBs := hidD (Below.next HBK.out hb); have HTs := hidD (HTK.out.next hb); clear hb)
      all_goals first | exact (un_bool6 (by assumption)).elim | skip
      go_roundw
      case rel => exact ⟨k + 1, by omega, by go_num, HBf.out⟩
      case measure => simp [intOf]; omega
    · obtain rfl : k = n := by omega
      have hnni : ¬ (k : Int) < (k : Int) := by omega
      go_wp2_with (go_at_call 27; refine (H27.out _ HTK.out).mono ?_; rintro e ws ⟨rfl, hb⟩; have HBs := hidD (Below.next HBWK.out hb); clear hb)
      go_ret
      exact ⟨rfl, HBs.out⟩
theorem sets_any (x : Tx) (hx : x.length ≤ maxLen) (a : Option Addr) (cap : Nat) (l : List Int) (hnone : a = none → cap = 0) (hll : l.length ≤ 17592186044416) (y : Int) (mx : Int) (w : World) (hv : IlAt w (.slice a l.length cap) l) (h00 : 0 < w.heap.size) (hm : w.cell? ⟨0, 0, none⟩ = some (.int .i64 mx)) : Calls Tryd.prog 5 #[encT x, .slice a l.length cap, .int .i64 y] w fun e w' => e = .returned (.bool true) ∧ Below w.heap.size w w' := by
  by_cases hE : (prR x).2 = 0
  · exact sets_ok x hx hE a cap l hnone hll y mx w hv h00 hm
  · exact sets_bad x hx hE a cap l hnone hll y mx w hv h00 hm
end Go.Proofs.YtgmbkelmgolkpaaDoor
