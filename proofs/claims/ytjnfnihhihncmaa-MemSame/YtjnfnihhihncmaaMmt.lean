/- MemScrubs. -/
import Derived.Test.YtjnfnihhihncmaaMms
namespace Go.Proofs.Ytjnfnihhihncmaa
open Go.RowKit
set_option linter.unusedVariables false

theorem one_seg {P : Nat → Prop} (W : World) (A : Int) (b : Nat) (hb : b < 256) (h1 : P W.heap.size) (h2 : P (W.heap.size + 1)) :
    SgsAt P ((W.alloc (.cells #[.int .u8 (b : Int)] (5 : TypeId))).alloc (.cells #[.int .i64 A, .slice (some ⟨W.heap.size, 0, none⟩) 1 1] (72 : TypeId))) (.slice (some ⟨W.heap.size + 1, 0, none⟩) 1 1) [(A, [UInt8.ofNat b])] := by
  have e1 : (W.alloc (.cells #[.int .u8 (b : Int)] (5 : TypeId))).heap.size = W.heap.size + 1 := World.size_alloc ..
  have hA := heap_alloc_last (W.alloc (.cells #[.int .u8 (b : Int)] (5 : TypeId))) (.cells #[.int .i64 A, .slice (some ⟨W.heap.size, 0, none⟩) 1 1] (72 : TypeId))
  rw [e1] at hA
  have hB := ((pin_map (w := W.alloc (.cells #[.int .u8 (b : Int)] (5 : TypeId))) (.cells #[.int .i64 A, .slice (some ⟨W.heap.size, 0, none⟩) 1 1] (72 : TypeId))).block W.heap.size (by omega)).trans (heap_alloc_last W (.cells #[.int .u8 (b : Int)] (5 : TypeId)))
  refine ⟨_, 1, rfl, fun i hi => ⟨W.heap.size + 1, 0, .slice (some ⟨W.heap.size, 0, none⟩) 1 1, rfl, row_lt hA, h2, ?_, ?_, ?_⟩⟩
  · have : i = 0 := by simpa using hi
    subst this
    rw [cell_of_row _ _ _ _ _ _ hA]; rfl
  · have : i = 0 := by simpa using hi
    subst this
    rw [cell_of_row _ _ _ _ _ _ hA]; rfl
  · have : i = 0 := by simpa using hi
    subst this
    refine ⟨_, 1, rfl, fun j hj => ⟨W.heap.size, 0, rfl, row_lt hB, h1, ?_⟩⟩
    have : j = 0 := by have h : j < 1 := hj; omega
    subst this
    rw [cell_of_row _ _ _ _ _ _ hB]
    show some (Value.int .u8 (b : Int)) = some (.int .u8 ((UInt8.ofNat b).toNat : Int))
    rw [UInt8.toNat_ofNat', Nat.mod_eq_of_lt hb]
theorem hv_loadOne {w0 W : World} {k : Mk} {Z : Nat → Nat × Nat} {x y : Int} (h : Hv w0 k cR Z x y W) (A b : Nat) (hA : A < 96) (hb : b < 256) (s : Nat) (hs : W.heap.size = s) :
    Calls Try.prog 21 #[.pointer (some ⟨k.m, 0, none⟩), .slice (some ⟨s + 1, 0, none⟩) 1 1] ((W.alloc (.cells #[.int .u8 (b : Int)] (5 : TypeId))).alloc (.cells #[.int .i64 (A : Int), .slice (some ⟨s, 0, none⟩) 1 1] (72 : TypeId))) fun e w' => ∃ Z', e = .returned (.int .i64 0) ∧ Hv w0 k cR Z' x y w' := by
  subst hs
  have B1 := (pin_map (w := W) (.cells #[.int .u8 (b : Int)] (5 : TypeId)))
  have B2 := Below.next B1 (pin_map (w := W.alloc (.cells #[.int .u8 (b : Int)] (5 : TypeId))) (.cells #[.int .i64 (A : Int), .slice (some ⟨W.heap.size, 0, none⟩) 1 1] (72 : TypeId)))
  have h2 := h.next B2
  have hlt := h.me.lt
  refine (load_any h2.me (by rw [h.hR]; exact cR_sep) [((A : Int), [UInt8.ofNat b])] (by show 1 ≤ _; decide) (fun s hs => by obtain rfl := List.mem_singleton.1 hs; show 1 ≤ _; decide) _ (one_seg W A b hb (fun e => e.elim (fun e => by omega) (fun e => by omega)) (fun e => e.elim (fun e => by omega) (fun e => by omega)))).mono ?_
  rintro e w' (⟨⟨s, hs, hn⟩, _⟩ | ⟨_, ⟨s, hs, hn⟩, _⟩ | ⟨_, _, he, hm, hc⟩)
  · obtain rfl := List.mem_singleton.1 hs
    exact absurd (show okA ((A : Int), [UInt8.ofNat b]) from ⟨by show (0 : Int) ≤ A; omega, by show (A : Int) + 1 ≤ 65536; omega⟩) hn
  · obtain rfl := List.mem_singleton.1 hs
    refine absurd (fun a h1 h3 => ?_) hn
    rw [h.hR]
    have h1' : (A : Int) ≤ a := h1
    have h3' : a < (A : Int) + 1 := h3
    have ha : a = A := by omega
    subst ha
    obtain ⟨f, t, kd, hq, hkd⟩ := cR_at A hA
    unfold cellR; rw [hq]; exact hkd
  · exact ⟨_, he, h2.chg hm hc⟩
theorem hv_turnAny {w0 w : World} {k : Mk} {Z : Nat → Nat × Nat} {x y : Int} (h : Hv w0 k cR Z x y w) (A : Nat) (hA : A < 96) (b : Int) :
    Calls Try.prog 22 #[.pointer (some ⟨k.m, 0, none⟩), .int .i64 A, .int .i64 b] w fun e w' => ∃ v Z', e = .returned v ∧ Hv w0 k cR Z' x y w' := by
  obtain ⟨f, t, kd, hq, hkd⟩ := cR_at A hA
  by_cases hb : 0 ≤ b ∧ b ≤ 12
  · obtain ⟨c, rfl⟩ : ∃ c : Nat, b = c := ⟨b.toNat, by omega⟩
    exact (hv_turn h A f t kd hq hkd c (by omega)).mono fun e w' ⟨h1, h2⟩ => ⟨_, _, h1, h2⟩
  · exact (hv_turnNo h A (by omega) b (by omega)).mono fun e w' ⟨h1, h2⟩ => ⟨_, _, h1, h2⟩
theorem wrap96 (a : Int) : ∃ A : Nat, A < 96 ∧ (a.tmod 96 + 96) % 96 = (A : Int) ∧ -96 < a.tmod 96 ∧ a.tmod 96 < 96 := by
  have hr1 := Int.lt_tmod_of_pos a (b := 96) (by decide)
  have hr2 := Int.tmod_lt_of_pos a (b := 96) (by decide)
  exact ⟨((a.tmod 96 + 96) % 96).toNat, by omega, by omega, by omega, hr2⟩
theorem Try.infoI : (Try.prog.info? 3).map (fun i => (i.zero, i.size, i.bytes)) = some (some (.int .i64 0), 1, 8) := by kernel_rfl
theorem wpList_append_i1 {ops : Array Oper} {rest : List Oper} {o : Oper} {a : Act} {Q : Exit → Act → World → Prop} {w : World} (hgd : o.guard = none) (s x : Operand)
    (ho : o.op = .call { callee := .builtin .append, args := #[s, x], argTypes := #[37, 37] }) (base : Nat) (v : Value) (n : Nat) (xs : List Value)
    (hs : a.eval s = v) (hown : w.ownsRow base 3 1 v n xs) (g : Nat) (u : Int) (hx : a.eval x = .slice (some ⟨g, 0, none⟩) 1 1) (hg : w.heap[g]? = some (.cells #[.int .i64 u] 3 (0, 0)))
    (hl : n + 1 ≤ 4398046511104) (hbase : base ≤ w.heap.size)
    (h : ∀ v' w', w'.ownsRow base 3 1 v' (n + 1) (xs ++ [.int .i64 u]) → w.grownBy w' v.ownBlock → wpList Try.prog ops Q rest (a.put o.dst v') w') : wpList Try.prog ops Q (o :: rest) a w := by
  obtain ⟨i0, hi, hz0, hz1, hz2⟩ := info_parts Try.infoI
  refine wpList_append_own w hgd s x 37 ho base 3 i0 _ 1 8 Try.underlying37 hi hz0 hz1 hz2 rfl (by decide) v n xs hs hown ⟨g, 0, none⟩ 1 1 [.int .i64 u] hx rfl (fun j v hv => ?_) (fun v hv => ?_) (by unfold maxLen; omega) (by omega) hbase fun v' w' h1 h2 _ => h v' w' h1 h2
  · rw [Go.WideShapes.add_plain, cell_of_row _ _ _ _ _ _ hg]
    match j, hv with
    | 0, hv => simpa using hv
    | j + 1, hv => simp at hv
  · obtain rfl := List.mem_singleton.1 hv; rfl
noncomputable def wv (z : Nat × Nat) : Int := ((decS z).1 : Int) + 256 * rdE z
noncomputable def wasL (Z : Nat → Nat × Nat) (m : Nat) : List Value := (List.range m).map fun i => Value.int .i64 (wv (Z i))
theorem wasL_step (Z : Nat → Nat × Nat) (m : Nat) : wasL Z (m + 1) = wasL Z m ++ [.int .i64 (wv (Z m))] := by unfold wasL; rw [List.range_succ, List.map_append]; rfl
theorem own_chg {S : Nat → Prop} {w w' : World} {base n : Nat} {e : TypeId} {s : Nat} {v : Value} {xs : List Value} (h : w.ownsRow base e s v n xs) (hc : Chg S w w') (hs : ∀ g, base ≤ g → ¬ S g) : w'.ownsRow base e s v n xs := by
  refine ⟨h.1, ?_⟩
  rcases h.2 with h0 | ⟨g, cap, cur, rfl, hb, hg, h1⟩
  · exact .inl h0
  · exact .inr ⟨g, cap, cur, rfl, hb, (hc.block g (row_lt hg) (hs g hb)).trans hg, h1⟩
theorem own_cell {w : World} {base n g cap : Nat} {e : TypeId} {xs : List Value} (h : w.ownsRow base e 1 (.slice (some ⟨g, 0, none⟩) n cap) n xs) {j : Nat} (hj : j < n) : w.cell? ⟨g, j, none⟩ = xs[j]? := by
  rcases h.2 with ⟨h0, _⟩ | ⟨g', cap', cur, e', hb, hg, h1, h2, h3, h4⟩
  · cases h0
  · cases e'
    rw [cell_of_row _ _ _ _ _ _ hg, ← h4, List.getElem?_take_of_lt (by omega), Array.getElem?_toList]
theorem wasL_get (Z : Nat → Nat × Nat) (m j : Nat) (h : j < m) : (wasL Z m)[j]? = some (.int .i64 (wv (Z j))) := by
  unfold wasL; rw [List.getElem?_map, List.getElem?_range h]; rfl
theorem rdE_two (z : Nat × Nat) : 0 ≤ rdE z ∧ rdE z ≤ 232 := by unfold rdE; split <;> decide
set_option maxRecDepth 100000 in
set_option maxHeartbeats 6400000 in
theorem scrubs_any (n0 : Nat) (hn0 : n0 ≤ 140737488355328) (vs : Value) (w : World) (hv : OpsAt w vs n0) :
    Calls Try.prog 6 #[vs] w fun e w' => e = .returned (.bool true) ∧ Below w.heap.size w w' := by
  have HAL := hidD (fun w => alive_any w)
  have HNW : Hid (∀ w1, Calls Try.prog 9 #[.slice (some ⟨w1.heap.size, 0, none⟩) 2 2] (w1.alloc (.cells #[.int .i64 0, .int .i64 64, .int .i64 1, .int .i64 64, .int .i64 96, .int .i64 2] (35 : TypeId))) fun e w' => ∃ k : Mk, e = .returned (.tuple #[.pointer (some ⟨k.m, 0, none⟩), .int .i64 0]) ∧ Hv w1 k cR (fun _ => (0, 0)) 0 0 w') := fun w1 =>
    (hv_new cR cR (by decide) _ _ (row_rs (g := w1.heap.size) (cap := 2) (L := cR) (heap_alloc_last w1 (.cells #[.int .i64 0, .int .i64 64, .int .i64 1, .int .i64 64, .int .i64 96, .int .i64 2] (35 : TypeId)))) cR_ok (List.Perm.refl _) (by unfold cR; decide) cR_over).mono fun e w' ⟨k, h1, h2⟩ => ⟨k, h1, h2.frame (pin_map _)⟩
  obtain ⟨va, rc, rfl, hc⟩ := hv
  have HC := hidD hc
  clear hc
  go_enter Try.func6, Try.ntmps6
  go_wp2_with (first
    | (go_at_call 11; refine (HAL.out _).mono ?_; rintro e w1 ⟨rfl, hb⟩; have B1 := hidD hb; clear hb)
    | (go_at_call 9; refine (HNW.out _).mono ?_; rintro e w2 ⟨k, rfl, hv1⟩; have HV2 := hidD (hv1.frame B1.out); clear hv1))
  go_loopw [5] (fun i wr => ∃ (n : Nat) (Z : Nat → Nat × Nat), n ≤ n0 ∧ i = .int .i64 n ∧ Hv w k cR Z 0 0 wr) (fun i _ => n0 - (intOf i).toNat)
  case atStart => exact ⟨0, _, Nat.zero_le _, rfl, HV2.out⟩
  case round =>
    obtain ⟨n, Z, hn, rfl, hvr⟩ := hrel
    have HVR := hidD hvr
    clear hvr
    by_cases hlt : n < n0
    · have hlti : (n : Int) < n0 := by omega
      obtain ⟨g, o, kd, at', bit, b, la, ln, lc, wd, wc, rfl, hg, hb, k0, k1, k2, k3, k4, k5, k6⟩ := HC.out n hlt
      have e0 := (HVR.out.bel.cell (p := ⟨g, o + n * 7, none⟩) hg).trans k0
      have e1 := (HVR.out.bel.cell (p := ⟨g, o + n * 7 + 1, none⟩) hg).trans k1
      have e2 := (HVR.out.bel.cell (p := ⟨g, o + n * 7 + 2, none⟩) hg).trans k2
      have e3 := (HVR.out.bel.cell (p := ⟨g, o + n * 7 + 3, none⟩) hg).trans k3
      have e4 := (HVR.out.bel.cell (p := ⟨g, o + n * 7 + 4, none⟩) hg).trans k4
      have e5 := (HVR.out.bel.cell (p := ⟨g, o + n * 7 + 5, none⟩) hg).trans k5
      have e6 := (HVR.out.bel.cell (p := ⟨g, o + n * 7 + 6, none⟩) hg).trans k6
      clear k0 k1 k2 k3 k4 k5 k6
      have hrow := heap_alloc_last wr (.cells #[.int .i64 kd, .int .i64 at', .int .i64 bit, .int .u8 (b : Int), .slice la ln lc, .int .u64 wd, .int .u8 wc] (46 : TypeId))
      have f0 : (wr.alloc (.cells #[.int .i64 kd, .int .i64 at', .int .i64 bit, .int .u8 (b : Int), .slice la ln lc, .int .u64 wd, .int .u8 wc] (46 : TypeId))).cell? ⟨wr.heap.size, 0, none⟩ = some (.int .i64 kd) := by rw [cell_of_row _ _ _ _ _ _ hrow]; rfl
      have f1 : (wr.alloc (.cells #[.int .i64 kd, .int .i64 at', .int .i64 bit, .int .u8 (b : Int), .slice la ln lc, .int .u64 wd, .int .u8 wc] (46 : TypeId))).cell? ⟨wr.heap.size, 1, none⟩ = some (.int .i64 at') := by rw [cell_of_row _ _ _ _ _ _ hrow]; rfl
      have f2 : (wr.alloc (.cells #[.int .i64 kd, .int .i64 at', .int .i64 bit, .int .u8 (b : Int), .slice la ln lc, .int .u64 wd, .int .u8 wc] (46 : TypeId))).cell? ⟨wr.heap.size, 2, none⟩ = some (.int .i64 bit) := by rw [cell_of_row _ _ _ _ _ _ hrow]; rfl
      have f3 : (wr.alloc (.cells #[.int .i64 kd, .int .i64 at', .int .i64 bit, .int .u8 (b : Int), .slice la ln lc, .int .u64 wd, .int .u8 wc] (46 : TypeId))).cell? ⟨wr.heap.size, 3, none⟩ = some (.int .u8 (b : Int)) := by rw [cell_of_row _ _ _ _ _ _ hrow]; rfl
      have HV1 := hidD (HVR.out.next (pin_map (w := wr) (.cells #[.int .i64 kd, .int .i64 at', .int .i64 bit, .int .u8 (b : Int), .slice la ln lc, .int .u64 wd, .int .u8 wc] (46 : TypeId))))
      clear hrow
      obtain ⟨A, hA, hw, hr1, hr2⟩ := wrap96 at'
      have HA := hidD hA
      clear hA
      obtain ⟨r, hr⟩ : ∃ r, at'.tmod 96 = r := ⟨_, rfl⟩
      rw [hr] at hw hr1 hr2
      have hw2 : (r + 96).tmod 96 = (A : Int) := by rw [Int.tmod_eq_emod_of_nonneg (by omega)]; exact hw
      by_cases hev : kd.tmod 2 = 0
      · have HT := hidD (hv_turnAny HV1.out A HA.out bit)
        go_wp2_with (go_at_call 22; refine HT.out.mono ?_; rintro e w3 ⟨v, Z', rfl, hv3⟩; have HV3 := hidD hv3; clear hv3)
        exact ⟨⟨n + 1, _, by omega, by simp, HV3.out⟩, by simp [intOf]; omega⟩
      · have HL := hidD (hv_loadOne HV1.out A b HA.out hb (wr.heap.size + 1) (World.size_alloc ..))
        go_wp2_with (go_at_call 21; refine HL.out.mono ?_; rintro e w3 ⟨Z', rfl, hv3⟩; have HV3 := hidD hv3; clear hv3)
        exact ⟨⟨n + 1, _, by omega, by simp, HV3.out⟩, by simp [intOf]; omega⟩
    · have hnl : ¬ (n : Int) < n0 := by omega
      go_wp2_with fail
      obtain ⟨W0, hW0⟩ : ∃ W0, W0 = wr := ⟨_, rfl⟩
      subst hW0
      clear HV2 HC HNW HAL hn hlt
      go_loopw [8, 9] (fun v i wr => ∃ m : Nat, m ≤ 96 ∧ i = .int .i64 m ∧ wr.ownsRow W0.heap.size 3 1 v m (wasL Z m) ∧ Below W0.heap.size W0 wr) (fun _ i _ => 96 - (intOf i).toNat)
      case atStart => exact ⟨0, Nat.zero_le _, rfl, World.ownsRow_nil _ _ _ _, Below.refl _ _⟩
      case round =>
        obtain ⟨m, hm, rfl, how, hbel⟩ := hrel
        have HOW := hidD how
        have HBW := hidD hbel
        clear how hbel
        by_cases hlt : m < 96
        · have hlti : (m : Int) < 96 := by omega
          have HVW := hidD (HVR.out.next HBW.out)
          obtain ⟨f, t, kd, hq, hkd⟩ := cR_at m hlt
          have HP := hidD (peek_ok HVW.out.me m f t kd (HVW.out.rg hq) hkd)
          have hD := dec_lt (HVW.out.me.ce.cell (i := m) (by omega)).2.1
          have hE := rdE_two (Z m)
          have HST : Hid (wasL Z (m + 1) = wasL Z m ++ [.int .i64 (((decS (Z m)).1 : Int) + 256 * rdE (Z m))]) := wasL_step Z m
          clear hq hkd
          generalize (decS (Z m)).1 = D at *
          generalize rdE (Z m) = E at *
          have hw1 : wrap64 (256 * E) = 256 * E := by unfold wrap64; omega
          have hw2 : wrap64 ((D : Int) + 256 * E) = (D : Int) + 256 * E := by unfold wrap64; omega
          go_wp2_with (first
            | (go_at_call 17; refine HP.out.mono ?_; rintro e w3 ⟨rfl, hb3⟩; have HB3 := hidD hb3; clear hb3)
            | (refine wpList_append_i1 rfl _ _ rfl W0.heap.size _ m (wasL Z m) rfl (row_below (row_below HOW.out HB3.out) (pin_map _)) w3.heap.size ((D : Int) + 256 * E) rfl (heap_alloc_last _ _) (by omega) (Nat.le_trans HBW.out.size (Nat.le_trans HB3.out.size (pin_map _).size)) ?_; intro v' w4 h1 h2
               have HO4 := hidD h1
               have HB4 := hidD (row_grown (row_below (row_below HOW.out HB3.out) (pin_map _)) (HBW.out.trans ((HB3.out.trans ((pin_map _).mono HB3.out.size)).mono HBW.out.size)) h2 (Nat.le_trans HBW.out.size (Nat.le_trans HB3.out.size (pin_map _).size)))
               clear h1 h2))
          exact ⟨⟨m + 1, by omega, by simp, by rw [HST.out]; exact HO4.out, HB4.out⟩, by simp [intOf]; omega⟩
        · have hm96 : m = 96 := by omega
          subst hm96
          have HVW := hidD (HVR.out.next HBW.out)
          have HRK := hidD HVW.out.hR
          have HSP : Hid (SepR k.R) := by show SepR k.R; rw [HRK.out]; exact cR_sep
          have HNO : Hid (∀ g, W0.heap.size ≤ g → ¬ k.own g) := fun g hg e => e.elim (fun e => by have := HVR.out.me.lt.1; omega) (fun e => by have := HVR.out.me.lt.2.2; omega)
          obtain ⟨vg, vc, rfl, hvb, hvl, hvc⟩ := row_shapeC HOW.out (by decide)
          have HVB := hidD hvb
          obtain ⟨a, ha⟩ : ∃ a, Hid (totS Z mX = a) := ⟨_, rfl⟩
          obtain ⟨l, hl⟩ : ∃ l, Hid (totS Z mY = l) := ⟨_, rfl⟩
          have hab : 0 ≤ a ∧ a ≤ 96 := by have := tot_le Z mX mX_two; rw [ha.out] at this; exact this
          have hlb : 0 ≤ l ∧ l ≤ 96 := by have := tot_le Z mY mY_two; rw [hl.out] at this; exact this
          have HS1 : Hid (Calls Try.prog 19 #[.pointer (some ⟨k.m, 0, none⟩)] wr fun e w' => e = .returned (.tuple #[.int .i64 a, .int .i64 l]) ∧ Hv w k cR (scZ (scZ Z 0 64) 64 32) a l w' ∧ Chg k.own wr w') := by
            have := scrub_any HVW.out.me HSP.out (by decide) (by decide)
            rw [HRK.out, cR_sx, cR_sx, cR_sc, ha.out, hl.out, Int.zero_add, Int.zero_add] at this
            exact this.mono fun e w' ⟨h1, h2, h3⟩ => ⟨h1, HVW.out.chg h2 h3, h3⟩
          have hnl96 : ¬ ((96 : Nat) : Int) < 96 := by decide
          have hla : ¬ a < 0 := by omega
          clear hm hlt hvb
          go_wp2_with (first
            | (go_at_call 19; refine HS1.out.mono ?_; rintro e w3 ⟨rfl, hv3, hc3⟩; clear HS1
               have HO3 := hidD (own_chg HOW.out hc3 HNO.out)
               have HS2 : Hid (Calls Try.prog 19 #[.pointer (some ⟨k.m, 0, none⟩)] w3 fun e w' => e = .returned (.tuple #[.int .i64 0, .int .i64 l]) ∧ Hv w k cR (scZ (scZ (scZ (scZ Z 0 64) 64 32) 0 64) 64 32) a (l + l) w' ∧ Chg k.own w3 w') := by
                 have := scrub_any hv3.me HSP.out (by omega) (by omega)
                 rw [HRK.out, cR_sx, cR_sx, cR_sc, (tot_second Z).1, (tot_second Z).2, hl.out, Int.add_zero] at this
                 exact this.mono fun e w' ⟨h1, h2, h3⟩ => ⟨h1, hv3.chg h2 h3, h3⟩
               clear hv3 hc3)
            | (go_at_call 19; refine HS2.out.mono ?_; rintro e w4 ⟨rfl, hv4, hc4⟩; clear HS2
               have HO4 := hidD (own_chg HO3.out hc4 HNO.out)
               have HC5 : Hid (Calls Try.prog 14 #[.pointer (some ⟨k.m, 0, none⟩)] w4 fun e w' => e = .returned (.tuple #[.int .i64 a, .int .i64 (l + l)]) ∧ Hv w k cR (scZ (scZ (scZ (scZ Z 0 64) 64 32) 0 64) 64 32) a (l + l) w' ∧ Below w4.heap.size w4 w') := (counts_any hv4.me).mono fun e w' ⟨h1, h2⟩ => ⟨h1, hv4.next h2, h2⟩
               clear hv4 hc4)
            | (go_at_call 14; refine HC5.out.mono ?_; rintro e w5 ⟨rfl, hv5, hb5⟩; clear HC5
               have HV5 := hidD hv5
               have HO5 := hidD (row_below HO4.out hb5)
               clear hv5 hb5))
          have HT0 : Hid (∀ i, i < 96 → (decS (scZ (scZ (scZ (scZ Z 0 64) 64 32) 0 64) 64 32 i)).1 = (decS (Z i)).1 ∧ rdE (scZ (scZ (scZ (scZ Z 0 64) 64 32) 0 64) 64 32 i) = rdE (Z i)) := fun i hi => by
            rw [sc_at _ _ hi, sc_at _ _ hi]
            exact ⟨(md_told _).1.trans (md_told _).1, (md_told _).2.1.trans (md_told _).2.1⟩
          go_loopw [18] (fun i wr => ∃ (m : Nat) (Zc : Nat → Nat × Nat) (xc yc : Int), m ≤ 96 ∧ i = .int .i64 m ∧ Hv w k cR Zc xc yc wr ∧ (∀ i, i < 96 → (decS (Zc i)).1 = (decS (Z i)).1 ∧ rdE (Zc i) = rdE (Z i)) ∧ (0 ≤ xc ∧ xc ≤ 1000 + m) ∧ (0 ≤ yc ∧ yc ≤ 1000 + m) ∧ wr.ownsRow W0.heap.size 3 1 (.slice (some ⟨vg, 0, none⟩) 96 vc) 96 (wasL Z 96)) (fun i _ => 96 - (intOf i).toNat)
          case atStart => exact ⟨0, _, a, l + l, Nat.zero_le _, rfl, HV5.out, HT0.out, by omega, by omega, HO5.out⟩
          case round =>
            clear HT0 HV5 HO5
            obtain ⟨m, Zc, xc, yc, hm, rfl, hvc2, htold, hxc, hyc, how⟩ := hrel
            have HVC := hidD hvc2
            have HTO := hidD htold
            have HOW2 := hidD how
            clear hvc2 htold how
            by_cases hlt : m < 96
            · have hlti : (m : Int) < 96 := by omega
              obtain ⟨f, t, kd, hq, hkd⟩ := cR_at m hlt
              have HRD : Hid (Calls Try.prog 16 #[.pointer (some ⟨k.m, 0, none⟩), .int .i64 m] wr fun e w' => e = .returned (.tuple #[.int .u8 ((decS (Z m)).1 : Int), .int .i64 (rdE (Z m))]) ∧ Hv w k cR (upd Zc m (mdZ (Zc m))) (xc + mX (Zc m)) (yc + mY (Zc m)) w' ∧ Chg k.own wr w') := by
                have := read_cell HVC.out.me m f t kd (HVC.out.rg hq) hkd (by omega) (by omega)
                rw [(HTO.out m hlt).1, (HTO.out m hlt).2] at this
                exact this.mono fun e w' ⟨h1, h2, h3⟩ => ⟨h1, HVC.out.chg h2 h3, h3⟩
              have HTN : Hid (∀ i, i < 96 → (decS (upd Zc m (mdZ (Zc m)) i)).1 = (decS (Z i)).1 ∧ rdE (upd Zc m (mdZ (Zc m)) i) = rdE (Z i)) := fun i hi => by
                by_cases him : i = m
                · subst him; rw [upd_same]; exact ⟨(md_told _).1.trans (HTO.out i hi).1, (md_told _).2.1.trans (HTO.out i hi).2⟩
                · rw [upd_ne _ _ him]; exact HTO.out i hi
              have hmx := mX_two (Zc m)
              have hmy := mY_two (Zc m)
              have hD := dec_lt (HVR.out.me.ce.cell (i := m) (by omega)).2.1
              have hE := rdE_two (Z m)
              have hcl : ∀ w' : World, w'.ownsRow W0.heap.size 3 1 (.slice (some ⟨vg, 0, none⟩) 96 vc) 96 (wasL Z 96) → w'.cell? ⟨vg, m, none⟩ = some (.int .i64 (((decS (Z m)).1 : Int) + 256 * rdE (Z m))) := fun w' h => (own_cell h hlt).trans (wasL_get Z 96 m hlt)
              have HCL := hidD hcl
              clear hq hkd hcl
              generalize (decS (Z m)).1 = D at *
              generalize rdE (Z m) = E at *
              generalize mX (Zc m) = mx at *
              generalize mY (Zc m) = my at *
              have hw1 : wrap64 (256 * E) = 256 * E := by unfold wrap64; omega
              have hw2 : wrap64 ((D : Int) + 256 * E) = (D : Int) + 256 * E := by unfold wrap64; omega
              go_wp2_with (go_at_call 16; refine HRD.out.mono ?_; rintro e w6 ⟨rfl, hv6, hc6⟩
                           have HV6 := hidD hv6
                           have HO6 := hidD (own_chg HOW2.out hc6 HNO.out)
                           have c6 := HCL.out _ HO6.out
                           clear hv6 hc6)
              exact ⟨⟨m + 1, _, _, _, by omega, by simp, HV6.out, HTN.out, by omega, by omega, HO6.out⟩, by simp [intOf]; omega⟩
            · have hm96 : m = 96 := by omega
              subst hm96
              have hl2 : wrap64 (2 * l) = l + l := by unfold wrap64; omega
              go_wp2_with fail
              go_ret
              exact ⟨by simp; omega, HVC.out.bel⟩
end Go.Proofs.Ytjnfnihhihncmaa
