/- Texts of one proof, one behind the other. -/
import Derived.Test.YtgmbkelmgolkpabDoorGmd
import Derived.Test.YtgmbkelmgolkpabDoorGn
/- Offers in memory; what isLess, allSettled and leastOpen answer. -/
namespace Go.Proofs.YtgmbkelmgolkpabDoor
open Go.RowKit
set_option linter.unusedVariables false

/-- An offer: a text, is it there, is it settled. -/
structure Of where
  t : Tx
  th : Bool
  se : Bool
def ofV (F : Nat → Of) (i : Nat) : Value := if i % 3 = 0 then encT (F (i / 3)).t else if i % 3 = 1 then .bool (F (i / 3)).th else .bool (F (i / 3)).se
def ofC (n : Nat) (F : Nat → Of) : Array Value := ((List.range (n * 3)).map (ofV F)).toArray
theorem of_size (n : Nat) (F : Nat → Of) : (ofC n F).size = n * 3 := by simp [ofC]
theorem of_get {n : Nat} (F : Nat → Of) {i : Nat} (h : i < n * 3) : (ofC n F)[i]? = some (ofV F i) := by
  rw [ofC, List.getElem?_toArray, List.getElem?_map, List.getElem?_range h]; rfl
theorem of_none {n : Nat} (F : Nat → Of) {i : Nat} (h : n * 3 ≤ i) : (ofC n F)[i]? = none := Array.getElem?_eq_none (by rw [of_size]; exact h)
theorem of_t {n s : Nat} (F : Nat → Of) (h : s < n) : (ofC n F)[s * 3]? = some (encT (F s).t) := by
  rw [of_get F (by omega)]; unfold ofV; rw [if_pos (by omega), show s * 3 / 3 = s by omega]
theorem of_th {n s : Nat} (F : Nat → Of) (h : s < n) : (ofC n F)[s * 3 + 1]? = some (.bool (F s).th) := by
  rw [of_get F (by omega)]; unfold ofV; rw [if_neg (by omega), if_pos (by omega), show (s * 3 + 1) / 3 = s by omega]
theorem of_se {n s : Nat} (F : Nat → Of) (h : s < n) : (ofC n F)[s * 3 + 2]? = some (.bool (F s).se) := by
  rw [of_get F (by omega)]; unfold ofV; rw [if_neg (by omega), if_neg (by omega), show (s * 3 + 2) / 3 = s by omega]
def updO (F : Nat → Of) (s : Nat) (o : Of) : Nat → Of := fun y => if y = s then o else F y
theorem updO_same (F : Nat → Of) (s : Nat) (o : Of) : updO F s o s = o := if_pos rfl
theorem updO_other {F : Nat → Of} {s y : Nat} {o : Of} (h : y ≠ s) : updO F s o y = F y := if_neg h
theorem of_ext {n : Nat} {F G : Nat → Of} (h : ∀ s, s < n → F s = G s) : ofC n F = ofC n G := by
  refine Array.ext_getElem? fun i => ?_
  rcases Nat.lt_or_ge i (n * 3) with hi | hi
  · rw [of_get F hi, of_get G hi]; unfold ofV; rw [h (i / 3) (by omega)]
  · rw [of_none F hi, of_none G hi]
theorem of_put {n s k : Nat} {F G : Nat → Of} {v : Value} (hs : s < n) (hk : k < 3) (hv : v = ofV G (s * 3 + k)) (ho : ∀ i, i < n * 3 → i ≠ s * 3 + k → ofV F i = ofV G i) : (ofC n F).setIfInBounds (s * 3 + k) v = ofC n G := by
  refine Array.ext_getElem? fun i => ?_
  rw [Array.getElem?_setIfInBounds]
  by_cases hi : s * 3 + k = i
  · subst hi
    rw [if_pos rfl, if_pos (by rw [of_size]; omega), of_get G (by omega), hv]
  · rw [if_neg hi]
    rcases Nat.lt_or_ge i (n * 3) with h3 | h3
    · rw [of_get F h3, of_get G h3, ho i h3 (Ne.symm hi)]
    · rw [of_none F h3, of_none G h3]
theorem of_settle {n s : Nat} (F : Nat → Of) (hs : s < n) : (ofC n F).setIfInBounds (s * 3 + 2) (.bool true) = ofC n (updO F s { F s with se := true }) :=
  of_put hs (by omega) (by unfold ofV; rw [if_neg (by omega), if_neg (by omega), show (s * 3 + 2) / 3 = s by omega, updO_same]) fun i hi hne => by
    unfold ofV
    by_cases h : i / 3 = s
    · rw [h, updO_same]
      by_cases h0 : i % 3 = 0
      · rw [if_pos h0, if_pos h0]
      · rw [if_neg h0, if_neg h0, if_pos (show i % 3 = 1 by omega), if_pos (show i % 3 = 1 by omega)]
    · rw [updO_other h]
theorem of_text {n s : Nat} (F : Nat → Of) (x : Tx) (hs : s < n) : ((ofC n F).setIfInBounds (s * 3) (encT x)).setIfInBounds (s * 3 + 1) (.bool true) = ofC n (updO F s { F s with t := x, th := true }) := by
  have h1 : (ofC n F).setIfInBounds (s * 3 + 0) (encT x) = ofC n (updO F s { F s with t := x }) :=
    of_put hs (by omega) (by unfold ofV; rw [if_pos (by omega), show (s * 3 + 0) / 3 = s by omega, updO_same]) fun i hi hne => by
      unfold ofV
      by_cases h : i / 3 = s
      · rw [h, updO_same, if_neg (show ¬ i % 3 = 0 by omega), if_neg (show ¬ i % 3 = 0 by omega)]
      · rw [updO_other h]
  rw [Nat.add_zero] at h1
  rw [h1]
  refine of_put hs (by omega) (by unfold ofV; rw [if_neg (by omega), if_pos (by omega), show (s * 3 + 1) / 3 = s by omega, updO_same]) fun i hi hne => ?_
  unfold ofV
  by_cases h : i / 3 = s
  · rw [h, updO_same, updO_same]
    by_cases h0 : i % 3 = 0
    · rw [if_pos h0, if_pos h0]
    · rw [if_neg h0, if_neg h0, if_neg (show ¬ i % 3 = 1 by omega), if_neg (show ¬ i % 3 = 1 by omega)]
  · rw [updO_other h, updO_other h]
/-- The shorter one is less; of one length either answer. -/
def LsIs (a b : Tx) (r : Bool) : Prop := (a.length < b.length → r = true) ∧ (b.length < a.length → r = false)
set_option maxRecDepth 100000 in
set_option maxHeartbeats 800000 in
theorem isLess_any (a b : Tx) (ha : a.length ≤ maxLen) (hb : b.length ≤ maxLen) (w : World) : Calls Tryd.prog 65 #[encT a, encT b] w fun e w' => ∃ r, e = .returned (.bool r) ∧ LsIs a b r ∧ w' = w := by
  unfold encT
  have h1 : ((bA a).size : Int) = (a.length : Int) := by rw [ba_size]
  have h2 : ((bA b).size : Int) = (b.length : Int) := by rw [ba_size]
  unfold LsIs
  by_cases he : a.length = b.length
  · have hd : ((bA a).size : Int) = ((bA b).size : Int) := by omega
    go_enter Tryd.func65, Tryd.ntmps65
    go_wp2
    go_ret
    exact ⟨_, rfl, ⟨fun h => by omega, fun h => by omega⟩, rfl⟩
  · have hd : ¬ ((bA a).size : Int) = ((bA b).size : Int) := by omega
    go_enter Tryd.func65, Tryd.ntmps65
    go_wp2
    go_ret
    exact ⟨_, rfl, ⟨fun h => by simp; omega, fun h => by simp; omega⟩, rfl⟩
end Go.Proofs.YtgmbkelmgolkpabDoor
/- What allSettled and leastOpen answer. -/
namespace Go.Proofs.YtgmbkelmgolkpabDoor
open Go.RowKit
set_option linter.unusedVariables false

set_option maxRecDepth 100000 in
set_option maxHeartbeats 800000 in
theorem allSettled_any {g n : Nat} (F : Nat → Of) (hn : n ≤ 128) (l : List Int) (hl : l.length ≤ 1048576) (hs : ∀ j, j < l.length → ∃ s : Nat, l.getD j 0 = (s : Int) ∧ s < n) (v : Value) (w : World) (hv : IlAt w v l) (hc : CsAt w g (ofC n F) 92) : Calls Tryd.prog 52 #[v, .slice (some ⟨g, 0, none⟩) n n] w fun e w' => e = .returned (.bool (l.all fun x => (F x.toNat).se)) ∧ w' = w := by
  obtain ⟨a, c, rfl, h1, h2, h3⟩ := hv
  have HCE := hidD h3
  have HSS := hidD hs
  have HT : Hid ((∀ q, q < l.length → (F (l.getD q 0).toNat).se = true) → l.all (fun x => (F x.toNat).se) = true) := fun h => all_true (f := fun x => (F x.toNat).se) h
  have HF : Hid (∀ q, q < l.length → (F (l.getD q 0).toNat).se = false → l.all (fun x => (F x.toNat).se) = false) := fun q hq h => all_false (f := fun x => (F x.toNat).se) hq h
  clear h3 hs
  generalize l.all (fun x => (F x.toNat).se) = A at *
  generalize hm : l.length = m at *
  clear hm
  go_enter Tryd.func52, Tryd.ntmps52
  go_wp2_with fail
  go_loop [9] (fun i => ∃ q : Nat, q ≤ m ∧ i = .int .i64 (q : Int) ∧ ∀ j, j < q → (F (l.getD j 0).toNat).se = true) (fun i => m - (intOf i).toNat)
  case atStart => exact ⟨0, Nat.zero_le _, rfl, fun j hj => absurd hj (by omega)⟩
  case round =>
    obtain ⟨q, hq, rfl, hall⟩ := hrel
    have HA := hidD hall
    clear hall
    by_cases hqt : q < m
    · have hqti : (q : Int) < (m : Int) := by omega
      obtain ⟨g1, o1, rfl, hg1, f1⟩ := HCE.out q hqt
      obtain ⟨s, hs, hsn⟩ := HSS.out q hqt
      rw [hs] at f1
      have f2 : w.cell? ⟨g, s * 3 + 2, none⟩ = some (.bool (F s).se) := (hc.cell _).trans (of_se F hsn)
      have hsi : (s : Int) < (n : Int) := by omega
      have HQ := hidD (HF.out q hqt)
      rw [hs, Int.toNat_natCast] at HQ
      have HST : Hid ((F s).se = true → ∀ j, j < q + 1 → (F (l.getD j 0).toNat).se = true) := fun h j hj => by
        by_cases hjq : j = q
        · rw [hjq, hs, Int.toNat_natCast]; exact h
        · exact HA.out j (by omega)
      cases hb : (F s).se with
      | true =>
        rw [hb] at f2
        have HS := hidD (HST.out hb)
        clear hb
        go_wp2_with fail
        go_round
        case rel => exact ⟨q + 1, by omega, by go_num, HS.out⟩
        case measure => simp [intOf]; omega
      | false =>
        rw [hb] at f2
        have HN := hidD (HQ.out hb)
        clear hb
        go_wp2_with fail
        go_ret
        exact ⟨by rw [HN.out]; rfl, rfl⟩
    · obtain rfl : q = m := by omega
      have HY := hidD (HT.out HA.out)
      go_wp2_with fail
      go_ret
      exact ⟨by rw [HY.out]; rfl, rfl⟩
/-- An offer that is open. -/
def opn (F : Nat → Of) (s : Nat) : Bool := (F s).th && !(F s).se
/-- The least one of those that are open, as far as lengths tell, of the first k; none. -/
def LoTo (F : Nat → Of) (k : Nat) (r : Int) : Prop := (r = -1 ∧ ∀ s, s < k → opn F s = false) ∨ ∃ s : Nat, r = (s : Int) ∧ s < k ∧ opn F s = true ∧ ∀ y, y < k → opn F y = true → (F s).t.length ≤ (F y).t.length
theorem LoTo.skip {F : Nat → Of} {k : Nat} {r : Int} (h : LoTo F k r) (ho : opn F k = false) : LoTo F (k + 1) r := by
  rcases h with ⟨h1, h2⟩ | ⟨s, h1, h2, h3, h4⟩
  · exact .inl ⟨h1, fun y hy => by
      by_cases hyk : y = k
      · rw [hyk]; exact ho
      · exact h2 y (by omega)⟩
  · exact .inr ⟨s, h1, by omega, h3, fun y hy hoy => by
      by_cases hyk : y = k
      · rw [hyk, ho] at hoy; cases hoy
      · exact h4 y (by omega) hoy⟩
theorem LoTo.first {F : Nat → Of} {k : Nat} (h : LoTo F k (-1)) (ho : opn F k = true) : LoTo F (k + 1) (k : Int) := by
  rcases h with ⟨h1, h2⟩ | ⟨s, h1, _⟩
  · exact .inr ⟨k, rfl, by omega, ho, fun y hy hoy => by
      by_cases hyk : y = k
      · rw [hyk]; exact Nat.le_refl _
      · rw [h2 y (by omega)] at hoy; cases hoy⟩
  · omega
theorem LoTo.step {F : Nat → Of} {k s : Nat} {r : Bool} (h : LoTo F k (s : Int)) (ho : opn F k = true) (hr : LsIs (F k).t (F s).t r) : LoTo F (k + 1) (if r then (k : Int) else (s : Int)) := by
  rcases h with ⟨h1, _⟩ | ⟨s', h1, h2, h3, h4⟩
  · omega
  · obtain rfl : s' = s := by omega
    cases r with
    | true =>
      have hle : (F k).t.length ≤ (F s').t.length := by
        rcases Nat.lt_or_ge (F s').t.length (F k).t.length with h | h
        · have := hr.2 h; cases this
        · exact h
      exact .inr ⟨k, rfl, by omega, ho, fun y hy hoy => by
        by_cases hyk : y = k
        · rw [hyk]; exact Nat.le_refl _
        · exact Nat.le_trans hle (h4 y (by omega) hoy)⟩
    | false =>
      have hle : (F s').t.length ≤ (F k).t.length := by
        rcases Nat.lt_or_ge (F k).t.length (F s').t.length with h | h
        · have := hr.1 h; cases this
        · exact h
      exact .inr ⟨s', rfl, by omega, h3, fun y hy hoy => by
        by_cases hyk : y = k
        · rw [hyk]; exact hle
        · exact h4 y (by omega) hoy⟩
theorem LoTo.lt {F : Nat → Of} {k : Nat} {r : Int} (h : LoTo F k r) : r = -1 ∨ ∃ s : Nat, r = (s : Int) ∧ s < k := by
  rcases h with ⟨h1, _⟩ | ⟨s, h1, h2, _⟩
  · exact .inl h1
  · exact .inr ⟨s, h1, h2⟩
theorem cp_bel (wp : World) (t x y : Value) : Below wp.heap.size wp ((((wp.alloc (.cells #[.string ⟨#[]⟩, .bool false, .bool false] (92 : TypeId))).setCell ⟨wp.heap.size, 0, none⟩ t).setCell ⟨wp.heap.size, 1, none⟩ x).setCell ⟨wp.heap.size, 2, none⟩ y) :=
  ((((Below.refl _ _).alloc (Nat.le_refl _) _).setCell (p := ⟨wp.heap.size, 0, none⟩) (Nat.le_refl _) _).setCell (p := ⟨wp.heap.size, 1, none⟩) (Nat.le_refl _) _).setCell (p := ⟨wp.heap.size, 2, none⟩) (Nat.le_refl _) _
theorem cp_cs (wp : World) (t x y : Value) : CsAt ((((wp.alloc (.cells #[.string ⟨#[]⟩, .bool false, .bool false] (92 : TypeId))).setCell ⟨wp.heap.size, 0, none⟩ t).setCell ⟨wp.heap.size, 1, none⟩ x).setCell ⟨wp.heap.size, 2, none⟩ y) wp.heap.size #[t, x, y] 92 := by
  have h0 : CsAt (wp.alloc (.cells #[.string ⟨#[]⟩, .bool false, .bool false] (92 : TypeId))) wp.heap.size #[.string ⟨#[]⟩, .bool false, .bool false] 92 := heap_alloc_last _ _
  exact ((h0.put 0 _).put 1 _).put 2 _
theorem Tryd.zero92 : (Tryd.prog.info? 92).map (fun i => (i.zero, i.size)) = some (some (.agg #[.string ⟨#[]⟩, .bool false, .bool false]), 3) := by kernel_rfl
set_option maxRecDepth 100000 in
set_option maxHeartbeats 1600000 in
theorem leastOpen_any {g n : Nat} (F : Nat → Of) (hn : n ≤ 128) (hF : ∀ s, s < n → (F s).t.length ≤ 1048576) (w : World) (hc : CsAt w g (ofC n F) 92) : Calls Tryd.prog 54 #[.slice (some ⟨g, 0, none⟩) n n] w fun e w' => ∃ r : Int, e = .returned (.int .i64 r) ∧ LoTo F n r ∧ Below w.heap.size w w' := by
  obtain ⟨hz92, hsz92⟩ := zero_of_info Tryd.zero92
  have HCS := hidD hc
  have HFL := hidD hF
  have hg := hc.lt
  clear hc hF
  go_enter Tryd.func54, Tryd.ntmps54
  go_wp2_with fail
  go_loopw [3, 8] (fun r i wr => ∃ (k : Nat) (x : Int), k ≤ n ∧ i = .int .i64 (k : Int) ∧ r = .int .i64 x ∧ LoTo F k x ∧ Below w.heap.size w wr) (fun _ i _ => n - (intOf i).toNat)
  case atStart => exact ⟨0, -1, Nat.zero_le _, rfl, rfl, .inl ⟨rfl, fun s hs => absurd hs (by omega)⟩, Below.refl _ _⟩
  case round =>
    obtain ⟨k, x, hk, rfl, rfl, hlo, hbel⟩ := hrel
    have HLO := hidD hlo
    have HBW := hidD hbel
    by_cases hlt : k < n
    · have hlti : (k : Int) < (n : Int) := by omega
      have HCW := hidD (HCS.out.next hbel)
      have f0 : wr.cell? ⟨g, k * 3, none⟩ = some (encT (F k).t) := (HCW.out.cell _).trans (of_t F hlt)
      have f1 : wr.cell? ⟨g, k * 3 + 1, none⟩ = some (.bool (F k).th) := (HCW.out.cell _).trans (of_th F hlt)
      have f2 : wr.cell? ⟨g, k * 3 + 2, none⟩ = some (.bool (F k).se) := (HCW.out.cell _).trans (of_se F hlt)
      have HSK := hidD (fun h => hlo.skip (k := k) h)
      have HFK := hidD (HFL.out k hlt)
      have HOP : Hid (opn F k = ((F k).th && !(F k).se)) := rfl
      have HFI := hidD (fun h => LoTo.first (F := F) (k := k) h)
      have HSP := hidD (fun (s : Nat) (r : Bool) h => LoTo.step (F := F) (k := k) (s := s) (r := r) h)
      have HLS := hidD (fun (s : Nat) (hs : s < n) w' => isLess_any (F k).t (F s).t (by have := HFK.out; unfold maxLen; omega) (by have := HFL.out s hs; unfold maxLen; omega) w')
      have HFT : Hid (∀ s, s < n → (ofC n F)[s * 3]? = some (encT (F s).t)) := fun s hs => of_t F hs
      unfold encT at *
      generalize bA (F k).t = tk at *
      clear hlo hbel
      cases hth : (F k).th with
      | false =>
        rw [hth] at f1 HOP
        have HS := hidD (HSK.out HOP.out)
        clear hth
        generalize (F k).se = sk at *
        go_wp2_with fail
        go_roundw
        case rel => exact ⟨k + 1, x, by omega, by go_num, rfl, HS.out, Below.next HBW.out (cp_bel _ _ _ _)⟩
        case measure => simp [intOf]; omega
      | true =>
        rw [hth] at f1 HOP
        clear hth
        cases hse : (F k).se with
        | true =>
          rw [hse] at f2 HOP
          have HS := hidD (HSK.out HOP.out)
          clear hse
          go_wp2_with fail
          go_roundw
          case rel => exact ⟨k + 1, x, by omega, by go_num, rfl, HS.out, Below.next HBW.out (cp_bel _ _ _ _)⟩
          case measure => simp [intOf]; omega
        | false =>
          rw [hse] at f2 HOP
          clear hse
          obtain ⟨wp, hwp⟩ : ∃ wp, wp = wr := ⟨_, rfl⟩
          subst hwp
          go_upto_region 6 with fail
          have HB5 := hidD (cp_bel wp (.string tk) (.bool true) (.bool false))
          have HC5 := hidD (cp_cs wp (.string tk) (.bool true) (.bool false))
          generalize hw5 : (((wp.alloc (.cells #[.string ⟨#[]⟩, .bool false, .bool false] (92 : TypeId))).setCell ⟨wp.heap.size, 0, none⟩ (.string tk)).setCell ⟨wp.heap.size, 1, none⟩ (.bool true)).setCell ⟨wp.heap.size, 2, none⟩ (.bool false) = w5 at *
          have HCG := hidD (HCW.out.next HB5.out)
          have HB05 := hidD (Below.next HBW.out HB5.out)
          clear hw5 f0 f1 f2
          have hgl := HCG.out.lt
          have hbl := HC5.out.lt
          generalize wp.heap.size = b9 at *
          have k0 : ∀ i : KB w5 [b9, g], i.v.cell? ⟨b9, 0, none⟩ = some (.string tk) := fun i => (i.cell (b := b9) (by simp) _).trans (HC5.out.cell 0)
          rcases HLO.out.lt with rfl | ⟨s, rfl, hs⟩
          · have HS := hidD (HFI.out HLO.out HOP.out)
            refine wp_region_seg [0, 0, 0, 0, 0, 0, 0, 0, 0, 0, 99, 99] 0 10 [b9, g] (by kernel_rfl) (by kernel_rfl) (by kernel_rfl) (by kernel_rfl) (by kernel_rfl) (by kernel_rfl) (by kernel_rfl) (by kernel_rfl) (fun _ _ _ _ _ h => h) ?_
            simp only [SegW, pk, Nat.reduceMul, Nat.reduceBEq, cond_true, cond_false]
            repeat (go_big_quiet_step (fail))
            refine wpQuiet_nil ?_
            go_wp2_with fail
            go_roundw
            case rel => exact ⟨k + 1, (k : Int), by omega, by go_num, rfl, HS.out, HB05.out.drew⟩
            case measure => simp [intOf]; omega
          · have hsn : s < n := by omega
            have hsi : (s : Int) < (n : Int) := by omega
            have hsd : decide ((s : Int) < 0) = false := decide_eq_false (by omega)
            have k1 : ∀ i : KB w5 [b9, g], i.v.cell? ⟨g, s * 3, none⟩ = some (.string (bA (F s).t)) := fun i => (i.cell (b := g) (by simp) _).trans ((HCG.out.cell _).trans (HFT.out s hsn))
            have HL2 := hidD (HLS.out s hsn w5.drew)
            have HS2 := hidD (fun r => HSP.out s r HLO.out HOP.out)
            clear HLS HSP HFT
            generalize bA (F s).t = ts at *
            refine wp_region_seg [0, 0, 0, 0, 0, 0, 0, 0, 0, 0, 99, 99] 0 10 [b9, g] (by kernel_rfl) (by kernel_rfl) (by kernel_rfl) (by kernel_rfl) (by kernel_rfl) (by kernel_rfl) (by kernel_rfl) (by kernel_rfl) (fun _ _ _ _ _ h => h) ?_
            simp only [SegW, pk, Nat.reduceMul, Nat.reduceBEq, cond_true, cond_false]
            repeat (go_big_quiet_step (fail))
            refine wpQuiet_nil ?_
            go_wp2_with (go_at_call 65; refine HL2.out.mono ?_; rintro e w6 ⟨r, rfl, hr, hw⟩; subst w6; have HR := hidD hr; clear hr)
            · rename_i h
              subst h
              go_roundw
              case rel => exact ⟨k + 1, (k : Int), by omega, by go_num, rfl, HS2.out true HR.out, HB05.out.drew⟩
              case measure => simp [intOf]; omega
            · rename_i h
              subst h
              go_roundw
              case rel => exact ⟨k + 1, (s : Int), by omega, by go_num, rfl, HS2.out false HR.out, HB05.out.drew⟩
              case measure => simp [intOf]; omega
    · obtain rfl : k = n := by omega
      go_wp2_with fail
      go_ret
      exact ⟨x, rfl, HLO.out, HBW.out⟩
end Go.Proofs.YtgmbkelmgolkpabDoor
