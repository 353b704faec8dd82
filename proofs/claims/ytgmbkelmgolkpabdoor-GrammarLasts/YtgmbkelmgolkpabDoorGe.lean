/- Texts of one proof, one behind the other. -/
import Derived.Test.YtgmbkelmgolkpabDoorGmd
import Derived.Test.YtgmbkelmgolkpabDoorTxa
import Derived.Test.YtgmbkelmgolkpabDoorApt
import Derived.Test.YtgmbkelmgolkpabDoorShelf
import Derived.Lib.FrozenHead
import Derived.Test.YtgmbkelmgolkpabDoorNum
/- Offers in memory; what isLess, allSettled and leastOpen answer. -/
namespace Go.Proofs.YtgmbkelmgolkpabDoor
open Go.RowKit
set_option linter.unusedVariables false

/-- An offer: a text, is it there, is it settled. -/
structure Of where
  t : Tx
  th : Bool
  se : Bool
def ofV (F : Nat → Of) (i : Nat) : Value := if i % 3 = 0 then encT (F (i / 3)).t else if i % 3 = 1 then .bool (F (i / 3)).th else .bool (F (i / 3)).se
def ofC (n : Nat) (F : Nat → Of) : Array Value := ((List.range (n * 3)).map (ofV F)).toArray
theorem of_size (n : Nat) (F : Nat → Of) : (ofC n F).size = n * 3 := by simp [ofC]
theorem of_get {n : Nat} (F : Nat → Of) {i : Nat} (h : i < n * 3) : (ofC n F)[i]? = some (ofV F i) := by
  rw [ofC, List.getElem?_toArray, List.getElem?_map, List.getElem?_range h]; rfl
theorem of_none {n : Nat} (F : Nat → Of) {i : Nat} (h : n * 3 ≤ i) : (ofC n F)[i]? = none := Array.getElem?_eq_none (by rw [of_size]; exact h)
theorem of_t {n s : Nat} (F : Nat → Of) (h : s < n) : (ofC n F)[s * 3]? = some (encT (F s).t) := by
  rw [of_get F (by omega)]; unfold ofV; rw [if_pos (by omega), show s * 3 / 3 = s by omega]
theorem of_th {n s : Nat} (F : Nat → Of) (h : s < n) : (ofC n F)[s * 3 + 1]? = some (.bool (F s).th) := by
  rw [of_get F (by omega)]; unfold ofV; rw [if_neg (by omega), if_pos (by omega), show (s * 3 + 1) / 3 = s by omega]
theorem of_se {n s : Nat} (F : Nat → Of) (h : s < n) : (ofC n F)[s * 3 + 2]? = some (.bool (F s).se) := by
  rw [of_get F (by omega)]; unfold ofV; rw [if_neg (by omega), if_neg (by omega), show (s * 3 + 2) / 3 = s by omega]
def updO (F : Nat → Of) (s : Nat) (o : Of) : Nat → Of := fun y => if y = s then o else F y
theorem updO_same (F : Nat → Of) (s : Nat) (o : Of) : updO F s o s = o := if_pos rfl
theorem updO_other {F : Nat → Of} {s y : Nat} {o : Of} (h : y ≠ s) : updO F s o y = F y := if_neg h
theorem of_ext {n : Nat} {F G : Nat → Of} (h : ∀ s, s < n → F s = G s) : ofC n F = ofC n G := by
  refine Array.ext_getElem? fun i => ?_
  rcases Nat.lt_or_ge i (n * 3) with hi | hi
  · rw [of_get F hi, of_get G hi]; unfold ofV; rw [h (i / 3) (by omega)]
  · rw [of_none F hi, of_none G hi]
theorem of_put {n s k : Nat} {F G : Nat → Of} {v : Value} (hs : s < n) (hk : k < 3) (hv : v = ofV G (s * 3 + k)) (ho : ∀ i, i < n * 3 → i ≠ s * 3 + k → ofV F i = ofV G i) : (ofC n F).setIfInBounds (s * 3 + k) v = ofC n G := by
  refine Array.ext_getElem? fun i => ?_
  rw [Array.getElem?_setIfInBounds]
  by_cases hi : s * 3 + k = i
  · subst hi
    rw [if_pos rfl, if_pos (by rw [of_size]; omega), of_get G (by omega), hv]
  · rw [if_neg hi]
    rcases Nat.lt_or_ge i (n * 3) with h3 | h3
    · rw [of_get F h3, of_get G h3, ho i h3 (Ne.symm hi)]
    · rw [of_none F h3, of_none G h3]
theorem of_settle {n s : Nat} (F : Nat → Of) (hs : s < n) : (ofC n F).setIfInBounds (s * 3 + 2) (.bool true) = ofC n (updO F s { F s with se := true }) :=
  of_put hs (by omega) (by unfold ofV; rw [if_neg (by omega), if_neg (by omega), show (s * 3 + 2) / 3 = s by omega, updO_same]) fun i hi hne => by
    unfold ofV
    by_cases h : i / 3 = s
    · rw [h, updO_same]
      by_cases h0 : i % 3 = 0
      · rw [if_pos h0, if_pos h0]
      · rw [if_neg h0, if_neg h0, if_pos (show i % 3 = 1 by omega), if_pos (show i % 3 = 1 by omega)]
    · rw [updO_other h]
theorem of_text {n s : Nat} (F : Nat → Of) (x : Tx) (hs : s < n) : ((ofC n F).setIfInBounds (s * 3) (encT x)).setIfInBounds (s * 3 + 1) (.bool true) = ofC n (updO F s { F s with t := x, th := true }) := by
  have h1 : (ofC n F).setIfInBounds (s * 3 + 0) (encT x) = ofC n (updO F s { F s with t := x }) :=
    of_put hs (by omega) (by unfold ofV; rw [if_pos (by omega), show (s * 3 + 0) / 3 = s by omega, updO_same]) fun i hi hne => by
      unfold ofV
      by_cases h : i / 3 = s
      · rw [h, updO_same, if_neg (show ¬ i % 3 = 0 by omega), if_neg (show ¬ i % 3 = 0 by omega)]
      · rw [updO_other h]
  rw [Nat.add_zero] at h1
  rw [h1]
  refine of_put hs (by omega) (by unfold ofV; rw [if_neg (by omega), if_pos (by omega), show (s * 3 + 1) / 3 = s by omega, updO_same]) fun i hi hne => ?_
  unfold ofV
  by_cases h : i / 3 = s
  · rw [h, updO_same, updO_same]
    by_cases h0 : i % 3 = 0
    · rw [if_pos h0, if_pos h0]
    · rw [if_neg h0, if_neg h0, if_neg (show ¬ i % 3 = 1 by omega), if_neg (show ¬ i % 3 = 1 by omega)]
  · rw [updO_other h, updO_other h]
/-- The shorter one is less; of one length either answer. -/
def LsIs (a b : Tx) (r : Bool) : Prop := (a.length < b.length → r = true) ∧ (b.length < a.length → r = false)
set_option maxRecDepth 100000 in
set_option maxHeartbeats 800000 in
theorem isLess_any (a b : Tx) (ha : a.length ≤ maxLen) (hb : b.length ≤ maxLen) (w : World) : Calls Tryd.prog 65 #[encT a, encT b] w fun e w' => ∃ r, e = .returned (.bool r) ∧ LsIs a b r ∧ w' = w := by
  unfold encT
  have h1 : ((bA a).size : Int) = (a.length : Int) := by rw [ba_size]
  have h2 : ((bA b).size : Int) = (b.length : Int) := by rw [ba_size]
  unfold LsIs
  by_cases he : a.length = b.length
  · have hd : ((bA a).size : Int) = ((bA b).size : Int) := by omega
    go_enter Tryd.func65, Tryd.ntmps65
    go_wp2
    go_ret
    exact ⟨_, rfl, ⟨fun h => by omega, fun h => by omega⟩, rfl⟩
  · have hd : ¬ ((bA a).size : Int) = ((bA b).size : Int) := by omega
    go_enter Tryd.func65, Tryd.ntmps65
    go_wp2
    go_ret
    exact ⟨_, rfl, ⟨fun h => by simp; omega, fun h => by simp; omega⟩, rfl⟩
end Go.Proofs.YtgmbkelmgolkpabDoor
/- What allSettled and leastOpen answer. -/
namespace Go.Proofs.YtgmbkelmgolkpabDoor
open Go.RowKit
set_option linter.unusedVariables false

set_option maxRecDepth 100000 in
set_option maxHeartbeats 800000 in
theorem allSettled_any {g n : Nat} (F : Nat → Of) (hn : n ≤ 128) (l : List Int) (hl : l.length ≤ 1048576) (hs : ∀ j, j < l.length → ∃ s : Nat, l.getD j 0 = (s : Int) ∧ s < n) (v : Value) (w : World) (hv : IlAt w v l) (hc : CsAt w g (ofC n F) 92) : Calls Tryd.prog 52 #[v, .slice (some ⟨g, 0, none⟩) n n] w fun e w' => e = .returned (.bool (l.all fun x => (F x.toNat).se)) ∧ w' = w := by
  obtain ⟨a, c, rfl, h1, h2, h3⟩ := hv
  have HCE := hidD h3
  have HSS := hidD hs
  have HT : Hid ((∀ q, q < l.length → (F (l.getD q 0).toNat).se = true) → l.all (fun x => (F x.toNat).se) = true) := fun h => all_true (f := fun x => (F x.toNat).se) h
  have HF : Hid (∀ q, q < l.length → (F (l.getD q 0).toNat).se = false → l.all (fun x => (F x.toNat).se) = false) := fun q hq h => all_false (f := fun x => (F x.toNat).se) hq h
  clear h3 hs
  generalize l.all (fun x => (F x.toNat).se) = A at *
  generalize hm : l.length = m at *
  clear hm
  go_enter Tryd.func52, Tryd.ntmps52
  go_wp2_with fail
  go_loop [9] (fun i => ∃ q : Nat, q ≤ m ∧ i = .int .i64 (q : Int) ∧ ∀ j, j < q → (F (l.getD j 0).toNat).se = true) (fun i => m - (intOf i).toNat)
  case atStart => exact ⟨0, Nat.zero_le _, rfl, fun j hj => absurd hj (by omega)⟩
  case round =>
    obtain ⟨q, hq, rfl, hall⟩ := hrel
    have HA := hidD hall
    clear hall
    by_cases hqt : q < m
    · have hqti : (q : Int) < (m : Int) := by omega
      obtain ⟨g1, o1, rfl, hg1, f1⟩ := HCE.out q hqt
      obtain ⟨s, hs, hsn⟩ := HSS.out q hqt
      rw [hs] at f1
      have f2 : w.cell? ⟨g, s * 3 + 2, none⟩ = some (.bool (F s).se) := (hc.cell _).trans (of_se F hsn)
      have hsi : (s : Int) < (n : Int) := by omega
      have HQ := hidD (HF.out q hqt)
      rw [hs, Int.toNat_natCast] at HQ
      have HST : Hid ((F s).se = true → ∀ j, j < q + 1 → (F (l.getD j 0).toNat).se = true) := fun h j hj => by
        by_cases hjq : j = q
        · rw [hjq, hs, Int.toNat_natCast]; exact h
        · exact HA.out j (by omega)
      cases hb : (F s).se with
      | true =>
        rw [hb] at f2
        have HS := hidD (HST.out hb)
        clear hb
        go_wp2_with fail
        go_round
        case rel => exact ⟨q + 1, by omega, by go_num, HS.out⟩
        case measure => simp [intOf]; omega
      | false =>
        rw [hb] at f2
        have HN := hidD (HQ.out hb)
        clear hb
        go_wp2_with fail
        go_ret
        exact ⟨by rw [HN.out]; rfl, rfl⟩
    · obtain rfl : q = m := by omega
      have HY := hidD (HT.out HA.out)
      go_wp2_with fail
      go_ret
      exact ⟨by rw [HY.out]; rfl, rfl⟩
/-- An offer that is open. -/
def opn (F : Nat → Of) (s : Nat) : Bool := (F s).th && !(F s).se
/-- The least one of those that are open, as far as lengths tell, of the first k; none. -/
def LoTo (F : Nat → Of) (k : Nat) (r : Int) : Prop := (r = -1 ∧ ∀ s, s < k → opn F s = false) ∨ ∃ s : Nat, r = (s : Int) ∧ s < k ∧ opn F s = true ∧ ∀ y, y < k → opn F y = true → (F s).t.length ≤ (F y).t.length
theorem LoTo.skip {F : Nat → Of} {k : Nat} {r : Int} (h : LoTo F k r) (ho : opn F k = false) : LoTo F (k + 1) r := by
  rcases h with ⟨h1, h2⟩ | ⟨s, h1, h2, h3, h4⟩
  · exact .inl ⟨h1, fun y hy => by
      by_cases hyk : y = k
      · rw [hyk]; exact ho
      · exact h2 y (by omega)⟩
  · exact .inr ⟨s, h1, by omega, h3, fun y hy hoy => by
      by_cases hyk : y = k
      · rw [hyk, ho] at hoy; cases hoy
      · exact h4 y (by omega) hoy⟩
theorem LoTo.first {F : Nat → Of} {k : Nat} (h : LoTo F k (-1)) (ho : opn F k = true) : LoTo F (k + 1) (k : Int) := by
  rcases h with ⟨h1, h2⟩ | ⟨s, h1, _⟩
  · exact .inr ⟨k, rfl, by omega, ho, fun y hy hoy => by
      by_cases hyk : y = k
      · rw [hyk]; exact Nat.le_refl _
      · rw [h2 y (by omega)] at hoy; cases hoy⟩
  · omega
theorem LoTo.step {F : Nat → Of} {k s : Nat} {r : Bool} (h : LoTo F k (s : Int)) (ho : opn F k = true) (hr : LsIs (F k).t (F s).t r) : LoTo F (k + 1) (if r then (k : Int) else (s : Int)) := by
  rcases h with ⟨h1, _⟩ | ⟨s', h1, h2, h3, h4⟩
  · omega
  · obtain rfl : s' = s := by omega
    cases r with
    | true =>
      have hle : (F k).t.length ≤ (F s').t.length := by
        rcases Nat.lt_or_ge (F s').t.length (F k).t.length with h | h
        · have := hr.2 h; cases this
        · exact h
      exact .inr ⟨k, rfl, by omega, ho, fun y hy hoy => by
        by_cases hyk : y = k
        · rw [hyk]; exact Nat.le_refl _
        · exact Nat.le_trans hle (h4 y (by omega) hoy)⟩
    | false =>
      have hle : (F s').t.length ≤ (F k).t.length := by
        rcases Nat.lt_or_ge (F k).t.length (F s').t.length with h | h
        · have := hr.1 h; cases this
        · exact h
      exact .inr ⟨s', rfl, by omega, h3, fun y hy hoy => by
        by_cases hyk : y = k
        · rw [hyk]; exact hle
        · exact h4 y (by omega) hoy⟩
theorem LoTo.lt {F : Nat → Of} {k : Nat} {r : Int} (h : LoTo F k r) : r = -1 ∨ ∃ s : Nat, r = (s : Int) ∧ s < k := by
  rcases h with ⟨h1, _⟩ | ⟨s, h1, h2, _⟩
  · exact .inl h1
  · exact .inr ⟨s, h1, h2⟩
theorem cp_bel (wp : World) (t x y : Value) : Below wp.heap.size wp ((((wp.alloc (.cells #[.string ⟨#[]⟩, .bool false, .bool false] (92 : TypeId))).setCell ⟨wp.heap.size, 0, none⟩ t).setCell ⟨wp.heap.size, 1, none⟩ x).setCell ⟨wp.heap.size, 2, none⟩ y) :=
  ((((Below.refl _ _).alloc (Nat.le_refl _) _).setCell (p := ⟨wp.heap.size, 0, none⟩) (Nat.le_refl _) _).setCell (p := ⟨wp.heap.size, 1, none⟩) (Nat.le_refl _) _).setCell (p := ⟨wp.heap.size, 2, none⟩) (Nat.le_refl _) _
theorem cp_cs (wp : World) (t x y : Value) : CsAt ((((wp.alloc (.cells #[.string ⟨#[]⟩, .bool false, .bool false] (92 : TypeId))).setCell ⟨wp.heap.size, 0, none⟩ t).setCell ⟨wp.heap.size, 1, none⟩ x).setCell ⟨wp.heap.size, 2, none⟩ y) wp.heap.size #[t, x, y] 92 := by
  have h0 : CsAt (wp.alloc (.cells #[.string ⟨#[]⟩, .bool false, .bool false] (92 : TypeId))) wp.heap.size #[.string ⟨#[]⟩, .bool false, .bool false] 92 := heap_alloc_last _ _
  exact ((h0.put 0 _).put 1 _).put 2 _
theorem Tryd.zero92 : (Tryd.prog.info? 92).map (fun i => (i.zero, i.size)) = some (some (.agg #[.string ⟨#[]⟩, .bool false, .bool false]), 3) := by kernel_rfl
set_option maxRecDepth 100000 in
set_option maxHeartbeats 1600000 in
theorem leastOpen_any {g n : Nat} (F : Nat → Of) (hn : n ≤ 128) (hF : ∀ s, s < n → (F s).t.length ≤ 1048576) (w : World) (hc : CsAt w g (ofC n F) 92) : Calls Tryd.prog 54 #[.slice (some ⟨g, 0, none⟩) n n] w fun e w' => ∃ r : Int, e = .returned (.int .i64 r) ∧ LoTo F n r ∧ Below w.heap.size w w' := by
  obtain ⟨hz92, hsz92⟩ := zero_of_info Tryd.zero92
  have HCS := hidD hc
  have HFL := hidD hF
  have hg := hc.lt
  clear hc hF
  go_enter Tryd.func54, Tryd.ntmps54
  go_wp2_with fail
  go_loopw [3, 8] (fun r i wr => ∃ (k : Nat) (x : Int), k ≤ n ∧ i = .int .i64 (k : Int) ∧ r = .int .i64 x ∧ LoTo F k x ∧ Below w.heap.size w wr) (fun _ i _ => n - (intOf i).toNat)
  case atStart => exact ⟨0, -1, Nat.zero_le _, rfl, rfl, .inl ⟨rfl, fun s hs => absurd hs (by omega)⟩, Below.refl _ _⟩
  case round =>
    obtain ⟨k, x, hk, rfl, rfl, hlo, hbel⟩ := hrel
    have HLO := hidD hlo
    have HBW := hidD hbel
    by_cases hlt : k < n
    · have hlti : (k : Int) < (n : Int) := by omega
      have HCW := hidD (HCS.out.next hbel)
      have f0 : wr.cell? ⟨g, k * 3, none⟩ = some (encT (F k).t) := (HCW.out.cell _).trans (of_t F hlt)
      have f1 : wr.cell? ⟨g, k * 3 + 1, none⟩ = some (.bool (F k).th) := (HCW.out.cell _).trans (of_th F hlt)
      have f2 : wr.cell? ⟨g, k * 3 + 2, none⟩ = some (.bool (F k).se) := (HCW.out.cell _).trans (of_se F hlt)
      have HSK := hidD (fun h => hlo.skip (k := k) h)
      have HFK := hidD (HFL.out k hlt)
      have HOP : Hid (opn F k = ((F k).th && !(F k).se)) := rfl
      have HFI := hidD (fun h => LoTo.first (F := F) (k := k) h)
      have HSP := hidD (fun (s : Nat) (r : Bool) h => LoTo.step (F := F) (k := k) (s := s) (r := r) h)
      have HLS := hidD (fun (s : Nat) (hs : s < n) w' => isLess_any (F k).t (F s).t (by have := HFK.out; unfold maxLen; omega) (by have := HFL.out s hs; unfold maxLen; omega) w')
      have HFT : Hid (∀ s, s < n → (ofC n F)[s * 3]? = some (encT (F s).t)) := fun s hs => of_t F hs
      unfold encT at *
      generalize bA (F k).t = tk at *
      clear hlo hbel
      cases hth : (F k).th with
      | false =>
        rw [hth] at f1 HOP
        have HS := hidD (HSK.out HOP.out)
        clear hth
        generalize (F k).se = sk at *
        go_wp2_with fail
        go_roundw
        case rel => exact ⟨k + 1, x, by omega, by go_num, rfl, HS.out, Below.next HBW.out (cp_bel _ _ _ _)⟩
        case measure => simp [intOf]; omega
      | true =>
        rw [hth] at f1 HOP
        clear hth
        cases hse : (F k).se with
        | true =>
          rw [hse] at f2 HOP
          have HS := hidD (HSK.out HOP.out)
          clear hse
          go_wp2_with fail
          go_roundw
          case rel => exact ⟨k + 1, x, by omega, by go_num, rfl, HS.out, Below.next HBW.out (cp_bel _ _ _ _)⟩
          case measure => simp [intOf]; omega
        | false =>
          rw [hse] at f2 HOP
          clear hse
          obtain ⟨wp, hwp⟩ : ∃ wp, wp = wr := ⟨_, rfl⟩
          subst hwp
          go_upto_region 6 with fail
          have HB5 := hidD (cp_bel wp (.string tk) (.bool true) (.bool false))
          have HC5 := hidD (cp_cs wp (.string tk) (.bool true) (.bool false))
          generalize hw5 : (((wp.alloc (.cells #[.string ⟨#[]⟩, .bool false, .bool false] (92 : TypeId))).setCell ⟨wp.heap.size, 0, none⟩ (.string tk)).setCell ⟨wp.heap.size, 1, none⟩ (.bool true)).setCell ⟨wp.heap.size, 2, none⟩ (.bool false) = w5 at *
          have HCG := hidD (HCW.out.next HB5.out)
          have HB05 := hidD (Below.next HBW.out HB5.out)
          clear hw5 f0 f1 f2
          have hgl := HCG.out.lt
          have hbl := HC5.out.lt
          generalize wp.heap.size = b9 at *
          have k0 : ∀ i : KB w5 [b9, g], i.v.cell? ⟨b9, 0, none⟩ = some (.string tk) := fun i => (i.cell (b := b9) (by simp) _).trans (HC5.out.cell 0)
          rcases HLO.out.lt with rfl | ⟨s, rfl, hs⟩
          · have HS := hidD (HFI.out HLO.out HOP.out)
            refine wp_region_seg [0, 0, 0, 0, 0, 0, 0, 0, 0, 0, 99, 99] 0 10 [b9, g] (by kernel_rfl) (by kernel_rfl) (by kernel_rfl) (by kernel_rfl) (by kernel_rfl) (by kernel_rfl) (by kernel_rfl) (by kernel_rfl) (fun _ _ _ _ _ h => h) ?_
            simp only [SegW, pk, Nat.reduceMul, Nat.reduceBEq, cond_true, cond_false]
            repeat (go_big_quiet_step (fail))
            refine wpQuiet_nil ?_
            go_wp2_with fail
            go_roundw
            case rel => exact ⟨k + 1, (k : Int), by omega, by go_num, rfl, HS.out, HB05.out.drew⟩
            case measure => simp [intOf]; omega
          · have hsn : s < n := by omega
            have hsi : (s : Int) < (n : Int) := by omega
            have hsd : decide ((s : Int) < 0) = false := decide_eq_false (by omega)
            have k1 : ∀ i : KB w5 [b9, g], i.v.cell? ⟨g, s * 3, none⟩ = some (.string (bA (F s).t)) := fun i => (i.cell (b := g) (by simp) _).trans ((HCG.out.cell _).trans (HFT.out s hsn))
            have HL2 := hidD (HLS.out s hsn w5.drew)
            have HS2 := hidD (fun r => HSP.out s r HLO.out HOP.out)
            clear HLS HSP HFT
            generalize bA (F s).t = ts at *
            refine wp_region_seg [0, 0, 0, 0, 0, 0, 0, 0, 0, 0, 99, 99] 0 10 [b9, g] (by kernel_rfl) (by kernel_rfl) (by kernel_rfl) (by kernel_rfl) (by kernel_rfl) (by kernel_rfl) (by kernel_rfl) (by kernel_rfl) (fun _ _ _ _ _ h => h) ?_
            simp only [SegW, pk, Nat.reduceMul, Nat.reduceBEq, cond_true, cond_false]
            repeat (go_big_quiet_step (fail))
            refine wpQuiet_nil ?_
            go_wp2_with (go_at_call 65; refine HL2.out.mono ?_; rintro e w6 ⟨r, rfl, hr, hw⟩; subst w6; have HR := hidD hr; clear hr)
            · rename_i h
              subst h
              go_roundw
              case rel => exact ⟨k + 1, (k : Int), by omega, by go_num, rfl, HS2.out true HR.out, HB05.out.drew⟩
              case measure => simp [intOf]; omega
            · rename_i h
              subst h
              go_roundw
              case rel => exact ⟨k + 1, (s : Int), by omega, by go_num, rfl, HS2.out false HR.out, HB05.out.drew⟩
              case measure => simp [intOf]; omega
    · obtain rfl : k = n := by omega
      go_wp2_with fail
      go_ret
      exact ⟨x, rfl, HLO.out, HBW.out⟩
end Go.Proofs.YtgmbkelmgolkpabDoor
/- The builder that a call has made itself: a text that is written. -/
namespace Go.Proofs.YtgmbkelmgolkpabDoor
open Go.RowKit
set_option linter.unusedVariables false

/-- A builder of one's own that was begun: these bytes are in it. -/
def BdAt (w : World) (B b : Nat) (l : List UInt8) : Prop := Lib.BuilderAtF 74 5 B b (.pointer (some ⟨b, 0, none⟩)) (Lib.byteCells l) w
theorem Tryd.info5 : (Tryd.prog.info? 5).map (fun i => (i.zero, i.size, i.bytes)) = some (some (.int .u8 0), 1, 1) := by kernel_rfl
theorem Tryd.under72 : Tryd.prog.underlying 72 = some (.slice 5) := by kernel_rfl
theorem Tryd.under9s : Tryd.prog.underlying 9 = some .string := by kernel_rfl
theorem Tryd.under71 : Tryd.prog.underlying 71 = some (.pointer 74) := by kernel_rfl
theorem Tryd.info74 : (Tryd.prog.info? 74).isSome = true := by kernel_rfl
set_option maxRecDepth 100000 in
theorem copyCheck_any (b : Nat) (w : World) (h0 : w.cell? ⟨b, 0, none⟩ = some (.pointer (some ⟨b, 0, none⟩))) : Calls Tryd.prog 66 #[.pointer (some ⟨b, 0, none⟩)] w fun e w' => e = .returned (.tuple #[]) ∧ w' = w := by
  obtain ⟨j, hj⟩ := Option.isSome_iff_exists.1 Tryd.info74
  go_enter Tryd.func66, Tryd.ntmps66
  go_wp2
  rw [Lib.run_neq_ptr_same w _ Tryd.under71 hj]
  go_wp2
  go_end0
  exact ⟨rfl, rfl⟩
set_option maxRecDepth 100000 in
set_option maxHeartbeats 800000 in
theorem writeString_any (B b : Nat) (l x : List UInt8) (w : World) (h : BdAt w B b l) (hl : l.length + x.length ≤ 140737488355328) (hB : B ≤ w.heap.size) : Calls Tryd.prog 55 #[.pointer (some ⟨b, 0, none⟩), .string ⟨x.toArray⟩] w fun e w' => e = .returned (.tuple #[.int .i64 (x.length : Int), .nilIface]) ∧ BdAt w' B b (l ++ x) ∧ Below B w w' := by
  obtain ⟨i0, hi, hz0, hz1, hz2⟩ := info_parts Tryd.info5
  obtain ⟨hBb, v, hbk, hown, hne⟩ := h
  have HCC := hidD (copyCheck_any b w (by rw [Lib.cell_of_heap hbk]; rfl))
  have c0 : w.cell? ⟨b, 0, none⟩ = some (.pointer (some ⟨b, 0, none⟩)) := by rw [Lib.cell_of_heap hbk]; rfl
  have c1 : w.cell? ⟨b, 1, none⟩ = some v := by rw [Lib.cell_of_heap hbk]; rfl
  have hbl : (Lib.byteCells l).length = l.length := Lib.byteCells_length l
  have hsz : (⟨x.toArray⟩ : ByteArray).size = x.length := by simp [ByteArray.size]
  have HSC : Hid (Lib.byteCells l ++ Lib.strCells ⟨x.toArray⟩ = Lib.byteCells (l ++ x)) := by show _ = _; simp [Lib.byteCells, Lib.strCells]
  have HOW := hidD hown
  have HBK := hidD hbk
  have HNE := hidD hne
  have hlt : b < w.heap.size := row_lt hbk
  obtain ⟨ao, n0, cap0, hv⟩ : ∃ ao n0 cap0, v = .slice ao n0 cap0 := by
    rcases hown.2 with ⟨hv, _⟩ | ⟨g, cap, cur, fz, hv, _⟩
    · exact ⟨_, _, _, hv⟩
    · exact ⟨_, _, _, hv⟩
  subst hv
  clear hown hbk hne
  go_enter Tryd.func55, Tryd.ntmps55
  go_wp2_with first
    | (at_builtin; refine Lib.wpList_append_own_stringF _ rfl _ _ 72 9 rfl B 5 i0 Tryd.under72 Tryd.under9s hi hz0 hz1 hz2 (.slice ao n0 cap0) _ _ rfl HOW.out ⟨x.toArray⟩ rfl ?_ ?_ hB ?_
       · rw [hbl, hsz]; unfold maxLen; omega
       · rw [hbl, hsz]; omega
       intro v2 w2 hown2 hgrow _
       have hb2 : w2.heap[b]? = some (.cells #[.pointer (some ⟨b, 0, none⟩), .slice ao n0 cap0] 74 (0, 0)) := by rw [hgrow.block b hlt (fun e => HNE.out e.symm)]; exact HBK.out
       have d0 : w2.cell? ⟨b, 0, none⟩ = some (.pointer (some ⟨b, 0, none⟩)) := by rw [Lib.cell_of_heap hb2]; rfl
       have d1 : w2.cell? ⟨b, 1, none⟩ = some (.slice ao n0 cap0) := by rw [Lib.cell_of_heap hb2]; rfl
       have d2 : w2.frozen? ⟨b, 1, none⟩ = false := Lib.frozen_of_heap hb2 1
       have HB2 := hidD hb2
       have HOW2 := hidD hown2
       have HGR := hidD hgrow
       obtain ⟨a2, n2, cap2, hv2⟩ : ∃ a2 n2 cap2, v2 = .slice a2 n2 cap2 := by
         rcases hown2.2 with ⟨hv, _⟩ | ⟨g, cap, cur, fz, hv, _⟩
         · exact ⟨_, _, _, hv⟩
         · exact ⟨_, _, _, hv⟩
       subst hv2
       clear hown2 hgrow hb2)
    | (go_at_call 66; refine HCC.out.mono ?_; rintro e w1 ⟨rfl, hw⟩; subst w1)
  refine bodyPost_ret (v := .tuple #[.int .i64 (x.length : Int), .nilIface]) (by simp [results, Tryd.results55, go_sem]) rfl ?_
  refine ⟨rfl, ?_, ?_⟩
  · refine Lib.BuilderAtF.put (T := 74) (e := 5) hBb HB2.out ?_ (by decide)
    rw [← HSC.out, List.length_append, Lib.strCells_length]
    exact HOW2.out
  · refine ((Below.refl B w).grown HGR.out hB (fun k hk => ?_)).setCell (p := ⟨b, 1, none⟩) hBb _
    rcases HOW.out.2 with ⟨hv, _⟩ | ⟨g, cap, cur, fz, hv, hg, _⟩
    · rw [hv] at hk; cases hk
    · rw [hv] at hk; cases hk; exact hg
end Go.Proofs.YtgmbkelmgolkpabDoor
/- What offerText does. -/
namespace Go.Proofs.YtgmbkelmgolkpabDoor
open Go.RowKit
set_option linter.unusedVariables false

/-- The texts of the first q symbols, one behind the other. -/
def catTo (F : Nat → Of) (l : List Int) : Nat → Tx
  | 0 => []
  | q + 1 => catTo F l q ++ (F (l.getD q 0).toNat).t
theorem cat_mono (F : Nat → Of) (l : List Int) (q : Nat) : ∀ d, (catTo F l q).length ≤ (catTo F l (q + d)).length
  | 0 => Nat.le_refl _
  | d + 1 => by
    have := cat_mono F l q d
    show _ ≤ (catTo F l (q + d) ++ _).length
    rw [List.length_append]; omega
/-- What becomes of an offer. -/
def OfIs (F : Nat → Of) (L : Nat) (x : Tx) (F' : Nat → Of) : Prop := (1048576 < x.length ∧ F' = F) ∨ (x.length ≤ 1048576 ∧ ((F' = F ∧ (F L).th = true ∧ (F L).t.length ≤ x.length) ∨ (F' = updO F L { F L with t := x, th := true } ∧ ((F L).th = true → x.length ≤ (F L).t.length))))
theorem Tryd.zero74 : (Tryd.prog.info? 74).map (fun i => (i.zero, i.size)) = some (some (.agg #[.pointer none, .slice none 0 0]), 2) := by kernel_rfl
theorem BdAt.next {w w' : World} {B b : Nat} {l : List UInt8} (h : BdAt w B b l) (hb : Below w.heap.size w w') : BdAt w' B b l := by
  obtain ⟨h1, v, h2, h3, h4⟩ := h
  refine ⟨h1, v, (hb.block b (row_lt h2)).trans h2, ?_, h4⟩
  refine ⟨h3.1, ?_⟩
  rcases h3.2 with h | ⟨g, cap, cur, fz, e1, e2, e3, e4⟩
  · exact .inl h
  · exact .inr ⟨g, cap, cur, fz, e1, e2, (hb.block g (row_lt e3)).trans e3, e4⟩
set_option maxRecDepth 100000 in
set_option maxHeartbeats 1600000 in
theorem offerText_any {g n L : Nat} (F : Nat → Of) (hn : n ≤ 128) (hL : L < n) (hF : ∀ s, s < n → (F s).t.length ≤ 1048576) (l : List Int) (hl : l.length ≤ 1048576) (hs : ∀ j, j < l.length → ∃ s : Nat, l.getD j 0 = (s : Int) ∧ s < n) (v : Value) (w : World) (hv : IlAt w v l) (hc : CsAt w g (ofC n F) 92) : Calls Tryd.prog 53 #[.pointer (some ⟨g, L * 3, none⟩), v, .slice (some ⟨g, 0, none⟩) n n] w fun e w' => ∃ F', e = .returned (.tuple #[]) ∧ CsAt w' g (ofC n F') 92 ∧ OfIs F L (catTo F l l.length) F' ∧ But g w w' := by
  obtain ⟨a, c, rfl, h1, h2, h3⟩ := hv
  have HCE := hidD h3
  have HSS := hidD hs
  have HFL := hidD hF
  have HCS := hidD hc
  have HMO := hidD (cat_mono F l)
  have hg := hc.lt
  obtain ⟨hz74, hsz74⟩ := zero_of_info Tryd.zero74
  clear h3 hs hF hc
  generalize hm : l.length = m at *
  clear hm
  go_enter Tryd.func53, Tryd.ntmps53
  go_wp2_with fail
  go_loopw [6, 14] (fun x i wr => ∃ q : Nat, q ≤ m ∧ i = .int .i64 (q : Int) ∧ x = .int .i64 ((catTo F l q).length : Int) ∧ (catTo F l q).length ≤ 1048576 ∧ wr = w) (fun _ i _ => m - (intOf i).toNat)
  case atStart => exact ⟨0, Nat.zero_le _, rfl, rfl, by simp [catTo], rfl⟩
  case round =>
    obtain ⟨q, hq, rfl, rfl, hle, hw⟩ := hrel
    subst wr
    by_cases hqt : q < m
    · have hqti : (q : Int) < (m : Int) := by omega
      obtain ⟨g1, o1, rfl, hg1, f1⟩ := HCE.out q hqt
      obtain ⟨s, hs, hsn⟩ := HSS.out q hqt
      rw [hs] at f1
      have f2 : w.cell? ⟨g, s * 3, none⟩ = some (encT (F s).t) := (HCS.out.cell _).trans (of_t F hsn)
      have hsi : (s : Int) < (n : Int) := by omega
      have hfl := HFL.out s hsn
      have HNX : Hid (catTo F l (q + 1) = catTo F l q ++ (F s).t) := by show catTo F l q ++ (F (l.getD q 0).toNat).t = _; rw [hs, Int.toNat_natCast]
      have HTS : Hid (((bA (F s).t).size : Int) = ((F s).t.length : Int)) := by show _ = _; rw [ba_size]
      have HGE := hidD (HMO.out (q + 1) (m - (q + 1)))
      rw [show q + 1 + (m - (q + 1)) = m by omega, HNX.out, List.length_append] at HGE
      unfold encT at *
      generalize hts : bA (F s).t = ts at *
      have hsz : (ts.size : Int) = ((F s).t.length : Int) := HTS.out
      generalize hcl : (catTo F l q).length = cl at *
      by_cases hbig : 1048576 < cl + (F s).t.length
      · have hbi : (1048576 : Int) < (cl : Int) + (ts.size : Int) := by omega
        go_wp2_with fail
        refine bodyPost_ret (v := .tuple #[]) (by simp [results, Tryd.results53, go_sem]) rfl ?_
        exact ⟨F, rfl, HCS.out, .inl ⟨by have := HGE.out; omega, rfl⟩, But.refl _ _⟩
      · have hbi : ¬ (1048576 : Int) < (cl : Int) + (ts.size : Int) := by omega
        have hbd : decide ((1048576 : Int) < (cl : Int) + (ts.size : Int)) = false := decide_eq_false hbi
        go_wp2_with fail
        go_roundw
        case rel => exact ⟨q + 1, by omega, by go_num, by rw [HNX.out, List.length_append, hcl]; go_num, by rw [HNX.out, List.length_append, hcl]; omega, trivial⟩
        case measure => simp [intOf]; omega
    · obtain rfl : q = m := by omega
      have HGW := hidD (Tryd.Builder_Grow_fresh w.heap.size w.heap.size (catTo F l q).length (w.alloc (.cells #[.pointer none, .slice none 0 0] (74 : TypeId))) (Nat.le_refl _) (heap_alloc_last _ _) (by rw [alloc_size]; omega) (by omega))
      have HAL := hidD ((Below.refl w.heap.size w).alloc (Nat.le_refl _) (.cells #[.pointer none, .slice none 0 0] (74 : TypeId)))
      generalize hcl : (catTo F l q).length = cl at *
      go_wp2_with (go_at_call 64; refine HGW.out.mono ?_; rintro e w1 ⟨rfl, hbd, hb⟩; have HBD1 : Hid (BdAt w1 w.heap.size w.heap.size []) := Lib.BuilderAtF.of hbd; have HB1 := hidD (HAL.out.trans hb); clear hbd hb)
      go_loopw [33] (fun i wr => ∃ z : Nat, z ≤ q ∧ i = .int .i64 (z : Int) ∧ BdAt wr w.heap.size w.heap.size (catTo F l z) ∧ Below w.heap.size w wr) (fun i _ => q - (intOf i).toNat)
      case atStart => exact ⟨0, Nat.zero_le _, rfl, HBD1.out, HB1.out⟩
      case round =>
        obtain ⟨z, hz, rfl, hbd, hbel⟩ := hrel
        have HBD := hidD hbd
        have HBW := hidD hbel
        by_cases hzt : z < q
        · have hzti : (z : Int) < (q : Int) := by omega
          obtain ⟨g1, o1, rfl, hg1, f1⟩ := HCE.out z hzt
          obtain ⟨s, hs, hsn⟩ := HSS.out z hzt
          rw [hs] at f1
          have f3 : wr.cell? ⟨g1, o1 + z, none⟩ = some (.int .i64 (s : Int)) := (hbel.cell (p := ⟨g1, o1 + z, none⟩) hg1).trans f1
          have f2 : wr.cell? ⟨g, s * 3, none⟩ = some (encT (F s).t) := (hbel.cell (p := ⟨g, s * 3, none⟩) hg).trans ((HCS.out.cell _).trans (of_t F hsn))
          have hsi : (s : Int) < (n : Int) := by omega
          have hfl := HFL.out s hsn
          have HNX : Hid (catTo F l (z + 1) = catTo F l z ++ (F s).t) := by show catTo F l z ++ (F (l.getD z 0).toNat).t = _; rw [hs, Int.toNat_natCast]
          have hmo := HMO.out z (q - z)
          rw [show z + (q - z) = q by omega, hcl] at hmo
          have HWS := hidD (writeString_any w.heap.size w.heap.size (catTo F l z) (F s).t wr hbd (by omega) hbel.size)
          unfold encT bA at *
          clear hbd hbel f1 hs
          generalize (⟨(F s).t.toArray⟩ : ByteArray) = ts at *
          go_wp2_with (go_at_call 55; refine HWS.out.mono ?_; rintro e w2 ⟨rfl, hbd2, hb2⟩; have HBD2 := hidD hbd2; have HB2 := hidD (HBW.out.trans hb2); clear hbd2 hb2)
          go_roundw
          case rel => exact ⟨z + 1, by omega, by go_num, by rw [HNX.out]; exact HBD2.out, HB2.out⟩
          case measure => simp [intOf]; omega
        · obtain rfl : z = q := by omega
          have HCW := hidD (HCS.out.next hbel)
          have f1 : wr.cell? ⟨g, L * 3 + 1, none⟩ = some (.bool (F L).th) := (HCW.out.cell _).trans (of_th F hL)
          have f0 : wr.cell? ⟨g, L * 3, none⟩ = some (encT (F L).t) := (HCW.out.cell _).trans (of_t F hL)
          have HST := hidD (fun w' (hi : Lib.IsBuilderF 74 5 w.heap.size w.heap.size (Lib.byteCells (catTo F l z)) w') (hz : w.heap.size ≤ w'.heap.size) => Tryd.Builder_String_any_f w.heap.size w.heap.size (catTo F l z) w' hi hz)
          have HIB : Hid (Lib.IsBuilderF 74 5 w.heap.size w.heap.size (Lib.byteCells (catTo F l z)) wr) := .inr hbd
          have HPU := hidD (of_text F (catTo F l z) hL)
          have hfL := HFL.out L hL
          have HLS := hidD (fun w' => isLess_any (catTo F l z) (F L).t (by rw [hcl]; unfold maxLen; omega) (by unfold maxLen; omega) w')
          have HFIN : Hid (∀ w' : World, Below w.heap.size w w' → CsAt w' g (ofC n F) 92 → CsAt ((w'.setCell ⟨g, L * 3, none⟩ (encT (catTo F l z))).setCell ⟨g, L * 3 + 1, none⟩ (.bool true)) g (ofC n (updO F L { F L with t := catTo F l z, th := true })) 92 ∧ But g w ((w'.setCell ⟨g, L * 3, none⟩ (encT (catTo F l z))).setCell ⟨g, L * 3 + 1, none⟩ (.bool true))) := fun w' hb hc => ⟨by
            have := (hc.put (L * 3) (encT (catTo F l z))).put (L * 3 + 1) (.bool true)
            rwa [HPU.out] at this, ((But.of hb (Nat.le_of_lt hg)).put _ _).put _ _⟩
          have HKK : Hid (∀ w', Below w.heap.size wr w' → ∃ i : KB wr [g], w' = i.v) := fun w' hb => ⟨⟨w', fun y hy => by rw [List.mem_singleton] at hy; subst hy; exact hb.block _ hg⟩, rfl⟩
          have HFRZ : Hid (∀ w' : World, CsAt w' g (ofC n F) 92 → w'.frozen? ⟨g, L * 3, none⟩ = false ∧ w'.frozen? ⟨g, L * 3 + 1, none⟩ = false ∧ w'.cell? ⟨g, L * 3, none⟩ = some (encT (F L).t) ∧ w'.cell? ⟨g, L * 3 + 1, none⟩ = some (.bool (F L).th)) := fun w' hc => ⟨hc.frz _, hc.frz _, (hc.cell _).trans (of_t F hL), (hc.cell _).trans (of_th F hL)⟩
          have HLT : Hid (∀ F', F' = updO F L { F L with t := catTo F l z, th := true } → ((F L).th = true → (catTo F l z).length ≤ (F L).t.length) → OfIs F L (catTo F l z) F') := fun F' h1 h2 => .inr ⟨by rw [hcl]; exact hle, .inr ⟨h1, h2⟩⟩
          have HGT : Hid ((F L).th = true → (F L).t.length ≤ (catTo F l z).length → OfIs F L (catTo F l z) F) := fun h1 h2 => .inr ⟨by rw [hcl]; exact hle, .inl ⟨rfl, h1, h2⟩⟩
          have HNX : Hid (∀ w', Below w.heap.size wr w' → CsAt w' g (ofC n F) 92) := fun w' hb => (hb.block g hg).trans HCW.out
          have HSZ : Hid (w.heap.size ≤ wr.heap.size) := hbel.size
          have HIBD : Hid (Lib.IsBuilderF 74 5 w.heap.size w.heap.size (Lib.byteCells (catTo F l z)) wr.drew) := HIB.out
          have hszd : w.heap.size ≤ wr.drew.heap.size := hbel.size
          unfold encT bA at *
          generalize (⟨(catTo F l z).toArray⟩ : ByteArray) = tx at *
          generalize (⟨(F L).t.toArray⟩ : ByteArray) = tL at *
          clear hbd hbel hle HGW HBD1 HB1 HCE HSS HMO HAL HPU
          go_upto_region 14 with fail
          have HDR : Hid (Below w.heap.size wr wr.drew) := (Below.refl _ _).drew
          cases hth : (F L).th with
          | false =>
            rw [hth] at f1
            have k1 : ∀ i : KB wr [g], i.v.cell? ⟨g, L * 3 + 1, none⟩ = some (.bool false) := fun i => (i.cell (b := g) (by simp) _).trans f1
            have HOI := hidD (HLT.out _ rfl (by rw [hth]; intro h; cases h))
            refine wp_region_seg [0, 0, 0, 0, 0, 0, 1, 0, 0, 0, 0, 99, 99] 1 11 [g] (by kernel_rfl) (by kernel_rfl) (by kernel_rfl) (by kernel_rfl) (by kernel_rfl) (by kernel_rfl) (by kernel_rfl) (by kernel_rfl) (fun _ _ _ _ _ h => h) ?_
            simp only [SegW, pk, Nat.reduceMul, Nat.reduceAdd, Nat.reduceBEq, cond_true, cond_false]
            repeat (go_big_quiet_step (fail))
            refine wpQuiet_nil ?_
            go_wp2_with fail
            refine ⟨HKK.out _ HDR.out, ?_⟩
            repeat (go_big_quiet_step (fail))
            refine wpQuiet_nil ?_
            go_wp2_with (go_at_call 40; refine (HST.out _ HIBD.out hszd).mono ?_; rintro e w7 ⟨rfl, hi7, hb7⟩; have HB7 : Hid (Below w.heap.size wr w7) := HDR.out.trans hb7; have HC7 := hidD (HNX.out _ HB7.out); obtain ⟨y0, y1, y2, y3⟩ := HFRZ.out _ HC7.out; clear hi7 hb7)
            go_end0
            exact ⟨_, rfl, (HFIN.out _ (HBW.out.trans HB7.out) HC7.out).1, HOI.out, (HFIN.out _ (HBW.out.trans HB7.out) HC7.out).2⟩
          | true =>
            rw [hth] at f1
            have k1 : ∀ i : KB wr [g], i.v.cell? ⟨g, L * 3 + 1, none⟩ = some (.bool true) := fun i => (i.cell (b := g) (by simp) _).trans f1
            have k0 : ∀ i : KB wr [g], i.v.cell? ⟨g, L * 3, none⟩ = some (.string tL) := fun i => (i.cell (b := g) (by simp) _).trans f0
            refine wp_region_seg [0, 0, 0, 0, 0, 0, 1, 0, 0, 0, 0, 99, 99] 1 11 [g] (by kernel_rfl) (by kernel_rfl) (by kernel_rfl) (by kernel_rfl) (by kernel_rfl) (by kernel_rfl) (by kernel_rfl) (by kernel_rfl) (fun _ _ _ _ _ h => h) ?_
            simp only [SegW, pk, Nat.reduceMul, Nat.reduceAdd, Nat.reduceBEq, cond_true, cond_false]
            repeat (go_big_quiet_step (fail))
            refine wpQuiet_nil ?_
            go_wp2_with (go_at_call 40; refine (HST.out _ HIBD.out hszd).mono ?_; rintro e w5 ⟨rfl, hi5, hb5⟩; have HB5 : Hid (Below w.heap.size wr w5) := HDR.out.trans hb5; have HI5 := hidD hi5; have hsz5 : w.heap.size ≤ w5.heap.size := Nat.le_trans HSZ.out HB5.out.size; clear hi5 hb5)
            refine ⟨HKK.out _ HB5.out, ?_⟩
            repeat (go_big_quiet_step (fail))
            refine wpQuiet_nil ?_
            go_wp2_with first
              | (go_at_call 40; refine (HST.out _ HI5.out hsz5).mono ?_; rintro e w7 ⟨rfl, hi7, hb7⟩; have HB7 : Hid (Below w.heap.size wr w7) := HB5.out.trans hb7; have HC7 := hidD (HNX.out _ HB7.out); obtain ⟨y0, y1, y2, y3⟩ := HFRZ.out _ HC7.out; clear hi7 hb7)
              | (go_at_call 65; refine (HLS.out _).mono ?_; rintro e w6 ⟨r, rfl, hr, hw⟩; subst w6; have HR := hidD hr; clear hr)
            · rename_i h
              subst h
              have HOI := hidD (HLT.out _ rfl (fun _ => by
                rcases Nat.lt_or_ge (F L).t.length (catTo F l z).length with h | h
                · have := HR.out.2 h; cases this
                · exact h))
              go_end0
              exact ⟨_, rfl, (HFIN.out _ (HBW.out.trans HB7.out) HC7.out).1, HOI.out, (HFIN.out _ (HBW.out.trans HB7.out) HC7.out).2⟩
            · rename_i h
              subst h
              have HOI := hidD (HGT.out hth (by
                rcases Nat.lt_or_ge (catTo F l z).length (F L).t.length with h | h
                · have := HR.out.1 h; cases this
                · exact h))
              go_end0
              exact ⟨F, rfl, HNX.out _ HB5.out, HOI.out, But.of (HBW.out.trans HB5.out) (Nat.le_of_lt hg)⟩
end Go.Proofs.YtgmbkelmgolkpabDoor
