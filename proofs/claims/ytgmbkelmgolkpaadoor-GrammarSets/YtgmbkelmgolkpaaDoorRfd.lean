/- The document's met. -/
import Derived.Test.YtgmbkelmgolkpaaDoorRfa
import Derived.Test.YtgmbkelmgolkpaaDoorRfc
import Derived.Deep.AppendLies
namespace Go.Proofs.YtgmbkelmgolkpaaDoor
open Go.RowKit
set_option linter.unusedVariables false

/-- Two rows that lie in blocks apart. -/
def Ap (u v : Value) : Prop := u.ownBlock = none ∨ u.ownBlock ≠ v.ownBlock
theorem ap_next {w : World} {b n : Nat} {u v v' : Value} {ys : List Value} (hu : w.ownsRow b 9 1 u n ys) (ha : Ap u v) (hv : v'.ownBlock = v.ownBlock ∨ v'.ownBlock = some w.heap.size) : Ap u v' := by
  rcases hv with hv | hv
  · unfold Ap; rw [hv]; exact ha
  · cases hq : u.ownBlock with
    | none => exact .inl hq
    | some q => exact .inr (fun e => by rw [hv, hq] at e; have := (hu.lt q hq).2; cases e; omega)
theorem ap_first {w w1 : World} {b n m : Nat} {o u : Value} {xs ys : List Value} (ho : w.ownsRow b 9 1 o n xs) (hu : w1.ownsRow w.heap.size 9 1 u m ys) : Ap u o := by
  cases hq : u.ownBlock with
  | none => exact .inl hq
  | some q => exact .inr (fun e => by
      rw [hq] at e
      have h1 := (hu.lt q hq).1
      have h2 := (ho.lt q e.symm).2
      omega)
theorem wpList_append_apd {ops : Array Oper} {rest : List Oper} {o : Oper} {a : Act} {Q : Exit → Act → World → Prop} {w : World} (hgd : o.guard = none) (s x : Operand)
    (ho : o.op = .call { callee := .builtin .append, args := #[s, x], argTypes := #[35, 35] }) (base : Nat) (v : Value) (n : Nat) (xs : List Value)
    (hs : a.eval s = v) (hown : w.ownsRow base 9 1 v n xs) (g : Nat) (y : Value) (hx : a.eval x = .slice (some ⟨g, 0, none⟩) 1 1) (hc : w.cell? ⟨g, 0, none⟩ = some y) (hy : y.oneCell' = true) (hl : n ≤ 4398046511104) (hbase : base ≤ w.heap.size)
    (h : ∀ v' w', w'.ownsRow base 9 1 v' (n + 1) (xs ++ [y]) → Below base w w' → w.grownBy w' v.ownBlock → (v'.ownBlock = v.ownBlock ∨ v'.ownBlock = some w.heap.size) → wpList Tryd.prog ops Q rest (a.put o.dst v') w') : wpList Tryd.prog ops Q (o :: rest) a w := by
  obtain ⟨i0, hi, hz0, hz1, hz2⟩ := info_parts Tryd.info9
  refine wpList_append_lies w hgd s x 35 ho base 9 i0 _ 1 _ Tryd.under48 hi hz0 hz1 hz2 (by decide) (by decide) v n xs hs hown ⟨g, 0, none⟩ 1 1 [y] hx (by simp) (fun j u hu => ?_) (by intro u hu; rw [List.mem_singleton] at hu; rw [hu]; exact hy) (by decide) (by unfold maxLen; omega) (by omega) hbase _ rfl ?_
  · match j, hu with
    | 0, hu =>
      rw [Go.WideShapes.add_plain]
      simp at hu
      rw [← hu]; exact hc
    | j + 1, hu => simp at hu
  · intro g' cap w' h1 h2 h3 _
    refine h _ w' h1 (row_grown hown (Below.refl _ _) h2 hbase) h2 ?_
    rcases h3 with h3 | h3
    · exact .inl h3.symm
    · exact .inr (by rw [h3]; rfl)
/-- The names that a line adds. -/
def mwTo (ws oth : List Tx) (non : Bool) (out : List Tx) : Nat → List Tx
  | 0 => out
  | q + 1 => if q ≠ 1 ∧ ws.getD q [] ≠ tOr ∧ decide (0 ≤ atS oth (ws.getD q [])) = non ∧ atS (mwTo ws oth non out q) (ws.getD q []) < 0 then mwTo ws oth non out q ++ [ws.getD q []] else mwTo ws oth non out q
theorem mw_len (ws oth : List Tx) (non : Bool) (out : List Tx) : ∀ q, (mwTo ws oth non out q).length ≤ out.length + q
  | 0 => Nat.le_refl _
  | q + 1 => by
    have := mw_len ws oth non out q
    rw [mwTo]; split
    · rw [List.length_append, List.length_singleton]; omega
    · omega
/-- The names that lines add. -/
def mtTo (ls oth : List Tx) (non : Bool) : Nat → List Tx
  | 0 => []
  | k + 1 => if skipS (fldS (ls.getD k [])) then mtTo ls oth non k else mwTo (fldS (ls.getD k [])) oth non (mtTo ls oth non k) (fldS (ls.getD k [])).length
theorem mt_len (ls oth : List Tx) (non : Bool) (h : ∀ k, (ls.getD k []).length ≤ 1048576) : ∀ k, (mtTo ls oth non k).length ≤ 1048576 * k
  | 0 => Nat.le_refl _
  | k + 1 => by
    have h1 := mt_len ls oth non h k
    rw [mtTo]; split
    · omega
    · have h2 := mw_len (fldS (ls.getD k [])) oth non (mtTo ls oth non k) (fldS (ls.getD k [])).length
      have h3 := fld_len (ls.getD k [])
      have h4 := h k
      omega
set_option maxRecDepth 100000 in
set_option maxHeartbeats 12800000 in
theorem refMet_any (ls oth : List Tx) (non : Bool) (hls : ls.length ≤ 1048577) (hln : ∀ k, (ls.getD k []).length ≤ 1048576) (hol : oth.length ≤ 4398046511104) (vl vo : Value) (w : World) (h1 : SrAt w w.heap.size vl ls) (h2 : SrAt w w.heap.size vo oth) : Calls Tryd.prog 48 #[vl, vo, .bool non] w fun e w' => ∃ u, e = .returned u ∧ w'.ownsRow w.heap.size 9 1 u (mtTo ls oth non ls.length).length ((mtTo ls oth non ls.length).map encT) ∧ Below w.heap.size w w' := by
  have HWD : Hid (∀ (l : Tx) (w' : World), l.length ≤ 1048576 → Calls Tryd.prog 44 #[encT l] w' fun e w2 => ∃ u, e = .returned u ∧ w2.ownsRow w'.heap.size 9 1 u (fldS l).length ((fldS l).map encT) ∧ Below w'.heap.size w' w2) := fun l w' hl => by
    have := refWords_any l hl w'
    rw [dwd_eq] at this
    exact this
  have HW1 := hidD (fun l => fld_one l)
  have HWL := hidD (fun l => fld_len l)
  have HLN := hidD hln
  have HML := hidD (mt_len ls oth non hln)
  have HMW := hidD (fun ws out q => mw_len ws oth non out q)
  have HAO := hidD (fun (x : Tx) (w' : World) (h : SrAt w' w.heap.size vo oth) => refAt_any oth hol w.heap.size vo x w' h)
  have HAU := hidD (fun (L : List Tx) (hL : L.length ≤ 4398046511104) (v : Value) (x : Tx) (w' : World) (h : SrAt w' w'.heap.size v L) => refAt_any L hL w'.heap.size v x w' h)
  have HNX : Hid (∀ k, mtTo ls oth non (k + 1) = if skipS (fldS (ls.getD k [])) then mtTo ls oth non k else mwTo (fldS (ls.getD k [])) oth non (mtTo ls oth non k) (fldS (ls.getD k [])).length) := fun _ => rfl
  have HWX : Hid (∀ ws out q, mwTo ws oth non out (q + 1) = if q ≠ 1 ∧ ws.getD q [] ≠ tOr ∧ decide (0 ≤ atS oth (ws.getD q [])) = non ∧ atS (mwTo ws oth non out q) (ws.getD q []) < 0 then mwTo ws oth non out q ++ [ws.getD q []] else mwTo ws oth non out q) := fun _ _ _ => rfl
  have HSK : Hid (∀ ws : List Tx, skipS ws = (ws.isEmpty || (ws.getD 0 []).getD 0 0 == 35)) := fun _ => rfl
  obtain ⟨al, cl, rfl⟩ := h1.shape
  obtain ⟨ao, co, rfl⟩ := h2.shape
  have HSL := hidD h1
  have HSO := hidD h2
  clear h1 h2 hln
  generalize hm : ls.length = m at *
  have HM := hidD hm
  generalize hon : oth.length = on at *
  clear hm hon
  go_enter Tryd.func48, Tryd.ntmps48
  go_wp2_with fail
  go_loopw [7, 8] (fun o i wr => ∃ k : Nat, k ≤ m ∧ i = .int .i64 (k : Int) ∧ wr.ownsRow w.heap.size 9 1 o (mtTo ls oth non k).length ((mtTo ls oth non k).map encT) ∧ Below w.heap.size w wr) (fun _ i _ => m - (intOf i).toNat)
  case atStart => exact ⟨0, Nat.zero_le _, rfl, World.ownsRow_nil _ _ _ _, Below.refl _ _⟩
  case round =>
    obtain ⟨k, hk, rfl, hown, hbel⟩ := hrel
    have HOW := hidD hown
    have HBW := hidD hbel
    obtain ⟨a7, c7, h7⟩ := row_shape hown
    subst h7
    have hml := HML.out k
    have hmk : 1048576 * k ≤ 1048576 * 1048577 := Nat.mul_le_mul_left _ (by omega)
    clear hown hbel
    by_cases hlt : k < m
    · have hlti : (k : Int) < (m : Int) := by omega
      have HN := hidD (HNX.out k)
      obtain ⟨g, o, rfl, hg, _, f0⟩ := (HSL.out.below HBW.out (Nat.le_refl _)).cell (k := k) (by rw [HM.out]; exact hlt)
      have HW := hidD (HWD.out (ls.getD k []) wr (HLN.out k))
      have HWO := hidD (HW1.out (ls.getD k []))
      have hwl := HWL.out (ls.getD k [])
      have hll := HLN.out k
      generalize ls.getD k [] = ln at *
      generalize hL : mtTo ls oth non k = LL at *
      generalize hlL : LL.length = ll at *
      have HLL := hidD hlL
      clear hL hlL
      unfold encT at f0
      have HW2 : Hid (Calls Tryd.prog 44 #[.string (bA ln)] wr fun e w2 => ∃ u, e = .returned u ∧ w2.ownsRow wr.heap.size 9 1 u (fldS ln).length ((fldS ln).map encT) ∧ Below wr.heap.size wr w2) := HW.out
      clear HW
      generalize bA ln = lb at *
      generalize fldS ln = ws at *
      generalize hnw : ws.length = nw at *
      have HNW := hidD hnw
      clear hnw
      have HSW := hidD (HSK.out ws)
      by_cases hz : nw = 0
      · have hS : skipS ws = true := by rw [HSW.out, List.isEmpty_iff.2 (List.eq_nil_of_length_eq_zero (by rw [HNW.out]; exact hz))]; rfl
        rw [hS, if_pos rfl] at HN
        have HNN := hidD HN.out
        subst hz
        clear hS
        go_wp2_with (go_at_call 44; refine HW2.out.mono ?_; rintro e w1 ⟨u, rfl, hou, hb1⟩; obtain ⟨a4, c4, h4⟩ := row_shape hou; subst h4; have HB1 := hidD hb1; clear hb1 hou)
        go_roundw
        case rel => exact ⟨k + 1, by omega, by go_num, by rw [HNN.out, HLL.out]; exact row_below HOW.out HB1.out, Below.next HBW.out HB1.out⟩
        case measure => simp [intOf]; omega
      · have hw0 := (HWO.out (ws.getD 0 []) (by rw [List.getD_eq_getElem?_getD, List.getElem?_eq_getElem (by rw [HNW.out]; omega)]; exact List.getElem_mem _)).1
        have h0s : 0 < (bA (ws.getD 0 [])).size := by rw [ba_size]; exact hw0
        have HG0 := hidD (ba_get (ws.getD 0 []) 0 h0s)
        have hnz : ¬ (nw : Int) = 0 := by omega
        have hnb : ((nw : Int) == 0) = false := beq_eq_false_iff_ne.2 hnz
        have h0n : (0 : Int) < (nw : Int) := by omega
        have hne : ws.isEmpty = false := by
          cases hw : ws with
          | nil => have := HNW.out; rw [hw] at this; simp at this; omega
          | cons => rfl
        have HE0 : Hid (∀ (w' : World) (b n : Nat) (a : Option Addr) (c : Nat), w'.ownsRow b 9 1 (.slice a nw c) nw (ws.map encT) → ∃ g, a = some ⟨g, 0, none⟩ ∧ w'.cell? ⟨g, 0, none⟩ = some (.string (bA (ws.getD 0 [])))) := fun w' b n a c h => by
          rcases h.2 with ⟨e, e0⟩ | ⟨g, cap, cur, e, _⟩
          · omega
          · cases e
            have := h.cells (g := g) rfl 0 (encT (ws.getD 0 [])) (by rw [List.getElem?_map, List.getElem?_eq_getElem (by rw [HNW.out]; omega), List.getD_eq_getElem?_getD, List.getElem?_eq_getElem (by rw [HNW.out]; omega)]; rfl)
            exact ⟨g, rfl, this⟩
        generalize hb0 : bA (ws.getD 0 []) = b0 at *
        clear hb0
        by_cases h35 : b0[0] = 35
        · have hS : skipS ws = true := by rw [HSW.out, ← HG0.out, h35]; simp
          rw [hS, if_pos rfl] at HN
          have ht : (b0[0].toNat : Int) = 35 := by rw [h35]; rfl
          clear hS hwl
          go_wp2_with (go_at_call 44; refine HW2.out.mono ?_; rintro e w1 ⟨u, rfl, hou, hb1⟩; obtain ⟨a4, c4, h4⟩ := row_shape hou; subst h4; have HB1 := hidD hb1; obtain ⟨g4, rfl, f4⟩ := HE0.out _ _ 0 _ _ hou; clear hb1 hou)
          go_roundw
          case rel => exact ⟨k + 1, by omega, by go_num, by rw [HN.out, HLL.out]; exact row_below HOW.out HB1.out, Below.next HBW.out HB1.out⟩
          case measure => simp [intOf]; omega
        · have hS : skipS ws = false := by rw [HSW.out, hne, ← HG0.out]; simp; exact h35
          rw [hS, if_neg (by simp)] at HN
          have ht : ¬ (b0[0].toNat : Int) = 35 := fun hc => h35 (by
            have : b0[0].toNat = 35 := by omega
            exact UInt8.toNat_inj.1 this)
          have htb : ((b0[0].toNat : Int) == 35) = false := beq_eq_false_iff_ne.2 ht
          clear hS
          obtain ⟨wk, hwk⟩ : ∃ wk, wk = wr := ⟨_, rfl⟩
          subst hwk
          go_wp2_with (go_at_call 44; refine HW2.out.mono ?_; rintro e w1 ⟨u, rfl, hou, hb1⟩; obtain ⟨a4, c4, h4⟩ := row_shape hou; subst h4; have HB1 := hidD hb1; have HOU := hidD hou; have HAP := hidD (ap_first HOW.out hou); obtain ⟨g4, rfl, f4⟩ := HE0.out _ _ 0 _ _ hou; clear hb1 hou)
          go_loopw [7, 10] (fun o i wr => ∃ q : Nat, q ≤ nw ∧ i = .int .i64 (q : Int) ∧ wr.ownsRow w.heap.size 9 1 o (mwTo ws oth non LL q).length ((mwTo ws oth non LL q).map encT) ∧ wr.ownsRow wk.heap.size 9 1 (.slice (some ⟨g4, 0, none⟩) nw c4) nw (ws.map encT) ∧ Ap (.slice (some ⟨g4, 0, none⟩) nw c4) o ∧ Below w.heap.size w wr) (fun _ i _ => nw - (intOf i).toNat)
          case atStart => exact ⟨0, Nat.zero_le _, rfl, by show World.ownsRow _ _ _ _ _ LL.length (LL.map encT); rw [HLL.out]; exact row_below HOW.out HB1.out, HOU.out, HAP.out, Below.next HBW.out HB1.out⟩
          case round =>
            obtain ⟨q, hq, rfl, hown, hwd, hap, hbel⟩ := hrel
            have HOQ := hidD hown
            have HWQ := hidD hwd
            have HAQ := hidD hap
            have HBQ := hidD hbel
            obtain ⟨a9, c9, h9⟩ := row_shape hown
            subst h9
            have hlq := HMW.out ws LL q
            have HSQ := hidD (HSO.out.below hbel (Nat.le_refl _))
            by_cases hqt : q < nw
            · have hqti : (q : Int) < (nw : Int) := by omega
              have f5 := hwd.cells (g := g4) rfl q (encT (ws.getD q [])) (by rw [List.getElem?_map, List.getElem?_eq_getElem (by rw [HNW.out]; omega), List.getD_eq_getElem?_getD, List.getElem?_eq_getElem (by rw [HNW.out]; omega)]; rfl)
              rw [show (⟨g4, 0, none⟩ : Addr).add q = ⟨g4, 0 + q, none⟩ from Addr.add_lit .., Nat.zero_add] at f5
              unfold encT at f5
              have HX := hidD (HWX.out ws LL q)
              have HA1 := hidD (HAO.out (ws.getD q []) wr HSQ.out)
              have HA2 := hidD (HAU.out (mwTo ws oth non LL q) (by rw [HLL.out] at hlq; omega) _ (ws.getD q []) wr (sr_of_own hown rfl))
              have HEQ : Hid ((bA (ws.getD q [])).toList = [124] ↔ ws.getD q [] = tOr) := by rw [ba_list]; exact Iff.rfl
              have HAL := hidD (fun ob => hown.alloc ob)
              have HWA := hidD (fun ob => hwd.alloc ob)
              clear hown hwd hap hbel
              rw [HLL.out] at hlq
              generalize hR : mwTo ws oth non LL q = RR at *
              clear hR
              generalize hlR : RR.length = lr at *
              have HLR := hidD hlR
              clear hlR
              unfold encT at HA1 HA2
              generalize hy : ws.getD q [] = y at *
              have HYE : Hid (encT y = .string (bA y)) := rfl
              clear hy
              generalize bA y = b at *
              generalize atS oth y = ra at *
              generalize atS RR y = rb at *
              by_cases c1 : q = 1
              · subst c1
                rw [if_neg (fun hc => hc.1 rfl)] at HX
                go_wp2_with (first | (go_at_call 46; refine HA1.out.mono ?_; clear HA1; rintro e w3 ⟨rfl, rfl⟩) | (go_at_call 46; refine HA2.out.mono ?_; clear HA2; rintro e w3 ⟨rfl, rfl⟩))
                go_roundw
                case rel => exact ⟨1 + 1, by omega, by go_num, by rw [HX.out, HLR.out]; exact HOQ.out, HWQ.out, HAQ.out, HBQ.out⟩
                case measure => simp [intOf]; omega
              have c1i : ¬ (q : Int) = 1 := by omega
              have c1b : ((q : Int) == 1) = false := beq_eq_false_iff_ne.2 c1i
              by_cases c2 : b.toList = [124]
              · have c2b : (b.toList == [124]) = true := beq_iff_eq.2 c2
                rw [if_neg (fun hc => hc.2.1 (HEQ.out.1 c2))] at HX
                go_wp2_with (first | (go_at_call 46; refine HA1.out.mono ?_; clear HA1; rintro e w3 ⟨rfl, rfl⟩) | (go_at_call 46; refine HA2.out.mono ?_; clear HA2; rintro e w3 ⟨rfl, rfl⟩))
                go_roundw
                case rel => exact ⟨q + 1, by omega, by go_num, by rw [HX.out, HLR.out]; exact HOQ.out, HWQ.out, HAQ.out, HBQ.out⟩
                case measure => simp [intOf]; omega
              have c2b : (b.toList == [124]) = false := beq_eq_false_iff_ne.2 c2
              have c2y : y ≠ tOr := fun hc => c2 (HEQ.out.2 hc)
              by_cases c3 : (0 : Int) ≤ ra
              · have c3d : decide ((0 : Int) ≤ ra) = true := decide_eq_true c3
                rw [c3d] at HX
                cases non with
                | true =>
                  by_cases c4 : rb < 0
                  · have c4d : decide (rb < 0) = true := decide_eq_true c4
                    rw [if_pos ⟨c1, c2y, rfl, c4⟩] at HX
                    go_wp2_with (first | (go_at_call 46; refine HA1.out.mono ?_; clear HA1; rintro e w3 ⟨rfl, rfl⟩) | (go_at_call 46; refine HA2.out.mono ?_; clear HA2; rintro e w3 ⟨rfl, rfl⟩) | (at_builtin; refine wpList_append_apd rfl _ _ rfl w.heap.size (.slice a9 lr c9) lr (RR.map encT) rfl (HAL.out _) w3.heap.size (.string b) rfl (new_cell1 w3 (.string b) 9 0 _ rfl) rfl (by omega) (by have := HBQ.out.size; simp; omega) ?_; intro v8 w8 hown8 hb8 hg8 hl8; have HO8 := hidD hown8; have HB8 := hidD (Below.trans (Below.alloc HBQ.out HBQ.out.size _) hb8); have HW8 := hidD ((HWA.out _).kept hg8 HAQ.out); have HP8 := hidD (ap_next (HWA.out _) HAQ.out hl8); clear hown8 hb8 hg8 hl8))
                    go_roundw
                    case rel => exact ⟨q + 1, by omega, by go_num, by rw [HX.out, List.length_append, List.map_append, HLR.out]; show World.ownsRow _ _ _ _ _ _ (_ ++ [encT y]); rw [HYE.out]; exact HO8.out, HW8.out, HP8.out, HB8.out⟩
                    case measure => simp [intOf]; omega
                  · have c4d : decide (rb < 0) = false := decide_eq_false c4
                    rw [if_neg (fun hc => c4 hc.2.2.2)] at HX
                    go_wp2_with (first | (go_at_call 46; refine HA1.out.mono ?_; clear HA1; rintro e w3 ⟨rfl, rfl⟩) | (go_at_call 46; refine HA2.out.mono ?_; clear HA2; rintro e w3 ⟨rfl, rfl⟩))
                    go_roundw
                    case rel => exact ⟨q + 1, by omega, by go_num, by rw [HX.out, HLR.out]; exact HOQ.out, HWQ.out, HAQ.out, HBQ.out⟩
                    case measure => simp [intOf]; omega
                | false =>
                  rw [if_neg (fun hc => absurd hc.2.2.1 (by decide))] at HX
                  go_wp2_with (first | (go_at_call 46; refine HA1.out.mono ?_; clear HA1; rintro e w3 ⟨rfl, rfl⟩) | (go_at_call 46; refine HA2.out.mono ?_; clear HA2; rintro e w3 ⟨rfl, rfl⟩))
                  go_roundw
                  case rel => exact ⟨q + 1, by omega, by go_num, by rw [HX.out, HLR.out]; exact HOQ.out, HWQ.out, HAQ.out, HBQ.out⟩
                  case measure => simp [intOf]; omega
              · have c3d : decide ((0 : Int) ≤ ra) = false := decide_eq_false c3
                rw [c3d] at HX
                cases non with
                | true =>
                  rw [if_neg (fun hc => absurd hc.2.2.1 (by decide))] at HX
                  go_wp2_with (first | (go_at_call 46; refine HA1.out.mono ?_; clear HA1; rintro e w3 ⟨rfl, rfl⟩) | (go_at_call 46; refine HA2.out.mono ?_; clear HA2; rintro e w3 ⟨rfl, rfl⟩))
                  go_roundw
                  case rel => exact ⟨q + 1, by omega, by go_num, by rw [HX.out, HLR.out]; exact HOQ.out, HWQ.out, HAQ.out, HBQ.out⟩
                  case measure => simp [intOf]; omega
                | false =>
                  by_cases c4 : rb < 0
                  · have c4d : decide (rb < 0) = true := decide_eq_true c4
                    rw [if_pos ⟨c1, c2y, rfl, c4⟩] at HX
                    go_wp2_with (first | (go_at_call 46; refine HA1.out.mono ?_; clear HA1; rintro e w3 ⟨rfl, rfl⟩) | (go_at_call 46; refine HA2.out.mono ?_; clear HA2; rintro e w3 ⟨rfl, rfl⟩) | (at_builtin; refine wpList_append_apd rfl _ _ rfl w.heap.size (.slice a9 lr c9) lr (RR.map encT) rfl (HAL.out _) w3.heap.size (.string b) rfl (new_cell1 w3 (.string b) 9 0 _ rfl) rfl (by omega) (by have := HBQ.out.size; simp; omega) ?_; intro v8 w8 hown8 hb8 hg8 hl8; have HO8 := hidD hown8; have HB8 := hidD (Below.trans (Below.alloc HBQ.out HBQ.out.size _) hb8); have HW8 := hidD ((HWA.out _).kept hg8 HAQ.out); have HP8 := hidD (ap_next (HWA.out _) HAQ.out hl8); clear hown8 hb8 hg8 hl8))
                    go_roundw
                    case rel => exact ⟨q + 1, by omega, by go_num, by rw [HX.out, List.length_append, List.map_append, HLR.out]; show World.ownsRow _ _ _ _ _ _ (_ ++ [encT y]); rw [HYE.out]; exact HO8.out, HW8.out, HP8.out, HB8.out⟩
                    case measure => simp [intOf]; omega
                  · have c4d : decide (rb < 0) = false := decide_eq_false c4
                    rw [if_neg (fun hc => c4 hc.2.2.2)] at HX
                    go_wp2_with (first | (go_at_call 46; refine HA1.out.mono ?_; clear HA1; rintro e w3 ⟨rfl, rfl⟩) | (go_at_call 46; refine HA2.out.mono ?_; clear HA2; rintro e w3 ⟨rfl, rfl⟩))
                    go_roundw
                    case rel => exact ⟨q + 1, by omega, by go_num, by rw [HX.out, HLR.out]; exact HOQ.out, HWQ.out, HAQ.out, HBQ.out⟩
                    case measure => simp [intOf]; omega
            · obtain rfl : q = nw := by omega
              go_wp2_with fail
              go_roundw
              case rel => exact ⟨k + 1, by omega, by go_num, by rw [HN.out]; exact HOQ.out, HBQ.out⟩
              case measure => simp [intOf]; omega
    · obtain rfl : k = m := by omega
      go_wp2_with fail
      refine bodyPost_ret (v := .slice a7 (mtTo ls oth non k).length c7) (by simp [results, Tryd.results48, go_sem]) rfl ?_
      exact ⟨_, rfl, HOW.out, HBW.out⟩
end Go.Proofs.YtgmbkelmgolkpaaDoor
