/- Texts of one proof, one behind the other. -/
import Derived.Test.YtgmbkelmgolkpaaDoorMpa
import Derived.Deep.AppendLies
/- Plain: places in rows that are laid behind one another; what is counted; terminals and others so far. Rows apart from one another. -/
namespace Go.Proofs.YtgmbkelmgolkpaaDoor
open Go.RowKit Go.Maps
set_option linter.unusedVariables false

def posS (L : List (List Tx)) (r : Nat) : Nat := (L.take r).flatten.length
theorem pos_zero (L : List (List Tx)) : posS L 0 = 0 := by simp [posS]
theorem take_one {L : List (List Tx)} {r : Nat} (hr : r < L.length) : L.take (r + 1) = L.take r ++ [L.getD r []] := by
  rw [List.take_succ_eq_append_getElem hr, List.getD_eq_getElem?_getD, List.getElem?_eq_getElem hr]; rfl
theorem pos_next {L : List (List Tx)} {r : Nat} (hr : r < L.length) : posS L (r + 1) = posS L r + (L.getD r []).length := by
  unfold posS
  rw [take_one hr, List.flatten_append, List.flatten_singleton, List.length_append]
theorem pos_all (L : List (List Tx)) : posS L L.length = L.flatten.length := by unfold posS; rw [List.take_length]
theorem pos_mono (L : List (List Tx)) {r : Nat} (hr : r < L.length) : posS L r + (L.getD r []).length ≤ L.flatten.length := by
  rw [← pos_next hr]
  unfold posS
  conv => rhs; rw [← List.take_append_drop (r + 1) L, List.flatten_append, List.length_append]
  omega
theorem pos_get {L : List (List Tx)} {r j : Nat} (hr : r < L.length) (hj : j < (L.getD r []).length) : L.flatten.getD (posS L r + j) [] = (L.getD r []).getD j [] := by
  have h1 : L = L.take r ++ (L.getD r [] :: L.drop (r + 1)) := by
    conv => lhs; rw [← List.take_append_drop r L, List.drop_eq_getElem_cons hr]
    rw [List.getD_eq_getElem?_getD, List.getElem?_eq_getElem hr]; rfl
  have h2 : L.flatten = (L.take r).flatten ++ (L.getD r [] ++ (L.drop (r + 1)).flatten) := by
    conv => lhs; rw [h1]
    rw [List.flatten_append, List.flatten_cons]
  rw [h2, List.getD_eq_getElem?_getD, List.getElem?_append_right (by unfold posS; omega)]
  unfold posS
  rw [Nat.add_sub_cancel_left, List.getElem?_append_left hj, ← List.getD_eq_getElem?_getD]
/-- How often. -/
def cnS (l : List Tx) (x : Tx) : Option Int := if l.contains x then some (l.count x : Int) else none
theorem cn_get (l : List Tx) (x : Tx) : (cnS l x).getD 0 = (l.count x : Int) := by
  unfold cnS
  split
  · rfl
  · rename_i h
    rw [List.count_eq_zero.2 (fun hm => h (List.contains_iff_mem.2 hm))]; rfl
theorem cn_next (l : List Tx) (y x : Tx) : (if x = y then some ((l.count y : Int) + 1) else cnS l x) = cnS (l ++ [y]) x := by
  unfold cnS
  by_cases h : x = y
  · subst h
    rw [if_pos rfl, if_pos (by simp), List.count_append, List.count_singleton_self]
    rfl
  · rw [if_neg h]
    have e1 : (l ++ [y]).contains x = l.contains x := by
      rw [Bool.eq_iff_iff]
      simp only [List.contains_eq_mem, List.mem_append, List.mem_singleton, h, or_false]
    have e2 : (l ++ [y]).count x = l.count x := by rw [List.count_append, List.count_singleton, if_neg (by simpa using fun e => h e.symm)]; rfl
    rw [e1, e2]
def teTo (L : List (List Tx)) (k : Nat) : List Tx := (frTo L.flatten k).filter fun x => !(leftsS L).contains x
def otTo (L : List (List Tx)) (k : Nat) : List Tx := (frTo L.flatten k).filter fun x => (leftsS L).contains x
theorem te_old {L : List (List Tx)} {k : Nat} (hk : k < L.flatten.length) (h : L.flatten.getD k [] ∈ L.flatten.take k) : teTo L (k + 1) = teTo L k ∧ otTo L (k + 1) = otTo L k := by
  have := (fr_iff L.flatten (L.flatten.getD k []) k (by omega)).2 h
  unfold teTo otTo
  rw [frTo, if_pos (List.contains_iff_mem.2 this)]
  exact ⟨rfl, rfl⟩
theorem te_left {L : List (List Tx)} {k : Nat} (hk : k < L.flatten.length) (h : L.flatten.getD k [] ∉ L.flatten.take k) (hl : L.flatten.getD k [] ∈ leftsS L) : teTo L (k + 1) = teTo L k ∧ otTo L (k + 1) = otTo L k ++ [L.flatten.getD k []] := by
  have : L.flatten.getD k [] ∉ frTo L.flatten k := fun hm => h ((fr_iff L.flatten _ k (by omega)).1 hm)
  unfold teTo otTo
  rw [frTo, if_neg (fun hc => this (List.contains_iff_mem.1 hc)), List.filter_append, List.filter_append]
  generalize L.flatten.getD k [] = x at *
  have hc := List.contains_iff_mem.2 hl
  simp only [List.filter_cons, List.filter_nil, hc]
  simp
theorem te_right {L : List (List Tx)} {k : Nat} (hk : k < L.flatten.length) (h : L.flatten.getD k [] ∉ L.flatten.take k) (hl : L.flatten.getD k [] ∉ leftsS L) : teTo L (k + 1) = teTo L k ++ [L.flatten.getD k []] ∧ otTo L (k + 1) = otTo L k := by
  have : L.flatten.getD k [] ∉ frTo L.flatten k := fun hm => h ((fr_iff L.flatten _ k (by omega)).1 hm)
  have hc : (leftsS L).contains (L.flatten.getD k []) = false := by
    cases hb : (leftsS L).contains (L.flatten.getD k []) with
    | false => rfl
    | true => exact absurd (List.contains_iff_mem.1 hb) hl
  unfold teTo otTo
  rw [frTo, if_neg (fun hc => this (List.contains_iff_mem.1 hc)), List.filter_append, List.filter_append]
  generalize L.flatten.getD k [] = x at *
  simp only [List.filter_cons, List.filter_nil, hc]
  simp
theorem te_len (L : List (List Tx)) (k : Nat) : (teTo L k).length ≤ k ∧ (otTo L k).length ≤ k := ⟨Nat.le_trans (List.length_filter_le _ _) (fr_len _ k), Nat.le_trans (List.length_filter_le _ _) (fr_len _ k)⟩
theorem lefts_len (L : List (List Tx)) : (leftsS L).length = L.length := by unfold leftsS; rw [List.length_map]
theorem lefts_get {L : List (List Tx)} {r : Nat} (hr : r < L.length) : (leftsS L).getD r [] = (L.getD r []).getD 0 [] := by
  unfold leftsS
  rw [List.getD_eq_getElem?_getD, List.getElem?_map, List.getElem?_eq_getElem hr, List.getD_eq_getElem?_getD (l := L), List.getElem?_eq_getElem hr]
  rfl
/-- Two rows lie in blocks of their own. -/
def Apart (u v : Value) : Prop := ∀ g, u.ownBlock = some g → v.ownBlock ≠ some g
theorem Apart.symm {u v : Value} (h : Apart u v) : Apart v u := fun g h1 h2 => h g h2 h1
/-- A text that is put behind a row of one's own, another row being apart from it. -/
theorem wpList_append_apart {ops : Array Oper} {rest : List Oper} {o : Oper} {a : Act} {Q : Exit → Act → World → Prop} {w : World} (hgd : o.guard = none) (s x : Operand)
    (ho : o.op = .call { callee := .builtin .append, args := #[s, x], argTypes := #[35, 35] }) (base : Nat) (v : Value) (n : Nat) (c : List Tx)
    (hs : a.eval s = v) (hown : w.ownsRow base 9 1 v n (c.map encT)) (u : Value) (m : Nat) (us : List Value) (hu : w.ownsRow base 9 1 u m us) (hap : Apart v u) (g : Nat) (y : Tx) (hx : a.eval x = .slice (some ⟨g, 0, none⟩) 1 1) (hc : w.cell? ⟨g, 0, none⟩ = some (encT y)) (hl : n ≤ 4398046511104) (hbase : base ≤ w.heap.size)
    (h : ∀ v' w', w'.ownsRow base 9 1 v' (n + 1) ((c ++ [y]).map encT) → w'.ownsRow base 9 1 u m us → Apart v' u → Below base w w' → Kept 9 w w' → wpList Tryd.prog ops Q rest (a.put o.dst v') w') : wpList Tryd.prog ops Q (o :: rest) a w := by
  obtain ⟨i0, hi, hz0, hz1, hz2⟩ := info_parts Tryd.info9
  refine wpList_append_lies w hgd s x 35 ho base 9 i0 _ 1 16 Tryd.under48 hi hz0 hz1 hz2 rfl (by decide) v n (c.map encT) hs hown ⟨g, 0, none⟩ 1 1 [encT y] hx (by simp) (fun j u hu => ?_) (by intro u hu; rw [List.mem_singleton] at hu; rw [hu]; rfl) (by decide) (by unfold maxLen; omega) (by omega) hbase w.heap.size rfl ?_
  · match j, hu with
    | 0, hu =>
      rw [Go.WideShapes.add_plain]
      simp at hu
      rw [← hu]; exact hc
    | j + 1, hu => simp at hu
  · intro g' cap' w' h1 h2 h3 h4
    refine h _ w' (by rw [List.map_append]; exact h1) (hu.kept h2 ?_) ?_ (row_grown hown (Below.refl _ _) h2 hbase) (kept_of_grown hown h2)
    · cases hob : u.ownBlock with
      | none => exact .inl rfl
      | some k => exact .inr fun e => hap k e.symm hob
    · intro k hk
      simp only [Value.ownBlock, Option.some.injEq] at hk
      subst hk
      rcases h3 with h3 | h3
      · exact hap _ h3
      · intro e
        have := (hu.lt _ e).2
        omega
end Go.Proofs.YtgmbkelmgolkpaaDoor
/- What parted answers. -/
namespace Go.Proofs.YtgmbkelmgolkpaaDoor
open Go.RowKit Go.Maps
set_option linter.unusedVariables false

theorem RlAt.row {w : World} {n cap : Nat} {a : Option Addr} {L : List (List Tx)} (h : RlAt w (.slice a n cap) L) {k : Nat} (hk : k < L.length) : ∃ g o a2 c2, a = some ⟨g, o, none⟩ ∧ g < w.heap.size ∧ w.cell? ⟨g, o + k, none⟩ = some (.slice a2 (L.getD k []).length c2) ∧ SrAt w w.heap.size (.slice a2 (L.getD k []).length c2) (L.getD k []) := by
  obtain ⟨a', cap', e, _, _, h3⟩ := h
  cases e
  obtain ⟨g, o, u, e1, e2, e3, e4⟩ := h3 k hk
  obtain ⟨a2, c2, rfl⟩ := e4.shape
  exact ⟨g, o, a2, c2, e1, e2, e3, e4⟩
def LxOk (L : List (List Tx)) : Prop := ∀ r ∈ L, TxOk r
theorem LxOk.get {L : List (List Tx)} (h : LxOk L) {k : Nat} (hk : k < L.length) : TxOk (L.getD k []) := h _ (by rw [List.getD_eq_getElem?_getD, List.getElem?_eq_getElem hk]; exact List.getElem_mem hk)
theorem pos_of {L : List (List Tx)} (h : ∀ r ∈ L, 1 ≤ r.length) {k : Nat} (hk : k < L.length) : 1 ≤ (L.getD k []).length := h _ (by rw [List.getD_eq_getElem?_getD, List.getElem?_eq_getElem hk]; exact List.getElem_mem hk)
theorem below_map {B b : Nat} {a w w' : World} (h : Below B a w) (hg : w.grownBy w' (some b)) (hb : B ≤ b) (hB : B ≤ w.heap.size) : Below B a w' := h.grown hg hB fun k hk => by cases hk; exact hb
set_option maxRecDepth 100000 in
set_option maxHeartbeats 6400000 in
theorem parted_any (L : List (List Tx)) (hok : LxOk L) (hpos : ∀ r ∈ L, 1 ≤ r.length) (hll : L.length ≤ 4398046511103) (hfl : L.flatten.length ≤ 4398046511103) (v : Value) (w : World) (h : RlAt w v L) : Calls Tryd.prog 42 #[v] w fun e w' => ∃ t o, e = .returned (.tuple #[t, o]) ∧ w'.ownsRow w.heap.size 9 1 t (teS L).length ((teS L).map encT) ∧ w'.ownsRow w.heap.size 9 1 o (otS L).length ((otS L).map encT) ∧ Below w.heap.size w w' := by
  have hmm := @run_makeMap Tryd.prog
  have HRL := hidD h
  obtain ⟨a, cap, rfl, hc1, hc2, _⟩ := h
  have HOK := hidD hok
  have HPO := hidD (fun k hk => pos_of hpos (k := k) hk)
  have HLL := hidD (lefts_len L)
  have HLG := hidD (fun r hr => lefts_get (L := L) (r := r) hr)
  have HPN := hidD (fun r hr => pos_next (L := L) (r := r) hr)
  have HPM := hidD (fun r hr => pos_mono L (r := r) hr)
  have HPA := hidD (pos_all L)
  have HPG := hidD (fun r j hr hj => pos_get (L := L) (r := r) (j := j) hr hj)
  have HTS : Hid (teS L = teTo L L.flatten.length ∧ otS L = otTo L L.flatten.length) := ⟨rfl, rfl⟩
  have HTO := hidD (fun k hk h => te_old (L := L) (k := k) hk h)
  have HTL := hidD (fun k hk h h1 => te_left (L := L) (k := k) hk h h1)
  have HTR := hidD (fun k hk h h1 => te_right (L := L) (k := k) hk h h1)
  have HTN := hidD (te_len L)
  have HT0 : Hid (teTo L 0 = [] ∧ otTo L 0 = []) := ⟨rfl, rfl⟩
  have HP0 := hidD (pos_zero L)
  have HFB := hidD hfl
  have HAL : Hid (∀ (w' : World) o, Below w'.heap.size w' (w'.alloc o)) := fun w' o => (Below.refl _ _).alloc (Nat.le_refl _) o
  have HM0 := hidD (MpAt.made w)
  have HLT : Hid (∀ k, k < (leftsS L).length → (leftsS L).take (k + 1) = (leftsS L).take k ++ [(leftsS L).getD k []]) := fun k hk => getD_take hk
  have HNT : Hid (∀ k, k < L.flatten.length → L.flatten.take (k + 1) = L.flatten.take k ++ [L.flatten.getD k []]) := fun k hk => getD_take hk
  have HLF : Hid ((leftsS L).take L.length = leftsS L) := by show _ = _; rw [← lefts_len L, List.take_length]
  clear hok hpos hfl
  generalize hQ : leftsS L = Q at *
  generalize hNN : L.flatten = N at *
  clear hQ hNN
  generalize hn : L.length = n at *
  have HN := hidD hn
  clear hn
  go_enter Tryd.func42, Tryd.ntmps42
  go_wp2
  go_loopw [15] (fun i wr => ∃ k : Nat, k ≤ n ∧ i = .int .i64 k ∧ MpAt wr w.heap.size k (cnS (Q.take k)) ∧ Below w.heap.size w wr) (fun i _ => n - (intOf i).toNat)
  case atStart => exact ⟨0, Nat.zero_le _, rfl, HM0.out.same fun x => by simp [cnS], HAL.out _ _⟩
  case round =>
    obtain ⟨k, hk, rfl, hmp, hbel⟩ := hrel
    have HMP := hidD hmp
    have HBW := hidD hbel
    by_cases hlt : k < n
    · have hlti : (k : Int) < n := by omega
      obtain ⟨g, o, a2, c2, rfl, hg, f0, hsr⟩ := HRL.out.row (k := k) (by rw [HN.out]; exact hlt)
      have hp1 := HPO.out k hlt
      obtain ⟨g2, o2, rfl, hg2, _, f1⟩ := hsr.cell (k := 0) (by omega)
      have f2 : wr.cell? ⟨g, o + k, none⟩ = _ := (hbel.cell (p := ⟨g, o + k, none⟩) hg).trans f0
      have f3 : wr.cell? ⟨g2, o2, none⟩ = _ := (hbel.cell (p := ⟨g2, o2, none⟩) hg2).trans f1
      have hxl := (HOK.out.get (by rw [HN.out]; exact hlt)).get (k := 0) (show 0 < (L.getD k []).length by omega)
      have hlen : (1 : Int) ≤ (L.getD k []).length := by omega
      have HQN := hidD (HLT.out k (by rw [HLL.out]; exact hlt))
      rw [HLG.out k hlt] at HQN
      unfold encT at f3
      clear f0 f1 hsr
      generalize (L.getD k []).getD 0 [] = x at *
      generalize (L.getD k []).length = ln at *
      have hlk := hmp.look hxl
      rw [cn_get] at hlk
      have hcb : (Q.take k).count x ≤ k := Nat.le_trans List.count_le_length (by rw [List.length_take]; omega)
      have HCN := hidD (cn_next (Q.take k) x)
      generalize (Q.take k).count x = ct at *
      have hcb1 : (ct : Int) ≤ 4398046511103 := by omega
      clear hmp hbel
      go_wp2_with (at_mapUpdate; refine wpList_map_put rfl _ _ _ rfl w.heap.size k (cnS (Q.take k)) rfl HMP.out (by omega) x ((ct : Int) + 1) hxl (by omega) (by omega) rfl rfl ?_; intro w6 hm6 hg6; have HM6 := hidD hm6; have HB6 := hidD (below_map HBW.out hg6 (Nat.le_refl _) HBW.out.size); clear hm6 hg6)
      go_roundw
      case rel => exact ⟨k + 1, by omega, by go_num, by rw [HQN.out]; exact HM6.out.same HCN.out, HB6.out⟩
      case measure => simp [intOf]; omega
    · obtain rfl : n = k := by omega
      rw [HLF.out] at HMP
      have HMQ := hidD HMP.out
      have HM1 := hidD (HMP.out.next (HAL.out wr (.map #[] 0)))
      have HM2 := hidD (MpAt.made wr)
      have HB1 := hidD (Below.next HBW.out (HAL.out wr (.map #[] 0)))
      have HNE : Hid (w.heap.size ≠ wr.heap.size) := by have := HMQ.out.lt; show _ ≠ _; omega
      have HSZ : Hid (w.heap.size ≤ wr.heap.size) := HBW.out.size
      clear hmp hbel
      go_wp2
      generalize hbk : wr.heap.size = b2 at *
      generalize hw1 : wr.alloc (.map #[] 0) = w1 at *
      clear hw1 hbk
      have HMX : Hid (∀ k, N.count (N.getD k []) = N.count (N.getD k [])) := fun _ => rfl
      go_loopw [2, 3, 29] (fun t o i wr => ∃ k : Nat, k ≤ n ∧ i = .int .i64 k ∧ MpAt wr w.heap.size n (cnS Q) ∧ MpAt wr b2 (posS L k) (cnS (N.take (posS L k))) ∧ wr.ownsRow w.heap.size 9 1 t (teTo L (posS L k)).length ((teTo L (posS L k)).map encT) ∧ wr.ownsRow w.heap.size 9 1 o (otTo L (posS L k)).length ((otTo L (posS L k)).map encT) ∧ Apart t o ∧ Below w.heap.size w wr) (fun _ _ i _ => n - (intOf i).toNat)
      case atStart =>
        refine ⟨0, Nat.zero_le _, rfl, HM1.out, ?_, ?_, ?_, ?_, HB1.out⟩
        · rw [HP0.out]; exact HM2.out.same fun x => by simp [cnS]
        · rw [HP0.out, HT0.out.1]; exact World.ownsRow_nil _ _ _ _
        · rw [HP0.out, HT0.out.2]; exact World.ownsRow_nil _ _ _ _
        · intro g hg; simp [Value.ownBlock] at hg
      case round =>
        obtain ⟨k, hk, rfl, hm1, hm2, ht, ho, hap, hbel⟩ := hrel
        have HP1 := hidD hm1
        have HP2 := hidD hm2
        have HTT := hidD ht
        have HOO := hidD ho
        have HAP := hidD hap
        have HBW := hidD hbel
        obtain ⟨wo, hwo⟩ : ∃ wo, wo = wr := ⟨_, rfl⟩
        subst hwo
        by_cases hlt : k < n
        · have hlti : (k : Int) < n := by omega
          obtain ⟨g, o, a2, c2, rfl, hg, f0, hsr⟩ := HRL.out.row (k := k) (by rw [HN.out]; exact hlt)
          have f2 : wo.cell? ⟨g, o + k, none⟩ = _ := (hbel.cell (p := ⟨g, o + k, none⟩) hg).trans f0
          have HSR := hidD hsr
          have HXO := hidD (HOK.out.get (k := k) (by rw [HN.out]; exact hlt))
          have HGK := hidD (fun j hj => HPG.out k j hlt hj)
          have HMK := hidD (HPM.out k hlt)
          have HNX := hidD (HPN.out k hlt)
          clear f0 hsr hm1 hm2 ht ho hap hbel
          generalize L.getD k [] = RW at *
          generalize hln : RW.length = ln at *
          have HLN := hidD hln
          clear hln
          have hlnb : ln ≤ 4398046511103 := by have := HMK.out; have := HFB.out; omega
          generalize posS L k = P at *
          obtain ⟨at0, ct0, hsh0⟩ := row_shape HTT.out
          obtain ⟨ao0, co0, hsh1⟩ := row_shape HOO.out
          subst hsh0
          subst hsh1
          go_wp2
          clear f2
          go_loopw [2, 3, 35] (fun t o i wr => ∃ j : Nat, j ≤ ln ∧ i = .int .i64 j ∧ MpAt wr w.heap.size n (cnS Q) ∧ MpAt wr b2 (P + j) (cnS (N.take (P + j))) ∧ wr.ownsRow w.heap.size 9 1 t (teTo L (P + j)).length ((teTo L (P + j)).map encT) ∧ wr.ownsRow w.heap.size 9 1 o (otTo L (P + j)).length ((otTo L (P + j)).map encT) ∧ Apart t o ∧ Below w.heap.size w wr) (fun _ _ i _ => ln - (intOf i).toNat)
          case atStart => exact ⟨0, Nat.zero_le _, rfl, HP1.out, HP2.out, HTT.out, HOO.out, HAP.out, HBW.out⟩
          case round =>
            obtain ⟨j, hj, rfl, hm1, hm2, ht, ho, hap, hbel⟩ := hrel
            have HJ1 := hidD hm1
            have HJ2 := hidD hm2
            have HJT := hidD ht
            have HJO := hidD ho
            have HJA := hidD hap
            have HJB := hidD hbel
            have HI2 := hidD hm2.is
            obtain ⟨at1, ct1, hsh0⟩ := row_shape ht
            obtain ⟨ao1, co1, hsh1⟩ := row_shape ho
            subst hsh0
            subst hsh1
            by_cases hjt : j < ln
            · have hjti : (j : Int) < ln := by omega
              obtain ⟨g2, o2, rfl, hg2, _, f1⟩ := HSR.out.cell (k := j) (by rw [HLN.out]; exact hjt)
              have f3 : wr.cell? ⟨g2, o2 + j, none⟩ = _ := (hbel.cell (p := ⟨g2, o2 + j, none⟩) hg2).trans f1
              have hxl := HXO.out.get (k := j) (by rw [HLN.out]; exact hjt)
              have HXE := hidD (HGK.out j hjt)
              have hPN : P + j < N.length := by have := HMK.out; omega
              have HTK := hidD (HNT.out (P + j) hPN)
              have HOJ := hidD (HTO.out (P + j) hPN)
              have HLJ := hidD (HTL.out (P + j) hPN)
              have HRJ := hidD (HTR.out (P + j) hPN)
              have hl1 := (HTN.out (P + j)).1
              have hl2 := (HTN.out (P + j)).2
              have hPb : P + j ≤ 4398046511103 := by have := HFB.out; omega
              rw [HXE.out] at HTK HOJ HLJ HRJ
              unfold encT at f3
              clear f1 hPN
              generalize RW.getD j [] = x at *
              have hlk := hm2.look hxl
              rw [cn_get] at hlk
              have hcb : (N.take (P + j)).count x ≤ P + j := Nat.le_trans List.count_le_length (by rw [List.length_take]; omega)
              have HCN := hidD (cn_next (N.take (P + j)) x)
              have HCM : Hid (x ∈ N.take (P + j) ↔ 0 < (N.take (P + j)).count x) := List.count_pos_iff.symm
              have HQM : Hid (x ∈ Q ↔ 0 < Q.count x) := List.count_pos_iff.symm
              have HNA : Hid (P + j + 1 = P + (j + 1)) := by show _ = _; omega
              rw [HNA.out] at HTK HOJ HLJ HRJ
              have HI1 := hidD hm1.is
              generalize (N.take (P + j)).count x = ct at *
              have hcb1 : (ct : Int) ≤ 4398046511103 := by omega
              generalize htl : (teTo L (P + j)).length = tl at *
              generalize hol : (otTo L (P + j)).length = ol at *
              have HTE := hidD htl
              have HOE := hidD hol
              clear hm1 hm2 ht ho hap hbel htl hol
              go_upto_region 15 with (at_mapUpdate; refine wpList_map_put rfl _ _ _ rfl b2 (P + j) (cnS (N.take (P + j))) rfl HJ2.out (by omega) x ((ct : Int) + 1) hxl (by omega) (by omega) rfl rfl ?_; intro w6 hm6 hg6; have HB6 := hidD (below_map HJB.out hg6 HSZ.out HJB.out.size); have HM6 := hidD hm6; have HM7 := hidD (HJ1.out.kept (hg6.block w.heap.size HJ1.out.lt (fun e => HNE.out (Option.some.inj e)))); have HT6 := hidD (row_mapped HJT.out HI2.out hg6); have HO6 := hidD (row_mapped HJO.out HI2.out hg6); clear hm6 hg6)
              have hlk6 := HM6.out.look hxl
              simp only [if_true, Option.getD_some] at hlk6
              have HM8 : Hid (MpAt w6 b2 (P + (j + 1)) (cnS (N.take (P + (j + 1))))) := by
                show MpAt _ _ _ _
                rw [HTK.out]
                exact HM6.out.same HCN.out
              have hlq := HM7.out.look hxl
              rw [cn_get] at hlq
              clear hlk
              have HAL6 := hidD (HAL.out w6)
              by_cases hc0 : ct = 0
              · have hcf : ¬ ((1 : Int) < (ct : Int) + 1) := by omega
                have hnm : x ∉ N.take (P + j) := fun hm => by have := HCM.out.1 hm; omega
                by_cases hq0 : 0 < Q.count x
                · obtain ⟨e1, e2⟩ := HLJ.out hnm (HQM.out.2 hq0)
                  have HE1 := hidD e1
                  have HE2 := hidD e2
                  clear e1 e2 hnm
                  generalize Q.count x = qc at *
                  have hqi : (0 : Int) < (qc : Int) := by omega
                  clear hq0
                  subst hc0
                  go_wp2_with (at_builtin; refine wpList_append_apart rfl _ _ rfl w.heap.size (.slice ao1 ol co1) ol (otTo L (P + j)) rfl (HO6.out.alloc _) (.slice at1 tl ct1) tl ((teTo L (P + j)).map encT) (HT6.out.alloc _) HJA.out.symm w6.heap.size x rfl (new_cell1 w6 (encT x) 9 0 _ rfl) (by omega) (by have := HB6.out.size; simp; omega) ?_; intro v8 w8 h81 h82 h83 h84 h85; have HX1 := hidD h81; have HX2 := hidD h82; have HX3 := hidD h83; have HX4 := hidD (Below.trans (Below.next HB6.out (HAL6.out _)) h84); have HX5 := hidD ((HM8.out.next (HAL6.out _)).stay h85); have HX6 := hidD ((HM7.out.next (HAL6.out _)).stay h85); clear h81 h82 h83 h84 h85)
                  go_roundw
                  case rel =>
                    refine ⟨j + 1, by omega, by go_num, HX6.out, HX5.out, ?_, ?_, HX3.out.symm, HX4.out⟩
                    · rw [HE1.out, HTE.out]; exact HX2.out
                    · rw [HE2.out, List.length_append, List.length_singleton, HOE.out]; exact HX1.out
                  case measure => simp [intOf]; omega
                · obtain ⟨e1, e2⟩ := HRJ.out hnm (fun hm => hq0 (HQM.out.1 hm))
                  have HE1 := hidD e1
                  have HE2 := hidD e2
                  clear e1 e2 hnm
                  generalize Q.count x = qc at *
                  have hqi : ¬ ((0 : Int) < (qc : Int)) := by omega
                  obtain rfl : qc = 0 := by omega
                  clear hq0 hqi
                  subst hc0
                  go_wp2_with (at_builtin; refine wpList_append_apart rfl _ _ rfl w.heap.size (.slice at1 tl ct1) tl (teTo L (P + j)) rfl (HT6.out.alloc _) (.slice ao1 ol co1) ol ((otTo L (P + j)).map encT) (HO6.out.alloc _) HJA.out w6.heap.size x rfl (new_cell1 w6 (encT x) 9 0 _ rfl) (by omega) (by have := HB6.out.size; simp; omega) ?_; intro v8 w8 h81 h82 h83 h84 h85; have HX1 := hidD h81; have HX2 := hidD h82; have HX3 := hidD h83; have HX4 := hidD (Below.trans (Below.next HB6.out (HAL6.out _)) h84); have HX5 := hidD ((HM8.out.next (HAL6.out _)).stay h85); have HX6 := hidD ((HM7.out.next (HAL6.out _)).stay h85); clear h81 h82 h83 h84 h85)
                  go_roundw
                  case rel =>
                    refine ⟨j + 1, by omega, by go_num, HX6.out, HX5.out, ?_, ?_, HX3.out, HX4.out⟩
                    · rw [HE1.out, List.length_append, List.length_singleton, HTE.out]; exact HX1.out
                    · rw [HE2.out, HOE.out]; exact HX2.out
                  case measure => simp [intOf]; omega
              · have hcf : (1 : Int) < (ct : Int) + 1 := by omega
                obtain ⟨e1, e2⟩ := HOJ.out (HCM.out.2 (by omega))
                have HE1 := hidD e1
                have HE2 := hidD e2
                clear e1 e2 hc0
                generalize Q.count x = qc at *
                go_wp2
                go_roundw
                case rel =>
                  refine ⟨j + 1, by omega, by go_num, HM7.out, HM8.out, ?_, ?_, HJA.out, HB6.out⟩
                  · rw [HE1.out, HTE.out]; exact HT6.out
                  · rw [HE2.out, HOE.out]; exact HO6.out
                case measure => simp [intOf]; omega
            · obtain rfl : ln = j := by omega
              clear hm1 hm2 ht ho hap hbel
              go_wp2
              go_roundw
              case rel => exact ⟨k + 1, by omega, by go_num, HJ1.out, by rw [HNX.out]; exact HJ2.out, by rw [HNX.out]; exact HJT.out, by rw [HNX.out]; exact HJO.out, HJA.out, HJB.out⟩
              case measure => simp [intOf]; omega
        · obtain rfl : n = k := by omega
          rw [HPA.out] at HTT HOO
          obtain ⟨at0, ct0, hsh0⟩ := row_shape HTT.out
          obtain ⟨ao0, co0, hsh1⟩ := row_shape HOO.out
          subst hsh0
          subst hsh1
          clear hm1 hm2 ht ho hap hbel
          go_wp2
          refine bodyPost_ret (v := .tuple #[.slice at0 (teTo L N.length).length ct0, .slice ao0 (otTo L N.length).length co0]) (by simp [results, Tryd.results42, go_sem]) rfl ?_
          exact ⟨_, _, rfl, by rw [HTS.out.1]; exact HTT.out, by rw [HTS.out.2]; exact HOO.out, HBW.out⟩
end Go.Proofs.YtgmbkelmgolkpaaDoor
