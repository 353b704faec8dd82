/- What Append of the program answers. -/
import Derived.Test.YtjhaaphgaplhlaaRow
import Derived.Laws.CopyOwn
namespace Go.Proofs.Ytjhaaphgaplhlaa
open Go.RowKit
set_option linter.unusedVariables false

/-- A sum's bytes behind a text. -/
def plcS (out : Bool) (cnt i : Nat) : Nat := if out then i else cnt - 1 - i
def tailS (out : Bool) (cnt s : Nat) : List UInt8 := (List.range cnt).map fun i => UInt8.ofNat (s / 2 ^ (plcS out cnt i * 8) % 256)
def appS (m : Md) (bs : List UInt8) : List UInt8 := bs ++ tailS m.out (m.w / 8) (sumS m bs)
theorem tail_length (out : Bool) (cnt s : Nat) : (tailS out cnt s).length = cnt := by simp [tailS]
theorem tail_get {out : Bool} {cnt s k : Nat} (h : k < cnt) : (tailS out cnt s).getD k 0 = UInt8.ofNat (s / 2 ^ (plcS out cnt k * 8) % 256) := by
  unfold tailS
  rw [List.getD_eq_getElem?_getD, List.getElem?_map, List.getElem?_range h]; rfl
def rowA (bs t : List UInt8) (cnt k : Nat) : List Value := (bs ++ t.take k).map encB ++ List.replicate (cnt - k) (.int .u8 0)
theorem rowA_length {bs t : List UInt8} {cnt k : Nat} (ht : t.length = cnt) (hk : k ≤ cnt) : (rowA bs t cnt k).length = bs.length + cnt := by simp [rowA]; omega
theorem rowA_at {bs t : List UInt8} {cnt k : Nat} (ht : t.length = cnt) (hk : k < cnt) : (rowA bs t cnt k)[bs.length + k]? = some (.int .u8 0) := by
  unfold rowA
  rw [List.getElem?_append_right (by simp; omega), List.getElem?_replicate, if_pos (by simp; omega)]
theorem rowA_set {bs t : List UInt8} {cnt k : Nat} (ht : t.length = cnt) (hk : k < cnt) : (rowA bs t cnt k).set (bs.length + k) (encB (t.getD k 0)) = rowA bs t cnt (k + 1) := by
  unfold rowA
  have hl : ((bs ++ t.take k).map encB).length = bs.length + k := by simp; omega
  rw [List.set_append_right _ _ (by omega), hl, Nat.sub_self, show cnt - k = (cnt - (k + 1)) + 1 by omega, List.replicate_succ, List.set_cons_zero, List.take_add_one, List.getElem?_eq_getElem (by omega), List.getD_eq_getElem?_getD, List.getElem?_eq_getElem (by omega)]
  rw [← List.append_assoc, List.map_append (l₂ := (some t[k]).toList), List.append_assoc]
  rfl
theorem row_full {w : World} {base e g n : Nat} {xs : List Value} (h : w.ownsRow base e 1 (.slice (some ⟨g, 0, none⟩) n n) n xs) : w.heap[g]? = some (.cells xs.toArray e (0, 0)) := by
  rcases h.2 with ⟨h', _⟩ | ⟨g', cap', cur, h', hb, hg, hnc, hcm, hcs, htake⟩
  · simp at h'
  · simp only [Value.slice.injEq, Option.some.injEq, Addr.mk.injEq, and_true, true_and] at h'
    obtain ⟨rfl, rfl⟩ := h'
    rw [hg]
    have : cur.toList = xs := by rw [← htake, List.take_of_length_le]; rw [Array.length_toList]; omega
    rw [← this]
theorem full_row {w : World} {base e g n : Nat} {xs : List Value} (hb : base ≤ g) (hl : xs.length = n) (hm : n ≤ maxLen) (h : w.heap[g]? = some (.cells xs.toArray e (0, 0))) : w.ownsRow base e 1 (.slice (some ⟨g, 0, none⟩) n n) n xs :=
  ⟨by omega, .inr ⟨g, n, xs.toArray, rfl, hb, h, Nat.le_refl _, hm, by simp [hl], by rw [Nat.mul_one, ← hl]; simp⟩⟩

set_option maxRecDepth 100000 in
set_option maxHeartbeats 400000 in
theorem append_model (m : Mw) (hm : MwOk m) (hv : ¬ m.Valid) (sl : Value) (w : World) : Calls Try.prog 32 #[m.v, sl] w fun e w' => e = .returned (.tuple #[.slice none 0 0, .int .i64 40]) ∧ Below w.heap.size w w' := by
  have HV := hidD (fun w => valid_any m hm false (by simp [hv]) w)
  clear hv hm
  obtain ⟨nm, W, P, I, inn, out, X⟩ := m
  simp only [Mw.v] at *
  have HB : Hid (∀ o, Below w.heap.size w (w.alloc o)) := fun o => (Below.refl w.heap.size w).alloc (Nat.le_refl _) o
  go_enter Try.func32, Try.ntmps32
  go_wp2_with (go_at_call 25; refine (HV.out _).mono ?_; rintro e w2 ⟨rfl, hb2⟩)
  refine bodyPost_ret (v := .tuple #[.slice none 0 0, .int .i64 40]) (by simp [results, Try.results32, go_sem]) rfl ⟨rfl, ?_⟩
  exact (HB.out _).trans (hb2.mono (by simp))

set_option maxRecDepth 100000 in
set_option maxHeartbeats 400000 in
theorem append_arg (m : Md) (hm : MdOk m) (ha : ¬ (m.w % 8 = 0 ∧ m.inn = m.out)) (sl : Value) (w : World) : Calls Try.prog 32 #[m.v, sl] w fun e w' => e = .returned (.tuple #[.slice none 0 0, .int .i64 1]) ∧ Below w.heap.size w w' := by
  have HV : Hid (∀ w, Calls Try.prog 25 #[m.v] w fun e w' => e = .returned (.bool true) ∧ Below w.heap.size w w') := fun w => valid_any ⟨m.name, m.w, m.P, m.I, m.inn, m.out, m.X⟩ hm.raw true (by simp [Md.valid m hm]) w
  have HA := hidD (MdAt.new m w 35)
  have HB0 : Hid (Below w.heap.size w (w.alloc (.cells m.cells 35))) := (Below.refl w.heap.size w).alloc (Nat.le_refl _) _
  have HSZ : Hid (w.heap.size < (w.alloc (.cells m.cells 35)).heap.size) := by show _ < _; simp
  have hhi := hm.hi
  clear hm
  obtain ⟨nm, ww, P, I, inn, out, X⟩ := m
  simp only [Md.v, Md.cells] at *
  obtain ⟨r, hr⟩ : ∃ r, ww % 8 = r := ⟨_, rfl⟩
  have hrem : (ww : Int).tmod 8 = (r : Int) := by rw [Int.tmod_eq_emod_of_nonneg (by omega)]; omega
  rw [hr] at ha
  clear hr
  by_cases h0 : r = 0
  · subst h0
    have hio : ¬ inn = out := fun h => ha ⟨rfl, h⟩
    have hrem : (ww : Int).tmod 8 = 0 := hrem
    clear ha
    cases inn <;> cases out
    any_goals exact absurd rfl hio
    all_goals go_enter Try.func32, Try.ntmps32
    all_goals go_wp2_with (go_at_call 25; refine (HV.out _).mono ?_; rintro e w2 ⟨rfl, hb2⟩; obtain ⟨k0, k1, k2, k3, k4, k5, k6⟩ := HA.out.below hb2 HSZ.out)
    all_goals refine bodyPost_ret (v := .tuple #[.slice none 0 0, .int .i64 1]) (by simp [results, Try.results32, go_sem]) rfl ⟨rfl, Below.next HB0.out hb2⟩
  · have hri : ¬ (r : Int) = 0 := by omega
    clear ha
    go_enter Try.func32, Try.ntmps32
    go_wp2_with (go_at_call 25; refine (HV.out _).mono ?_; rintro e w2 ⟨rfl, hb2⟩; obtain ⟨k0, k1, k2, k3, k4, k5, k6⟩ := HA.out.below hb2 HSZ.out)
    refine bodyPost_ret (v := .tuple #[.slice none 0 0, .int .i64 1]) (by simp [results, Try.results32, go_sem]) rfl ⟨rfl, Below.next HB0.out hb2⟩

set_option maxRecDepth 100000 in
set_option maxHeartbeats 1000000 in
theorem append_some (m : Md) (hm : MdOk m) (h8 : m.w % 8 = 0) (hio : m.inn = m.out) (bs : List UInt8) (hl : bs.length ≤ 140737488355327) (sl : Value) (w : World) (hs : ByAt w sl bs) : Calls Try.prog 32 #[m.v, sl] w fun e w' => ∃ g, e = .returned (.tuple #[.slice (some ⟨g, 0, none⟩) (bs.length + m.w / 8) (bs.length + m.w / 8), .int .i64 0]) ∧ w'.ownsRow w.heap.size 5 1 (.slice (some ⟨g, 0, none⟩) (bs.length + m.w / 8) (bs.length + m.w / 8)) (bs.length + m.w / 8) ((appS m bs).map encB) ∧ Below w.heap.size w w' := by
  have HV : Hid (∀ w, Calls Try.prog 25 #[m.v] w fun e w' => e = .returned (.bool true) ∧ Below w.heap.size w w') := fun w => valid_any ⟨m.name, m.w, m.P, m.I, m.inn, m.out, m.X⟩ hm.raw true (by simp [Md.valid m hm]) w
  have HS : Hid (∀ w', Below w.heap.size w w' → Calls Try.prog 50 #[m.v, sl] w' fun e w2 => e = .returned (.int .u64 (sumS m bs : Nat)) ∧ Below w'.heap.size w' w2) := fun w' hb => sumOf_any m hm bs (by omega) sl w' (hs.below hb (Nat.le_refl _))
  obtain ⟨sa, ca, rfl, hsh⟩ := hs.shape
  have HSH := hidD hsh
  have HA := hidD (MdAt.new m w 35)
  have HB0 : Hid (Below w.heap.size w (w.alloc (.cells m.cells 35))) := (Below.refl w.heap.size w).alloc (Nat.le_refl _) _
  have HSZ : Hid (w.heap.size < (w.alloc (.cells m.cells 35)).heap.size) := by show _ < _; simp
  have hS64 := Nat.lt_of_lt_of_le (sum_lt hm bs) (pow64 hm.hi)
  have hlo := hm.lo
  have hhi := hm.hi
  obtain ⟨cnt, hcnt⟩ : ∃ cnt, m.w / 8 = cnt := ⟨_, rfl⟩
  have hc0 : 0 < cnt := by omega
  have hc8 : cnt ≤ 8 := by omega
  have HAP : Hid (appS m bs = bs ++ tailS m.out cnt (sumS m bs)) := by show _ = _; rw [← hcnt]; rfl
  rw [hcnt]
  have hquo : (m.w : Int).tdiv 8 = (cnt : Int) := by rw [Int.tdiv_eq_ediv_of_nonneg (by omega)]; omega
  have hrem : (m.w : Int).tmod 8 = 0 := by rw [Int.tmod_eq_emod_of_nonneg (by omega)]; omega
  generalize appS m bs = AP at *
  generalize sumS m bs = S at *
  clear hm hs hsh hcnt h8
  obtain ⟨i0, hi, hz0, hz1, hz2⟩ := info_parts Try.info5
  have hi5 : (Try.prog.info? 5).map (·.size) = some 1 := by rw [hi]; simp [hz1]
  obtain ⟨nm, ww, P, I, inn, out, X⟩ := m
  simp only [Md.v, Md.cells] at *
  subst hio
  go_enter Try.func32, Try.ntmps32
  go_wp2_with (go_at_call 25; refine (HV.out _).mono ?_; rintro e w1 ⟨rfl, hb1⟩; obtain ⟨k0, k1, k2, k3, k4, k5, k6⟩ := HA.out.below hb1 HSZ.out; have HX1 := hidD (HA.out.below hb1 HSZ.out); have HG1 := hidD (Nat.lt_of_lt_of_le HSZ.out hb1.size); have HB1 := hidD (Below.next HB0.out hb1); clear hb1)
  clear k0 k1 k2 k3 k4 k5 k6
  have hcl : ∀ i : BW w1, MdAt i.v w.heap.size ⟨nm, ww, P, I, inn, inn, X⟩ := fun i => HX1.out.below i.below HG1.out
  have k0 := fun i => (hcl i).c0
  have k1 := fun i => (hcl i).c1
  have k2 := fun i => (hcl i).c2
  have k3 := fun i => (hcl i).c3
  have k4 := fun i => (hcl i).c4
  have k5 := fun i => (hcl i).c5
  have k6 := fun i => (hcl i).c6
  simp only at k0 k1 k2 k3 k4 k5 k6
  clear hcl
  refine wp_region_below (by kernel_rfl) (by kernel_rfl) ?_
  repeat (go_big_quiet_step ((go_at_call 50; exact Calls.below_of (HS.out _ (Below.next HB1.out (BW.below _))))))
  refine wpQuiet_nil ?_
  intro i
  clear k0 k1 k2 k3 k4 k5 k6
  have HX2 := hidD (HX1.out.below i.below HG1.out)
  have HG2 := hidD (Nat.lt_of_lt_of_le HG1.out i.below.size)
  have HB2 := hidD (Below.next HB1.out i.below)
  generalize i.v = w2 at *
  have hsrc : ∀ w', Below w.heap.size w w' → (0 < (bs.map encB).length → ∃ ad, sa = some ad ∧ ∀ j v, (bs.map encB)[j]? = some v → w'.cell? (ad.add j) = some v) := fun w' hb h0 => by
    have hpos : 0 < bs.length := by simpa using h0
    obtain ⟨g, off, rfl, hg, hc⟩ := HSH.out 0 hpos
    refine ⟨_, rfl, fun j v hv => ?_⟩
    rw [List.getElem?_map] at hv
    cases hj : bs[j]? with
    | none => rw [hj] at hv; cases hv
    | some y =>
      rw [hj] at hv
      have hlt := (List.getElem?_eq_some_iff.1 hj).1
      obtain ⟨g', off', e, hg', hc'⟩ := HSH.out j hlt
      cases e
      rw [Go.WideShapes.add_plain, hb.cell (p := ⟨g, off + j, none⟩) hg, hc', List.getD_eq_getElem?_getD, hj]
      simpa [encB] using hv
  have HSRC := hidD hsrc
  clear hsrc
  have hTL := tail_length inn cnt S
  obtain ⟨T, hT⟩ : ∃ T, tailS inn cnt S = T := ⟨_, rfl⟩
  have HTG : Hid (∀ k, k < cnt → T.getD k 0 = UInt8.ofNat (S / 2 ^ (plcS inn cnt k * 8) % 256)) := fun k hk => by rw [← hT]; exact tail_get hk
  rw [hT] at HAP hTL
  have HTL := hidD hTL
  clear hT hTL
  generalize hn : bs.length = n at *
  have HN := hidD hn
  clear hn
  have hNl : ((n + cnt : Nat) : Int) = (n : Int) + cnt := by omega
  have HSPL : Hid (splice (List.replicate (n + cnt) (Value.int .u8 0)) 0 (bs.map encB) = rowA bs T cnt 0) := by
    show _ = _
    have := HN.out
    simp [splice, rowA, this]
  go_wp2_with (first
    | (at_make; refine wpList_make_full _ rfl _ _ 22 rfl w2.heap.size 5 i0 (.int .u8 0) 1 Try.underlying22 hi hz0 hz1 _ _ _ _ (n + cnt) rfl rfl (by omega) (by omega) (by rw [hz2]; omega) (by unfold maxLen; omega) (Nat.le_refl _) ?_; intro w3 hown3 hg3; have hr3 := row_full hown3; rw [Nat.mul_one, show Value.cells (.int .u8 0) = #[.int .u8 0] from rfl, toList_madeCells_one] at hr3; have HR3 := hidD hr3; have HB3 : Hid (Below w2.heap.size w2 w3) := ((Below.refl w2.heap.size w2).grown hg3 (Nat.le_refl _) (fun k hk => by cases hk)); clear hown3 hg3 hr3)
    | (refine wpList_copy_splice rfl _ _ 22 22 rfl 5 Try.underlying22 hi5 (some ⟨w2.heap.size, 0, none⟩) sa (n + cnt) (n + cnt) n ca rfl rfl w2.heap.size 0 (List.replicate (n + cnt) (.int .u8 0)) 5 HR3.out (bs.map encB) (by have := HN.out; simp; omega) (fun h0 => ⟨rfl, HSRC.out _ (Below.next HB2.out HB3.out) h0⟩) (by have := HN.out; simp; omega) (bytes_oneCell bs) w2.heap.size w2 HB3.out (Nat.le_refl _) ?_; intro w4 hg4 hb4; have HB4 := hidD hb4; clear hb4))
  rw [HSPL.out] at hg4
  have HR4 := hidD hg4.out
  clear hg4
  generalize hgg : w2.heap.size = g at *
  have HGG := hidD hgg
  clear hgg
  go_loopw [40] (fun i wr => ∃ k : Nat, k ≤ cnt ∧ i = .int .i64 k ∧ wr.heap[g]? = some (.cells (rowA bs T cnt k).toArray 5 (0, 0)) ∧ Below g w2 wr) (fun i _ => cnt - (intOf i).toNat)
  case atStart => exact ⟨0, Nat.zero_le _, rfl, HR4.out, HB4.out⟩
  case round =>
    obtain ⟨k, hk, rfl, hrow, hbel⟩ := hrel
    have HBL := hidD hbel
    have HROW := hidD hrow
    obtain ⟨k0, k1, k2, k3, k4, k5, k6⟩ := HX2.out.below hbel HG2.out
    simp only at k0 k1 k2 k3 k4 k5 k6
    by_cases hlt : k < cnt
    · have hlti : (k : Int) < cnt := by omega
      have hnk : (n : Int) + k < n + cnt := by omega
      have hce : wr.cell? ⟨g, n + k, none⟩ = some (.int .u8 0) := by rw [cell_of_row _ _ _ _ _ _ hrow, List.getElem?_toArray, ← HN.out]; exact rowA_at HTL.out hlt
      have hfr : wr.frozen? ⟨g, n + k, none⟩ = false := frozen_of_row _ _ _ _ _ hrow
      obtain ⟨e, he⟩ : ∃ e, plcS inn cnt k * 8 = e := ⟨_, rfl⟩
      have hv : (S : Int) / 2 ^ e % 256 = (((T.getD k 0).toNat : Nat) : Int) := by
        have h1 : (S : Int) / 2 ^ e = ((S / 2 ^ e : Nat) : Int) := by simp
        rw [HTG.out k hlt, he, h1, UInt8.toNat_ofNat']
        omega
      have HNEW : Hid ((wr.setCell ⟨g, n + k, none⟩ (.int .u8 (((T.getD k 0).toNat : Nat) : Int))).heap[g]? = some (.cells (rowA bs T cnt (k + 1)).toArray 5 (0, 0))) := by
        show _ = _
        rw [heap_setCell_same wr g (n + k) _ _ _ hrow, ← rowA_set HTL.out hlt, ← HN.out]
        congr 2
        apply Array.toList_inj.1
        simp [encB]
      have he8 : e ≤ 64 := by
        rw [← he]; unfold plcS; split <;> omega
      have HE := hidD he
      clear hbel hrow he
      generalize (T.getD k 0).toNat = tv at *
      cases inn
      · have hp1 : (cnt : Int) - 1 - k = ((cnt - 1 - k : Nat) : Int) := by omega
        have hp2 : (((cnt - 1 - k : Nat) : Int)) * 8 = (e : Int) := by have := HE.out; unfold plcS at this; simp only [Bool.false_eq_true, if_false] at this; omega
        generalize cnt - 1 - k = q at *
        go_wp2_with fail
        go_roundw
        case rel => exact ⟨k + 1, by omega, by go_num, HNEW.out, HBL.out.setCell (p := ⟨g, n + k, none⟩) (Nat.le_refl _) _⟩
        case measure => simp [intOf]; omega
      · have hp2 : (k : Int) * 8 = (e : Int) := by have := HE.out; unfold plcS at this; simp only [if_true] at this; omega
        go_wp2_with fail
        go_roundw
        case rel => exact ⟨k + 1, by omega, by go_num, HNEW.out, HBL.out.setCell (p := ⟨g, n + k, none⟩) (Nat.le_refl _) _⟩
        case measure => simp [intOf]; omega
    · obtain rfl : k = cnt := by omega
      clear hrow
      go_wp2_with fail
      refine bodyPost_ret (v := .tuple #[.slice (some ⟨g, 0, none⟩) (n + k) (n + k), .int .i64 0]) (by simp [results, Try.results32, go_sem]) rfl ⟨g, by rw [HN.out], ?_, Below.next HB2.out (by rw [HGG.out]; exact hbel)⟩
      rw [HN.out]
      refine full_row (by rw [← HGG.out]; exact HB2.out.size) ?_ (by unfold maxLen; omega) ?_
      · have h1 := HTL.out; have h2 := HN.out
        rw [HAP.out]; simp; omega
      · rw [HROW.out, HAP.out]
        unfold rowA
        rw [Nat.sub_self, List.take_of_length_le (by rw [HTL.out]; exact Nat.le_refl _)]
        simp

theorem nil_by (w : World) : ByAt w (.slice none 0 0) [] := .inl ⟨rfl, none, 0, rfl, fun _ => rfl⟩
set_option maxRecDepth 100000 in
set_option maxHeartbeats 400000 in
theorem residue_none (m : Mw) (hm : MwOk m) (z : Int) (hz : z ≠ 0) (ha : ∀ sl w, Calls Try.prog 32 #[m.v, sl] w fun e w' => e = .returned (.tuple #[.slice none 0 0, .int .i64 z]) ∧ Below w.heap.size w w') (w : World) : Calls Try.prog 34 #[m.v] w fun e w' => e = .returned (.tuple #[.int .u64 0, .int .i64 z]) ∧ Below w.heap.size w w' := by
  have HA := hidD ha
  have HB : Hid (∀ o, Below w.heap.size w (w.alloc o)) := fun o => (Below.refl w.heap.size w).alloc (Nat.le_refl _) o
  clear hm ha
  have hzi : ¬ z = 0 := hz
  obtain ⟨nm, W, P, I, inn, out, X⟩ := m
  simp only [Mw.v] at *
  go_enter Try.func34, Try.ntmps34
  go_wp2_with (go_at_call 32; refine (HA.out _ _).mono ?_; rintro e w2 ⟨rfl, hb2⟩)
  refine bodyPost_ret (v := .tuple #[.int .u64 0, .int .i64 z]) (by simp [results, Try.results34, go_sem]) rfl ⟨rfl, Below.next (HB.out _) hb2⟩

def resS (m : Md) : Nat := sumS m (appS m []) ^^^ m.X
theorem appS_length (m : Md) (bs : List UInt8) : (appS m bs).length = bs.length + m.w / 8 := by rw [appS, List.length_append, tail_length]
set_option maxRecDepth 100000 in
set_option maxHeartbeats 400000 in
theorem residue_some (m : Md) (hm : MdOk m) (h8 : m.w % 8 = 0) (hio : m.inn = m.out) (w : World) : Calls Try.prog 34 #[m.v] w fun e w' => e = .returned (.tuple #[.int .u64 (resS m : Nat), .int .i64 0]) ∧ Below w.heap.size w w' := by
  have HAP := hidD (fun w => append_some m hm h8 hio [] (by simp) _ w (nil_by w))
  have HS := hidD (fun sl w' h => sumOf_any m hm (appS m []) (by rw [appS_length]; have := hm.hi; simp; omega) sl w' h)
  have hx : bits .xor .u64 (sumS m (appS m []) : Int) (m.X : Int) = ((resS m : Nat) : Int) := u64_xor_nat _ _ (Nat.lt_of_lt_of_le (sum_lt hm _) (pow64 hm.hi)) (Nat.lt_of_lt_of_le hm.X (pow64 hm.hi))
  have HRB : Hid (∀ w v base, World.ownsRow w base 5 1 v ([].length + m.w / 8) ((appS m []).map encB) → ByAt w v (appS m [])) := fun w v base h => row_by (base := base) (e := 5) (by rw [appS_length]; exact h)
  have HX := hidD (MdAt.new m w 35)
  have HB0 : Hid (Below w.heap.size w (w.alloc (.cells m.cells 35))) := (Below.refl w.heap.size w).alloc (Nat.le_refl _) _
  have HSZ : Hid (w.heap.size < (w.alloc (.cells m.cells 35)).heap.size) := by show _ < _; simp
  clear hm h8 hio
  generalize resS m = R at *
  generalize sumS m (appS m []) = S at *
  generalize appS m [] = AP at *
  generalize ([] : List UInt8).length + m.w / 8 = N at *
  obtain ⟨nm, ww, P, I, inn, out, X⟩ := m
  simp only [Md.v, Md.cells] at *
  go_enter Try.func34, Try.ntmps34
  go_wp2_with (go_at_call 32; refine (HAP.out _).mono ?_; rintro e w1 ⟨g, rfl, hown, hb1⟩; have HX1 := hidD (HX.out.below hb1 HSZ.out); have HG1 := hidD (Nat.lt_of_lt_of_le HSZ.out hb1.size); have HB1 := hidD (Below.next HB0.out hb1); have HR1 := hidD (HRB.out _ _ _ hown); clear hb1 hown)
  have hcl : ∀ i : BW w1, MdAt i.v w.heap.size ⟨nm, ww, P, I, inn, out, X⟩ := fun i => HX1.out.below i.below HG1.out
  have k0 := fun i => (hcl i).c0
  have k1 := fun i => (hcl i).c1
  have k2 := fun i => (hcl i).c2
  have k3 := fun i => (hcl i).c3
  have k4 := fun i => (hcl i).c4
  have k5 := fun i => (hcl i).c5
  have k6 := fun i => (hcl i).c6
  simp only at k0 k1 k2 k3 k4 k5 k6
  clear hcl
  refine wp_region_below (by kernel_rfl) (by kernel_rfl) ?_
  repeat (go_big_quiet_step ((go_at_call 50; exact Calls.below_of (HS.out _ _ (HR1.out.below (BW.below _) (Nat.le_refl _))))))
  refine wpQuiet_nil ?_
  intro i
  go_wp2_with fail
  refine bodyPost_ret (v := .tuple #[.int .u64 R, .int .i64 0]) (by simp [results, Try.results34, go_sem]) rfl ⟨rfl, Below.next HB1.out i.below⟩
end Go.Proofs.Ytjhaaphgaplhlaa
