/- Rows with room behind them; what the document's Trim answers where something is left, and its Eval, Plus and Times. -/
import Derived.Test.YtfngnajjlhnglaaApd
namespace Go.Proofs.Ytfngnajjlhnglaa
open Go.RowKit
set_option linter.unusedVariables false

/-- A block begins with these bytes. -/
def RowX (w : World) (g : Nat) (L : List UInt8) : Prop := ∃ cs : List Value, w.heap[g]? = some (.cells (L.map encB ++ cs).toArray (5 : TypeId) (0, 0))
theorem RowX.lt {w : World} {g : Nat} {L : List UInt8} (h : RowX w g L) : g < w.heap.size := by obtain ⟨cs, h⟩ := h; exact row_lt h
theorem RowX.cell {w : World} {g : Nat} {L : List UInt8} (h : RowX w g L) {k : Nat} (hk : k < L.length) : w.cell? ⟨g, k, none⟩ = some (.int .u8 ((L.getD k 0).toNat : Int)) := by
  obtain ⟨cs, h⟩ := h
  rw [cell_of_row _ _ _ _ _ _ h, List.getElem?_toArray, List.getElem?_append_left (by simpa using hk), List.getElem?_map, List.getElem?_eq_getElem hk, List.getD_eq_getElem?_getD, List.getElem?_eq_getElem hk]; rfl
theorem RowX.frozen {w : World} {g : Nat} {L : List UInt8} (h : RowX w g L) (k : Nat) : w.frozen? ⟨g, k, none⟩ = false := by obtain ⟨cs, h⟩ := h; exact frozen_of_row _ _ _ _ _ h
theorem RowX.set {w : World} {g : Nat} {L : List UInt8} (h : RowX w g L) {k : Nat} (hk : k < L.length) (v : UInt8) : RowX (w.setCell ⟨g, k, none⟩ (.int .u8 (v.toNat : Int))) g (L.set k v) := by
  obtain ⟨cs, h⟩ := h
  refine ⟨cs, ?_⟩
  rw [heap_setCell_same w g k _ _ _ h]
  congr 2
  apply Array.toList_inj.1
  rw [Array.toList_setIfInBounds, List.map_set]
  show (L.map encB ++ cs).set k (encB v) = _
  rw [List.set_append_left _ _ (by simpa using hk)]
theorem RowX.below {w w' : World} {g n : Nat} {L : List UInt8} (h : RowX w g L) (hb : Below n w w') (hn : g < n) : RowX w' g L := by obtain ⟨cs, h⟩ := h; exact ⟨cs, (hb.block g hn).trans h⟩
theorem RowX.next {w w' : World} {g : Nat} {L : List UInt8} (h : RowX w g L) (hb : Below w.heap.size w w') : RowX w' g L := h.below hb h.lt
theorem RowX.put {w : World} {g k : Nat} {L : List UInt8} (h : RowX w g L) (hn : g ≠ k) (i : Nat) (v : Value) : RowX (w.setCell ⟨k, i, none⟩ v) g L := by obtain ⟨cs, h⟩ := h; exact ⟨cs, (Below.heap_setCell w ⟨k, i, none⟩ v g hn).trans h⟩
theorem RowX.sl {w : World} {g : Nat} {L : List UInt8} (h : RowX w g L) {n cap : Nat} (hn : n = L.length) (hc : n ≤ cap) (hm : cap ≤ 9223372036854775807) : SlAt w (.slice (some ⟨g, 0, none⟩) n cap) L := by
  subst hn
  refine ⟨⟨_, _, rfl, hc, hm⟩, .inr ⟨g, 0, cap, rfl, h.lt, fun j hj => ?_⟩⟩
  rw [Nat.zero_add]; exact h.cell hj
theorem RowAt.x {w : World} {g : Nat} {L : List UInt8} (h : RowAt w g L) : RowX w g L := ⟨[], by rw [List.append_nil]; exact h⟩
/-- Bytes that are put into an empty slice with no room. -/
theorem wpList_append_fresh {ops : Array Oper} {rest : List Oper} {o : Oper} {a : Act} {Q : Exit → Act → World → Prop} {w : World} (hgd : o.guard = none) (s x : Operand)
    (ho : o.op = .call { callee := .builtin .append, args := #[s, x], argTypes := #[49, 49] }) (b : Addr) (hs : a.eval s = .slice (some b) 0 0) (sl : Value) (bs : List UInt8) (hx : a.eval x = sl) (hsrc : ByAt w sl bs) (hpos : 0 < bs.length) (hl : bs.length ≤ 281474976710656)
    (h : ∀ cap w', bs.length ≤ cap → cap ≤ 9223372036854775807 → RowX w' w.heap.size bs → Below w.heap.size w w' → wpList Try.prog ops Q rest (a.put o.dst (.slice (some ⟨w.heap.size, 0, none⟩) bs.length cap)) w') : wpList Try.prog ops Q (o :: rest) a w := by
  obtain ⟨i0, hi, hz0, hz1, hz2⟩ := info_parts Try.info5
  rcases hsrc with ⟨rfl, _⟩ | ⟨g, off, cap, rfl, hg, hc⟩
  · simp at hpos
  · have hr := run_append_grow (P := Try.prog) w 49 o.type 5 i0 (.int .u8 0) Try.underlying49 hi hz0 b 0 0 [] (by simp) (fun j v hv => by simp at hv) ⟨g, off, none⟩ bs.length cap (bs.map encB) (by rw [hz1]; simp) (fun j u hu => by
      rw [List.getElem?_map] at hu
      cases hj : bs[j]? with
      | none => rw [hj] at hu; cases hu
      | some y =>
        rw [hj] at hu
        have hlt := (List.getElem?_eq_some_iff.1 hj).1
        rw [Go.WideShapes.add_plain, hc j hlt, List.getD_eq_getElem?_getD, hj]
        exact hu) (by omega) (by omega) (by rw [Nat.zero_add, next_zero _ hpos, hz2]; omega)
    rw [Nat.zero_add] at hr
    have hge := grownCap_ge w bs.length 0 5
    have hle := grownCap_le_maxLen w bs.length 0 5 (by unfold maxLen; omega)
    refine wpList_plain hgd fun K hK => ?_
    unfold Oper.wp execOp
    simp only [ho, resolve, invoke, builtin, Sem.run_bind, Sem.run_pure, Result.andThen_ok, List.map_toArray, List.map_cons, List.map_nil, hs, hx, hr]
    refine hK _ _ (h _ _ hge (by unfold maxLen at hle; omega) ⟨(Builtin.zeroCells (Value.int .u8 0).cells (grownCap w bs.length 0 5 - bs.length)).toList, ?_⟩ (((Below.refl w.heap.size w).drew).alloc (Nat.le_refl _) _))
    have e : (w.drew.alloc (.cells (#[] ++ (bs.map encB).toArray ++ Builtin.zeroCells (Value.int .u8 0).cells (grownCap w bs.length 0 5 - bs.length)) (5 : TypeId))).heap[w.drew.heap.size]? = _ := heap_alloc_last _ _
    refine e.trans ?_
    congr 2
    apply Array.toList_inj.1
    simp

set_option maxRecDepth 100000 in
set_option maxHeartbeats 800000 in
theorem refTrim_some (bs : List UInt8) (hne : trimS bs ≠ []) (hbl : bs.length ≤ 281474976710656) (vb : Value) (w : World) (hs : SlAt w vb bs) : Calls Try.prog 47 #[vb] w fun e w' => ∃ g cap, e = .returned (.slice (some ⟨g, 0, none⟩) (trimS bs).length cap) ∧ w.heap.size ≤ g ∧ (trimS bs).length ≤ cap ∧ cap ≤ 9223372036854775807 ∧ RowX w' g (trimS bs) ∧ Below w.heap.size w w' := by
  obtain ⟨⟨a, cap, rfl, hcap, hl⟩, hby⟩ := hs
  have HSH := hidD hby.shape'.2
  have HT := hidD (fun n h1 h2 h3 => trim_at (l := bs) (n := n) h1 h2 h3)
  have HBY := hidD (fun (w' : World) (h : Below w.heap.size w w') n (hn : n ≤ bs.length) => (hby.next h).take (n := n) hn)
  have HAL : Hid (∀ o, Below w.heap.size w (w.alloc o)) := fun o => (Below.refl _ _).alloc (Nat.le_refl _) o
  clear hby
  generalize hn : bs.length = n at *
  have HN := hidD hn
  generalize hTT : trimS bs = T at *
  have HTT := hidD hTT
  have HNE := hidD hne
  clear hn hTT
  go_enter Try.func47, Try.ntmps47
  go_wp2_with fail
  go_loopw [3] (fun i wr => ∃ k : Nat, k ≤ n ∧ i = .int .i64 k ∧ (∀ j, k ≤ j → cf bs j = 0) ∧ wr = w) (fun i _ => (intOf i).toNat)
  case atStart => exact ⟨n, Nat.le_refl _, rfl, fun j hj => cf_ge (by have := HN.out; omega), rfl⟩
  case round =>
    obtain ⟨k, hk, rfl, hall, rfl⟩ := hrel
    have HA := hidD hall
    clear hall
    by_cases h0 : k = 0
    · subst h0
      have HE : Hid (T = []) := by
        show _ = _
        rw [HT.out 0 (Nat.zero_le _) HA.out (.inl rfl)]; simp
      exact absurd HE.out HNE.out
    · obtain ⟨m, rfl⟩ : ∃ m, k = m + 1 := ⟨k - 1, by omega⟩
      obtain ⟨g, off, rfl, hg, hc⟩ := HSH.out m (by omega)
      have hm1 : (((m + 1 : Nat) : Int)) - 1 = (m : Int) := by omega
      have hpos : (0 : Int) < ((m + 1 : Nat) : Int) := by omega
      have hml : (m : Int) < n := by omega
      have hkc : ((m + 1 : Nat) : Int) ≤ cap := by omega
      by_cases hz : cf bs m = 0
      · have HA2 : Hid (∀ j, m ≤ j → cf bs j = 0) := fun j hj => by
          by_cases he : j = m
          · subst he; exact hz
          · exact HA.out j (by omega)
        have hv : ((cf bs m).toNat : Int) = 0 := by rw [hz]; rfl
        rw [hv] at hc
        clear hz HA hv
        go_wp2_with fail
        go_roundw
        case rel => exact ⟨m, by omega, by congr 1, HA2.out, trivial⟩
        case measure => simp [intOf]
      · have hv := u8_ne hz
        have hvb := u8_bne hz
        have HE : Hid (T = bs.take (m + 1)) := by
          show _ = _
          rw [HT.out (m + 1) (by omega) HA.out (.inr (by simpa using hz))]
        have HEL : Hid (T.length = m + 1) := by
          have hn := HN.out
          show _ = _
          rw [HE.out, List.length_take]; omega
        have HBY1 : Hid (∀ o, ByAt (wr.alloc o) (.slice (some ⟨g, off, none⟩) (m + 1) cap) T) := fun o => by
          have := HBY.out _ (HAL.out o) (m + 1) (by have := HN.out; omega)
          rw [← HE.out] at this; exact this
        clear hz HA HT HBY
        generalize ((cf bs m).toNat : Int) = v at *
        go_wp2_with (at_builtin; refine wpList_append_fresh rfl _ _ rfl _ rfl (.slice (some ⟨g, off, none⟩) (m + 1) cap) T rfl (HBY1.out _) (by rw [HEL.out]; omega) (by rw [HEL.out]; omega) ?_; intro c8 w8 hc8 hd8 hx8 hb8; have HX8 := hidD hx8; have HC8 := hidD hc8; have HD8 := hidD hd8; have HB8 := hidD (Below.next (HAL.out _) hb8); clear hx8 hb8 hc8 hd8)
        go_ret
        exact ⟨wr.heap.size + 1, c8, by first | rfl | (rw [HEL.out]; rfl) | (simp [HEL.out]), Nat.le_succ _, HC8.out, HD8.out, by have := HX8.out; simpa using this, HB8.out⟩

theorem calls_below {f : Nat} {xs : Array Value} {w : World} {v : Value} (h : Calls Try.prog f xs w fun e w' => e = .returned v ∧ w' = w) : Calls Try.prog f xs w fun e w' => e = .returned v ∧ Below w.heap.size w w' :=
  h.mono fun e w' ⟨h1, h2⟩ => ⟨h1, by rw [h2]; exact Below.refl _ _⟩
set_option maxRecDepth 100000 in
set_option maxHeartbeats 800000 in
theorem refEval_any {P G : UInt8} {b : Nat} (p : List UInt8) (x : UInt8) (v : Value) (w : World) (hf : RfAt w b P G) (hp : SlAt w v p) : Calls Try.prog 33 #[.pointer (some ⟨b, 0, none⟩), v, .int .u8 (x.toNat : Int)] w fun e w' => e = .returned (.int .u8 ((evalS P x p).toNat : Int)) ∧ Below w.heap.size w w' := by
  obtain ⟨⟨a, cap, rfl, hc1, hc2⟩, hby⟩ := hp
  have HSH := hidD hby.shape'.2
  have HF := hidD hf
  have HST := hidD (fun k h => eval_step P x p k h)
  have HMU := hidD (fun (y : UInt8) w' (h : RfAt w' b P G) => calls_below (refMul_any y x w' h))
  generalize hR : ((evalS P x p).toNat : Int) = R
  have HR : Hid (((evalS P x (p.drop (p.length - p.length))).toNat : Int) = R) := by show _ = _; rw [Nat.sub_self, List.drop_zero]; exact hR
  have H0 : Hid (evalS P x (p.drop (p.length - 0)) = 0) := by show _ = _; rw [Nat.sub_zero, List.drop_length]; rfl
  clear hf hby hR
  generalize hn : p.length = n at *
  have HN := hidD hn
  clear hn
  go_enter Try.func33, Try.ntmps33
  go_wp2_with fail
  go_loopw [7, 8] (fun y i wr => ∃ k : Nat, k ≤ n ∧ i = .int .i64 ((n : Int) - 1 - k) ∧ y = .int .u8 ((evalS P x (p.drop (n - k))).toNat : Int) ∧ Below w.heap.size w wr) (fun _ i _ => (intOf i + 1).toNat)
  case atStart => exact ⟨0, Nat.zero_le _, by congr 1; omega, by rw [H0.out]; rfl, Below.refl _ _⟩
  case round =>
    obtain ⟨k, hk, rfl, rfl, hbel⟩ := hrel
    have HBL := hidD hbel
    by_cases hlt : k < n
    · obtain ⟨g, o, rfl, hg, hc⟩ := HSH.out (n - 1 - k) (by have := HN.out; omega)
      have hix : (n : Int) - 1 - k = ((n - 1 - k : Nat) : Int) := by omega
      have HIX := hidD hix
      have hixl : ((n - 1 - k : Nat) : Int) < n := by omega
      have hix0 : (0 : Int) ≤ ((n - 1 - k : Nat) : Int) := by omega
      have hcl : ∀ i : BW wr, i.v.cell? ⟨g, o + (n - 1 - k), none⟩ = some (.int .u8 ((cf p (n - 1 - k)).toNat : Int)) := fun i => by
        rw [i.below.cell (p := ⟨g, _, none⟩) (Nat.lt_of_lt_of_le hg hbel.size), hbel.cell (p := ⟨g, _, none⟩) hg]; exact hc
      have HM := hidD (fun i : BW wr => HMU.out (evalS P x (p.drop (n - k))) i.v ((HF.out.next hbel).next i.below))
      have hxx := u8_xor_nat (bm P (evalS P x (p.drop (n - k))) x).toNat (cf p (n - 1 - k)).toNat (u8_lt _) (u8_lt _)
      rw [← UInt8.toNat_xor] at hxx
      have HS := hidD (HST.out k (by have := HN.out; omega))
      have HNX : Hid (((n - 1 - k : Nat) : Int) - 1 = (n : Int) - 1 - ((k + 1 : Nat) : Int)) := by show _ = _; omega
      generalize hv : bm P (evalS P x (p.drop (n - k))) x ^^^ cf p (n - 1 - k) = v at *
      generalize (bm P (evalS P x (p.drop (n - k))) x).toNat = m1 at *
      generalize (evalS P x (p.drop (n - k))).toNat = m0 at *
      generalize (cf p (n - 1 - k)).toNat = m2 at *
      generalize n - 1 - k = d at *
      clear hv hbel hc hg hk
      go_wp2_with fail
      refine wp_region_below (by kernel_rfl) (by kernel_rfl) ?_
      repeat (go_big_quiet_step ((go_at_call 27; exact Calls.below_of (HM.out _))))
      refine wpQuiet_nil ?_
      intro i
      go_wp2_with fail
      go_roundw
      case rel => exact ⟨k + 1, by omega, by congr 1 <;> exact HNX.out, by rw [HS.out], Below.next HBL.out i.below⟩
      case measure => have := HIX.out; simp [intOf]; omega
    · obtain rfl : k = n := by omega
      rw [HR.out]
      have hneg : ¬ (0 : Int) ≤ (k : Int) - 1 - k := by omega
      clear hbel
      go_wp2_with fail
      go_ret
      exact ⟨rfl, HBL.out⟩
set_option maxRecDepth 100000 in
set_option maxHeartbeats 800000 in
theorem refEval_nil (p : List UInt8) (x : UInt8) (v : Value) (w : World) (hp : SlAt w v p) : Calls Try.prog 33 #[.pointer none, v, .int .u8 (x.toNat : Int)] w fun e w' => e = .returned (.int .u8 0) ∧ Below w.heap.size w w' := by
  obtain ⟨⟨a, cap, rfl, hc1, hc2⟩, hby⟩ := hp
  clear hby
  generalize hn : p.length = n at *
  clear hn
  go_enter Try.func33, Try.ntmps33
  go_wp2_with fail
  go_loopw [7, 8] (fun y i wr => ∃ z : Int, i = .int .i64 z ∧ y = .int .u8 0 ∧ wr = w) (fun _ i _ => 0)
  case atStart => exact ⟨_, rfl, rfl, rfl⟩
  case round =>
    obtain ⟨z, rfl, rfl, rfl⟩ := hrel
    go_wp2_with fail
    go_ret
    exact ⟨rfl, Below.refl _ _⟩
end Go.Proofs.Ytfngnajjlhnglaa
