/- Bytes that are put into an empty slice, as many as memory bears; what Trim of the document answers. -/
import Derived.Test.YtfngnajjlhnglaaEvl
namespace Go.Proofs.Ytfngnajjlhnglaa
open Go.RowKit
set_option linter.unusedVariables false

theorem sl_of_own {w : World} {base : Nat} {v : Value} {l : List UInt8} (h : w.ownsRow base 5 1 v l.length (l.map encB)) : SlAt w v l := by
  refine ⟨?_, row_by h⟩
  rcases h.2 with ⟨rfl, h0⟩ | ⟨g, cap, cur, rfl, hb, hg, hnc, hcm, _⟩
  · exact ⟨none, 0, by rw [h0], by omega, by omega⟩
  · exact ⟨_, cap, rfl, hnc, by unfold maxLen at hcm; omega⟩
theorem next_zero (m : Nat) (h : 0 < m) : Builtin.nextslicecap m 0 = m := by
  unfold Builtin.nextslicecap
  rw [if_pos (by omega)]
/-- Bytes that are put into an empty slice with no room. -/
theorem wpList_append_first {ops : Array Oper} {rest : List Oper} {o : Oper} {a : Act} {Q : Exit → Act → World → Prop} {w : World} (hgd : o.guard = none) (s x : Operand)
    (ho : o.op = .call { callee := .builtin .append, args := #[s, x], argTypes := #[49, 49] }) (b : Addr) (hs : a.eval s = .slice (some b) 0 0) (sl : Value) (bs : List UInt8) (hx : a.eval x = sl) (hsrc : ByAt w sl bs) (hpos : 0 < bs.length) (hl : bs.length ≤ 281474976710656)
    (h : ∀ v' w', SlAt w' v' bs → Below w.heap.size w w' → wpList Try.prog ops Q rest (a.put o.dst v') w') : wpList Try.prog ops Q (o :: rest) a w := by
  obtain ⟨i0, hi, hz0, hz1, hz2⟩ := info_parts Try.info5
  rcases hsrc with ⟨rfl, _⟩ | ⟨g, off, cap, rfl, hg, hc⟩
  · simp at hpos
  · have hr := run_append_grow (P := Try.prog) w 49 o.type 5 i0 (.int .u8 0) Try.underlying49 hi hz0 b 0 0 [] (by simp) (fun j v hv => by simp at hv) ⟨g, off, none⟩ bs.length cap (bs.map encB) (by rw [hz1]; simp) (fun j u hu => by
      rw [List.getElem?_map] at hu
      cases hj : bs[j]? with
      | none => rw [hj] at hu; cases hu
      | some y =>
        rw [hj] at hu
        have hlt := (List.getElem?_eq_some_iff.1 hj).1
        rw [Go.WideShapes.add_plain, hc j hlt, List.getD_eq_getElem?_getD, hj]
        exact hu) (by omega) (by omega) (by rw [Nat.zero_add, next_zero _ hpos, hz2]; omega)
    rw [Nat.zero_add] at hr
    have hge := grownCap_ge w bs.length 0 5
    have hle := grownCap_le_maxLen w bs.length 0 5 (by unfold maxLen; omega)
    refine wpList_plain hgd fun K hK => ?_
    unfold Oper.wp execOp
    simp only [ho, resolve, invoke, builtin, Sem.run_bind, Sem.run_pure, Result.andThen_ok, List.map_toArray, List.map_cons, List.map_nil, hs, hx, hr]
    refine hK _ _ (h _ _ ⟨⟨_, _, rfl, hge, by unfold maxLen at hle; omega⟩, .inr ⟨w.heap.size, 0, _, rfl, by simp, fun j hj => ?_⟩⟩ (((Below.refl w.heap.size w).drew).alloc (Nat.le_refl _) _))
    have e : (w.drew.alloc (.cells (#[] ++ (bs.map encB).toArray ++ Builtin.zeroCells (Value.int .u8 0).cells (grownCap w bs.length 0 5 - bs.length)) (5 : TypeId))).cell? ⟨w.drew.heap.size, 0 + j, none⟩ = _ := World.cell?_alloc_new _ _ _ _
    refine e.trans ?_
    rw [Nat.zero_add, Array.getElem?_append_left (by simpa using hj), Array.empty_append, List.getElem?_toArray, List.getElem?_map, List.getElem?_eq_getElem hj, List.getD_eq_getElem?_getD, List.getElem?_eq_getElem hj]; rfl

set_option maxRecDepth 100000 in
set_option maxHeartbeats 800000 in
theorem refTrim_any (bs : List UInt8) (hbl : bs.length ≤ 281474976710656) (vb : Value) (w : World) (hs : SlAt w vb bs) : Calls Try.prog 47 #[vb] w fun e w' => ∃ v, e = .returned v ∧ SlAt w' v (trimS bs) ∧ Below w.heap.size w w' := by
  obtain ⟨⟨a, cap, rfl, hcap, hl⟩, hby⟩ := hs
  have HSH := hidD hby.shape'.2
  have HT := hidD (fun n h1 h2 h3 => trim_at (l := bs) (n := n) h1 h2 h3)
  have HBY := hidD (fun (w' : World) (h : Below w.heap.size w w') n (hn : n ≤ bs.length) => (hby.next h).take (n := n) hn)
  have HAL : Hid (∀ o, Below w.heap.size w (w.alloc o)) := fun o => (Below.refl _ _).alloc (Nat.le_refl _) o
  clear hby
  generalize hn : bs.length = n at *
  have HN := hidD hn
  generalize hTT : trimS bs = T at *
  have HTT := hidD hTT
  clear hn hTT
  go_enter Try.func47, Try.ntmps47
  go_wp2_with fail
  go_loopw [3] (fun i wr => ∃ k : Nat, k ≤ n ∧ i = .int .i64 k ∧ (∀ j, k ≤ j → cf bs j = 0) ∧ wr = w) (fun i _ => (intOf i).toNat)
  case atStart => exact ⟨n, Nat.le_refl _, rfl, fun j hj => cf_ge (by have := HN.out; omega), rfl⟩
  case round =>
    obtain ⟨k, hk, rfl, hall, rfl⟩ := hrel
    have HA := hidD hall
    clear hall
    by_cases h0 : k = 0
    · subst h0
      have HE : Hid (T = []) := by
        show _ = _
        rw [HT.out 0 (Nat.zero_le _) HA.out (.inl rfl)]; simp
      have hcapi : (0 : Int) ≤ cap := by omega
      have HOW : Hid ((wr.alloc (.cells #[] (5 : TypeId))).ownsRow wr.heap.size 5 1 (.slice (some ⟨wr.heap.size, 0, none⟩) 0 0) 0 []) := full_row (Nat.le_refl _) rfl (by unfold maxLen; omega) (heap_alloc_last _ _)
      have HBY0 : Hid (ByAt (wr.alloc (.cells #[] (5 : TypeId))) (.slice a 0 cap) []) := by
        have := HBY.out _ (HAL.out (.cells #[] (5 : TypeId))) 0 (Nat.zero_le _)
        rw [List.take_zero] at this; exact this
      clear HT HA HBY
      go_wp2_with (at_builtin; refine wpList_append_by rfl _ _ rfl wr.heap.size (.slice (some ⟨wr.heap.size, 0, none⟩) 0 0) 0 [] rfl HOW.out (.slice a 0 cap) [] rfl HBY0.out (by simp) (by simp) ?_; intro v8 w8 hown8 hg8; have HO8 := hidD hown8; have HB8 : Hid (Below wr.heap.size wr w8) := (row_grown HOW.out (HAL.out _) hg8 (by simp)); clear hown8 hg8)
      go_ret
      exact ⟨_, rfl, by rw [HE.out]; exact sl_of_own HO8.out, HB8.out⟩
    · obtain ⟨m, rfl⟩ : ∃ m, k = m + 1 := ⟨k - 1, by omega⟩
      obtain ⟨g, off, rfl, hg, hc⟩ := HSH.out m (by omega)
      have hm1 : (((m + 1 : Nat) : Int)) - 1 = (m : Int) := by omega
      have hpos : (0 : Int) < ((m + 1 : Nat) : Int) := by omega
      have hml : (m : Int) < n := by omega
      have hkc : ((m + 1 : Nat) : Int) ≤ cap := by omega
      by_cases hz : cf bs m = 0
      · have HA2 : Hid (∀ j, m ≤ j → cf bs j = 0) := fun j hj => by
          by_cases he : j = m
          · subst he; exact hz
          · exact HA.out j (by omega)
        have hv : ((cf bs m).toNat : Int) = 0 := by rw [hz]; rfl
        rw [hv] at hc
        clear hz HA hv
        go_wp2_with fail
        go_roundw
        case rel => exact ⟨m, by omega, by congr 1, HA2.out, trivial⟩
        case measure => simp [intOf]
      · have hv := u8_ne hz
        have hvb := u8_bne hz
        have HE : Hid (T = bs.take (m + 1)) := by
          show _ = _
          rw [HT.out (m + 1) (by omega) HA.out (.inr (by simpa using hz))]
        have HEL : Hid (T.length = m + 1) := by
          have hn := HN.out
          show _ = _
          rw [HE.out, List.length_take]; omega
        have HBY1 : Hid (∀ o, ByAt (wr.alloc o) (.slice (some ⟨g, off, none⟩) (m + 1) cap) T) := fun o => by
          have := HBY.out _ (HAL.out o) (m + 1) (by have := HN.out; omega)
          rw [← HE.out] at this; exact this
        clear hz HA HT HBY
        generalize ((cf bs m).toNat : Int) = v at *
        go_wp2_with (at_builtin; refine wpList_append_first rfl _ _ rfl _ rfl (.slice (some ⟨g, off, none⟩) (m + 1) cap) T rfl (HBY1.out _) (by rw [HEL.out]; omega) (by rw [HEL.out]; omega) ?_; intro v8 w8 hs8 hb8; have HS8 := hidD hs8; have HB8 := hidD (Below.next (HAL.out _) hb8); clear hs8 hb8)
        go_ret
        exact ⟨_, rfl, HS8.out, HB8.out⟩
end Go.Proofs.Ytfngnajjlhnglaa
