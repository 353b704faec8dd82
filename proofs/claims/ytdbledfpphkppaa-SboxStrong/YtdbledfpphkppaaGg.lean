/- Texts of one proof, one behind the other. -/
import Derived.Test.YtdbledfpphkppaaPgw
import Derived.Test.YtdbledfpphkppaaRfb
import Derived.Test.YtdbledfpphkppaaAlv
import Derived.Laws.IdiomStrings
/- What the program's Linear answers. -/
namespace Go.Proofs.Ytdbledfpphkppaa
open Go.RowKit
set_option linter.unusedVariables false

theorem max3 (a b c : Int) (w : World) : Sem.run Try.prog (Builtin.max_ #[3, 3, 3] 3 #[.int .i64 a, .int .i64 b, .int .i64 c]) w = .ok (.int .i64 (max (max a b) c)) w := by
  have h : Sem.run Try.prog (Builtin.max_ #[3, 3, 3] 3 #[.int .i64 a, .int .i64 b, .int .i64 c]) w = .ok (.int .i64 (if c > if b > a then b else a then c else if b > a then b else a)) w := rfl
  rw [h]
  by_cases h1 : b > a
  · rw [if_pos h1]
    by_cases h2 : c > b
    · rw [if_pos h2, show max (max a b) c = c by omega]
    · rw [if_neg h2, show max (max a b) c = b by omega]
  · rw [if_neg h1]
    by_cases h2 : c > a
    · rw [if_pos h2, show max (max a b) c = c by omega]
    · rw [if_neg h2, show max (max a b) c = a by omega]
theorem off_two (t : Nat → Nat) {a b : Nat} (ha : a < 256) : max ((whS (sgS t b) 8 a).tdiv 2) ((-whS (sgS t b) 8 a).tdiv 2) = (offS t a b : Int) := by
  rw [wh_lin (f := sgS t b) (t := t) (b := b) ha (fun x => rfl)]
  unfold offS
  by_cases h : 128 ≤ linS t a b
  · rw [Int.tdiv_eq_ediv_of_nonneg (by omega), show -(2 * (linS t a b : Int) - 256) = -((2 * linS t a b - 256 : Nat) : Int) by omega, Int.neg_tdiv, Int.tdiv_eq_ediv_of_nonneg (by omega)]
    omega
  · rw [show (2 * (linS t a b : Int) - 256) = -((256 - 2 * linS t a b : Nat) : Int) by omega, Int.neg_neg, Int.neg_tdiv, Int.tdiv_eq_ediv_of_nonneg (by omega)]
    omega
set_option maxRecDepth 100000 in
set_option maxHeartbeats 800000 in
theorem pLin_any (l : List UInt8) (hl : l.length = 256) (v : Value) (w : World) (hv : ByAt w v l) : Calls Try.prog 35 #[v] w fun e w' => e = .returned (.tuple #[.int .i64 (strS (tbN l) : Nat), .int .i64 0]) ∧ Below w.heap.size w w' := by
  obtain ⟨a', cap, rfl, _⟩ := hv.shape
  have HI := hidD (fun w => right_any l.length cap a' w)
  rw [show decide (l.length = 256) = true by simpa using hl] at HI
  have HD : Hid (∀ B, B < 256 → ∀ wr, Below w.heap.size w wr → Calls Try.prog 60 #[.slice a' l.length cap, .int .u8 ((B : Nat) : Int)] wr fun e w' => e = .returned (.agg (rowZ .i64 256 (whS (sgS (tbN l) B) 8))) ∧ Below wr.heap.size wr w') := fun B hB wr hb => pTwice_any l hl B hB _ wr (hv.next hb)
  have HIX : Hid (∀ B k : Nat, k < 256 → ∀ w, (Instr.index 60 (.agg (rowZ .i64 256 (whS (sgS (tbN l) B) 8))) (.int .i64 (k : Int))).run Try.prog w = .ok (.int .i64 (whS (sgS (tbN l) B) 8 k)) w) := fun B k hk w => index256 _ k _ hk (rowZ_get .i64 256 _ k hk) w
  have HR : Hid (strS (tbN l) = bestL (tbN l) 255) := rfl
  generalize strS (tbN l) = R at *
  generalize tbN l = t at *
  generalize l.length = n at *
  clear hv hl
  go_enter Try.func35, Try.ntmps35
  go_wp2_with (go_at_call 50; refine (HI.out _).mono ?_; rintro e w1 ⟨rfl, rfl⟩)
  go_loopw [4, 5] (fun b i wr => ∃ k : Nat, k ≤ 255 ∧ i = .int .i64 (k + 1 : Nat) ∧ b = .int .i64 ((bestL t k : Nat) : Int) ∧ Below w1.heap.size w1 wr) (fun _ i _ => 256 - (intOf i).toNat)
  case atStart => exact ⟨0, Nat.zero_le _, rfl, rfl, Below.refl _ _⟩
  case round =>
    obtain ⟨j, hj, rfl, rfl, hbel⟩ := hrel
    have HBL := hidD hbel
    by_cases hlt : j < 255
    · have hlti : ((j + 1 : Nat) : Int) < 256 := by omega
      have hA : j + 1 < 256 := by omega
      have HLE := hidD (bestL_le t j)
      generalize hA' : j + 1 = B at *
      have hmod : (B : Int) % 256 = B := by omega
      have HA := hidD hA'
      have HDA := hidD (HD.out B hA wr hbel)
      clear hA' hbel
      have HIXA := hidD (HIX.out B)
      generalize hC : rowZ .i64 256 (whS (sgS t B) 8) = C at *
      clear hC
      go_wp2_with (go_at_call 60; refine HDA.out.mono ?_; rintro e w2 ⟨rfl, hb2⟩; have HB2 := hidD (Below.next HBL.out hb2); clear hb2)
      go_loopw [4, 19] (fun b i wr => ∃ k : Nat, k ≤ 256 ∧ i = .int .i64 k ∧ b = .int .i64 ((max (bestL t j) (mx (fun a => offS t a B) k) : Nat) : Int) ∧ wr = w2) (fun _ i _ => 256 - (intOf i).toNat)
      case atStart => exact ⟨0, Nat.zero_le _, rfl, by rw [mx, show max (bestL t j) 0 = bestL t j from by omega], rfl⟩
      case round =>
        obtain ⟨k, hk, rfl, rfl, rfl⟩ := hrel
        by_cases hlk : k < 256
        · have hlki : (k : Int) < 256 := by omega
          have hix := fun w => HIXA.out k hlk w
          have HM : Hid (max (bestL t j) (mx (fun a => offS t a B) (k + 1)) = max (max (bestL t j) (mx (fun a => offS t a B) k)) (offS t k B)) := by show max (bestL t j) (max (mx (fun a => offS t a B) k) (offS t k B)) = _; omega
          have hml : max (bestL t j) (mx (fun a => offS t a B) k) ≤ 128 := Nat.max_le.2 ⟨HLE.out, mx_le fun d _ => off_le _ _ _⟩
          have HOF := hidD (off_two t (a := k) (b := B) hlk)
          have hbd := wh_bound (sg_bound t B) 8 k
          have hb1 : -256 ≤ whS (sgS t B) 8 k := hbd.1
          have hb2 : whS (sgS t B) 8 k ≤ 256 := hbd.2
          clear hbd
          generalize max (bestL t j) (mx (fun a => offS t a B) k) = M at *
          generalize offS t k B = O at *
          generalize whS (sgS t B) 8 k = X at *
          have hO := HOF.out
          rw [Int.neg_tdiv] at hO
          have ht : -128 ≤ X.tdiv 2 ∧ X.tdiv 2 ≤ 128 := by
            by_cases h0 : 0 ≤ X
            · rw [Int.tdiv_eq_ediv_of_nonneg h0]; omega
            · rw [show X = -(-X) by omega, Int.neg_tdiv, Int.tdiv_eq_ediv_of_nonneg (by omega)]; omega
          have hwt : wrap64 (-X.tdiv 2) = -X.tdiv 2 := by unfold wrap64; omega
          have hwT : wrap64 (X.tdiv 2) = X.tdiv 2 := by unfold wrap64; omega
          obtain ⟨T, hdv⟩ : ∃ T, X.tdiv 2 = T := ⟨_, rfl⟩
          rw [hdv] at hwt hwT hO ht
          have hmx3 := fun w => max3 (M : Int) T (-T) w
          rw [show max (max (M : Int) T) (-T) = ((max M O : Nat) : Int) by omega, ← HM.out] at hmx3
          clear hO ht
          generalize hN : max (bestL t j) (mx (fun a => offS t a B) (k + 1)) = N at *
          have HN := hidD hN
          clear hN
          go_wp2_with fail
          go_roundw
          case rel => exact ⟨k + 1, by omega, by go_num, by rw [HN.out], by first | trivial | rfl⟩
          case measure => simp [intOf] <;> omega
        · obtain rfl : k = 256 := by omega
          have HBB : Hid ((max (bestL t j) (mx (fun a => offS t a B) 256) : Nat) = bestL t B) := by show _ = _; rw [← HA.out]; rfl
          rw [HBB.out]
          have hA2 := HA.out
          generalize hbs : bestL t B = M at *
          have HM := hidD hbs
          clear hbs
          go_wp2_with fail
          go_roundw
          case rel => exact ⟨B, by omega, by go_num, by rw [HM.out], HB2.out⟩
          case measure => simp [intOf]; omega
    · obtain rfl : j = 255 := by omega
      rw [← HR.out]
      clear hbel
      go_wp2_with fail
      refine bodyPost_ret (v := .tuple #[.int .i64 (R : Int), .int .i64 0]) (by simp [results, Try.results35, go_sem]) rfl ?_
      exact ⟨rfl, HBL.out⟩
end Go.Proofs.Ytdbledfpphkppaa
/- Bytes that are put into an empty slice, as many as memory bears. -/
namespace Go.Proofs.Ytdbledfpphkppaa
open Go.RowKit
set_option linter.unusedVariables false

theorem sl_of_own {w : World} {base : Nat} {v : Value} {l : List UInt8} (h : w.ownsRow base 5 1 v l.length (l.map encB)) : SlAt w v l := by
  refine ⟨?_, row_by h⟩
  rcases h.2 with ⟨rfl, h0⟩ | ⟨g, cap, cur, rfl, hb, hg, hnc, hcm, _⟩
  · exact ⟨none, 0, by rw [h0], by omega, by omega⟩
  · exact ⟨_, cap, rfl, hnc, by unfold maxLen at hcm; omega⟩
theorem next_zero (m : Nat) (h : 0 < m) : Builtin.nextslicecap m 0 = m := by
  unfold Builtin.nextslicecap
  rw [if_pos (by omega)]
/-- Bytes that are put into an empty slice with no room. -/
theorem wpList_append_first {ops : Array Oper} {rest : List Oper} {o : Oper} {a : Act} {Q : Exit → Act → World → Prop} {w : World} (hgd : o.guard = none) (s x : Operand)
    (ho : o.op = .call { callee := .builtin .append, args := #[s, x], argTypes := #[30, 30] }) (b : Addr) (hs : a.eval s = .slice (some b) 0 0) (sl : Value) (bs : List UInt8) (hx : a.eval x = sl) (hsrc : ByAt w sl bs) (hpos : 0 < bs.length) (hl : bs.length ≤ 281474976710656)
    (h : ∀ v' w', SlAt w' v' bs → Below w.heap.size w w' → wpList Try.prog ops Q rest (a.put o.dst v') w') : wpList Try.prog ops Q (o :: rest) a w := by
  obtain ⟨i0, hi, hz0, hz1, hz2⟩ := info_parts Try.info5
  rcases hsrc with ⟨rfl, _⟩ | ⟨g, off, cap, rfl, hg, hc⟩
  · simp at hpos
  · have hr := run_append_grow (P := Try.prog) w 30 o.type 5 i0 (.int .u8 0) Try.underlying30 hi hz0 b 0 0 [] (by simp) (fun j v hv => by simp at hv) ⟨g, off, none⟩ bs.length cap (bs.map encB) (by rw [hz1]; simp) (fun j u hu => by
      rw [List.getElem?_map] at hu
      cases hj : bs[j]? with
      | none => rw [hj] at hu; cases hu
      | some y =>
        rw [hj] at hu
        have hlt := (List.getElem?_eq_some_iff.1 hj).1
        rw [Go.WideShapes.add_plain, hc j hlt, List.getD_eq_getElem?_getD, hj]
        exact hu) (by omega) (by omega) (by rw [Nat.zero_add, next_zero _ hpos, hz2]; omega)
    rw [Nat.zero_add] at hr
    have hge := grownCap_ge w bs.length 0 5
    have hle := grownCap_le_maxLen w bs.length 0 5 (by unfold maxLen; omega)
    refine wpList_plain hgd fun K hK => ?_
    unfold Oper.wp execOp
    simp only [ho, resolve, invoke, builtin, Sem.run_bind, Sem.run_pure, Result.andThen_ok, List.map_toArray, List.map_cons, List.map_nil, hs, hx, hr]
    refine hK _ _ (h _ _ ⟨⟨_, _, rfl, hge, by unfold maxLen at hle; omega⟩, .inr ⟨w.heap.size, 0, _, rfl, by simp, fun j hj => ?_⟩⟩ (((Below.refl w.heap.size w).drew).alloc (Nat.le_refl _) _))
    have e : (w.drew.alloc (.cells (#[] ++ (bs.map encB).toArray ++ Builtin.zeroCells (Value.int .u8 0).cells (grownCap w bs.length 0 5 - bs.length)) (5 : TypeId))).cell? ⟨w.drew.heap.size, 0 + j, none⟩ = _ := World.cell?_alloc_new _ _ _ _
    refine e.trans ?_
    rw [Nat.zero_add, Array.getElem?_append_left (by simpa using hj), Array.empty_append, List.getElem?_toArray, List.getElem?_map, List.getElem?_eq_getElem hj, List.getD_eq_getElem?_getD, List.getElem?_eq_getElem hj]; rfl

theorem empty_ownB (w : World) : (w.alloc (.cells #[] (5 : TypeId))).ownsRow w.heap.size 5 1 (.slice (some ⟨w.heap.size, 0, none⟩) 0 0) 0 [] := full_row (Nat.le_refl _) rfl (by unfold maxLen; omega) (heap_alloc_last _ _)
/-- Bytes that are put into a new empty slice. -/
theorem wpList_append_fresh {ops : Array Oper} {rest : List Oper} {o : Oper} {a : Act} {Q : Exit → Act → World → Prop} {w : World} (hgd : o.guard = none) (s x : Operand)
    (ho : o.op = .call { callee := .builtin .append, args := #[s, x], argTypes := #[30, 30] }) (hs : a.eval s = .slice (some ⟨w.heap.size, 0, none⟩) 0 0) (sl : Value) (bs : List UInt8) (hx : a.eval x = sl) (hsrc : ByAt w sl bs) (hl : bs.length ≤ 281474976710656)
    (h : ∀ v' w', SlAt w' v' bs → Below w.heap.size w w' → wpList Try.prog ops Q rest (a.put o.dst v') w') : wpList Try.prog ops Q (o :: rest) a (w.alloc (.cells #[] (5 : TypeId))) := by
  have hb1 : Below w.heap.size w (w.alloc (.cells #[] (5 : TypeId))) := (Below.refl _ _).alloc (Nat.le_refl _) _
  by_cases h0 : 0 < bs.length
  · exact wpList_append_first hgd s x ho ⟨w.heap.size, 0, none⟩ hs sl bs hx (hsrc.next hb1) h0 hl fun v' w' h1 h2 => h v' w' h1 (Below.next hb1 h2)
  · have hn : bs = [] := List.eq_nil_of_length_eq_zero (by omega)
    subst hn
    refine wpList_append_by hgd s x ho w.heap.size _ 0 [] hs (empty_ownB w) sl [] hx (hsrc.next hb1) (by simp) (by simp) ?_
    intro v' w' h1 h2
    exact h v' w' (sl_of_own h1) (row_grown (empty_ownB w) hb1 h2 (by simp))
end Go.Proofs.Ytdbledfpphkppaa
/- SboxGreatest, walked. -/
namespace Go.Proofs.Ytdbledfpphkppaa
open Go.RowKit
set_option linter.unusedVariables false

theorem low_call' {f : FuncId} {args : Array Value} {w : World} {v : Value} (h : Calls Try.prog f args w fun e w' => e = .returned v ∧ w' = w) : Calls Try.prog f args w fun e w' => e = .returned v ∧ Below w.heap.size w w' := h.mono fun e w' h => ⟨h.1, by rw [h.2]; exact Below.refl _ _⟩
/- what is told of a table -/
def tell (l : List UInt8) (n : Int) : Value := if l.length = 256 then .tuple #[.int .i64 n, .int .i64 0] else .tuple #[.int .i64 0, .int .i64 91]
theorem pUni_tell (l : List UInt8) (v : Value) (w : World) (hv : ByAt w v l) : Calls Try.prog 33 #[v] w fun e w' => e = .returned (tell l (uniS (tbN l) : Nat)) ∧ Below w.heap.size w w' := by
  unfold tell; split
  · rename_i h; exact pUni_any l h v w hv
  · rename_i h; exact pUni_out l h v w hv
theorem refUni_tell (l : List UInt8) (v : Value) (w : World) (hv : ByAt w v l) : Calls Try.prog 34 #[v] w fun e w' => e = .returned (tell l (uniS (tbN l) : Nat)) ∧ Below w.heap.size w w' := by
  unfold tell; split
  · rename_i h; exact refUni_any l h v w hv
  · rename_i h; exact low_call' (refUni_out l h v w hv)
theorem pLin_tell (l : List UInt8) (v : Value) (w : World) (hv : ByAt w v l) : Calls Try.prog 35 #[v] w fun e w' => e = .returned (tell l (strS (tbN l) : Nat)) ∧ Below w.heap.size w w' := by
  unfold tell; split
  · rename_i h; exact pLin_any l h v w hv
  · rename_i h; exact pLin_out l h v w hv
theorem refLin_tell (l : List UInt8) (v : Value) (w : World) (hv : ByAt w v l) : Calls Try.prog 36 #[v] w fun e w' => e = .returned (tell l (strS (tbN l) : Nat)) ∧ Below w.heap.size w w' := by
  unfold tell; split
  · rename_i h; exact refLin_any l h v w hv
  · rename_i h; exact low_call' (refLin_out l h v w hv)
theorem tell_is (l : List UInt8) (n : Int) : ∃ x y : Int, tell l n = .tuple #[.int .i64 x, .int .i64 y] := by
  unfold tell; split
  · exact ⟨_, _, rfl⟩
  · exact ⟨_, _, rfl⟩
set_option maxRecDepth 100000 in
set_option maxHeartbeats 1600000 in
theorem greatest_any (l : List UInt8) (hl : l.length ≤ 281474976710656) (v : Value) (w : World) (hv : ByAt w v l) : Calls Try.prog 5 #[v] w fun e w' => e = .returned (.bool true) ∧ Below w.heap.size w w' := by
  have HV := hidD hv
  have H1 := hidD (fun w v h => pUni_tell l v w h)
  have H2 := hidD (fun w v h => refUni_tell l v w h)
  have H3 := hidD (fun w v h => pLin_tell l v w h)
  have H4 := hidD (fun w v h => refLin_tell l v w h)
  have HA := hidD (fun w => alive_any w)
  obtain ⟨x1, y1, e1⟩ := tell_is l (uniS (tbN l) : Nat)
  obtain ⟨x2, y2, e2⟩ := tell_is l (strS (tbN l) : Nat)
  rw [e1] at H1 H2
  rw [e2] at H3 H4
  have HCV := hidD (fun (w' : World) (v' : Value) (h : ByAt w' v' l) => conv_by h)
  clear e1 e2 hv
  go_enter Try.func5, Try.ntmps5
  go_wp2_with (first
    | (at_builtin; refine wpList_append_fresh rfl _ _ rfl rfl v l rfl HV.out hl ?_; intro vo w1 hs1 hb1; have HS := hidD hs1; have HB1 := hidD hb1; have HV1 := hidD (HV.out.next hb1); clear hs1 hb1)
    | (go_at_call 33; refine (H1.out _ _ HS.out.by').mono ?_; rintro e w2 ⟨rfl, hb2⟩; have HS2 := hidD (HS.out.by'.next hb2); have HV2 := hidD (HV1.out.next hb2); have HB2 := hidD (Below.next HB1.out hb2); clear hb2)
    | (go_at_call 34; refine (H2.out _ _ HV2.out).mono ?_; rintro e w3 ⟨rfl, hb3⟩; have HS3 := hidD (HS2.out.next hb3); have HV3 := hidD (HV2.out.next hb3); have HB3 := hidD (Below.next HB2.out hb3); clear hb3)
    | (go_at_call 35; refine (H3.out _ _ HS3.out).mono ?_; rintro e w4 ⟨rfl, hb4⟩; have HS4 := hidD (HS3.out.next hb4); have HV4 := hidD (HV3.out.next hb4); have HB4 := hidD (Below.next HB3.out hb4); clear hb4)
    | (go_at_call 36; refine (H4.out _ _ HV4.out).mono ?_; rintro e w5 ⟨rfl, hb5⟩; have HB5 := hidD (Below.next HB4.out hb5); have hcv1 := HCV.out _ _ (HS4.out.next hb5); have hcv2 := HCV.out _ _ (HV4.out.next hb5); clear hb5)
    | (go_at_call 23; refine (HA.out _).mono ?_; rintro e w6 ⟨rfl, hb6⟩; have HB6 := hidD (Below.next HB5.out hb6); clear hb6))
  go_ret
  exact ⟨rfl, HB6.out⟩
end Go.Proofs.Ytdbledfpphkppaa
