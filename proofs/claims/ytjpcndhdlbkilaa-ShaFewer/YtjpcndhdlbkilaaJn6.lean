/- What Stretch of sha answers. -/
import Derived.Test.YtjpcndhdlbkilaaJn5
namespace Go.Proofs.Ytjpcndhdlbkilaa
open Go.RowKit
set_option linter.unusedVariables false

theorem undef_boolS {b : Bool} (h : some undef = some (Value.bool b)) : False := by injection h with h1; cases h1
set_option maxRecDepth 100000 in
theorem newKeyed_no (x : Int) (h : x ≠ 224 ∧ x ≠ 256 ∧ x ≠ 384 ∧ x ≠ 512) (key : Value) (w : World) : Calls Try.prog 34 #[.int .i64 x, key] w fun e w' => e = .returned (.tuple #[.agg #[.pointer none, .pointer none], .int .i64 1]) ∧ Below w.heap.size w w' := by
  have HBG : Hid (∀ w, Calls Try.prog 16 #[.int .i64 x] w fun e w' => e = .returned (.tuple #[.pointer none, .int .i64 1]) ∧ w' = w) := fun w => begin_no x h w
  obtain ⟨hz, hsz⟩ := zero_of_info Try.zero75z
  have HI : Hid ((Try.prog.info? 75).map (·.size) = some 2) := hsz
  have R0 : Hid ((w.alloc (.cells #[.pointer none, .pointer none] (75 : TypeId))).heap[w.heap.size]? = some (.cells #[.pointer none, .pointer none] (75 : TypeId) (0, 0))) := heap_alloc_last _ _
  have B0 : Hid (∀ cs, Below w.heap.size w ((w.alloc (.cells #[.pointer none, .pointer none] (75 : TypeId))).setRow w.heap.size cs)) := fun cs => below_setRow ((Below.refl _ _).alloc (Nat.le_refl _) _) (Nat.le_refl _) cs
  clear h hsz
  go_enter Try.func34, Try.ntmps34
  go_wp2_with (first | (go_at_call 16; refine (HBG.out _).mono ?_; rintro e wx ⟨rfl, hx⟩; subst wx) | (refine wpList_store_row rfl 75 _ _ rfl w.heap.size #[.pointer none, .pointer none] rfl rfl 75 #[.pointer none, .pointer none] R0.out HI.out rfl (by simp [Value.oneCell']) ?_))
  refine bodyPost_ret (v := .tuple #[.agg #[.pointer none, .pointer none], .int .i64 1]) ?_ rfl ?_
  · exact res_pair (p := 4) (u := 5) (by kernel_rfl) _ _ w.heap.size _ rfl (setRow_heap _ _ _ _ _ _ R0.out) Try.underlying75 HI.out
  · exact ⟨rfl, B0.out _⟩
/- the walk up to the checks -/
set_option maxRecDepth 100000 in
set_option maxHeartbeats 1600000 in
theorem stretch_bad (x : Int) (key salt : List UInt8) (hKl : key.length ≤ 4611686018427387904) (aK aS : Option Addr) (cK cS : Nat) (rd z e1 : Int) (w : World) (hbK : ByAt w (.slice aK key.length cK) key)
    (h : (e1 = 1 ∧ x ≠ 224 ∧ x ≠ 256 ∧ x ≠ 384 ∧ x ≠ 512) ∨ (∃ k : Nat, Kind k ∧ x = (k : Int) ∧ ((e1 = 1 ∧ rd < 1) ∨ (e1 = 1 ∧ ¬ rd < 1 ∧ z < 0) ∨ (e1 = 3 ∧ ¬ rd < 1 ∧ ¬ z < 0 ∧ 1024 < rd) ∨ (e1 = 3 ∧ ¬ rd < 1 ∧ ¬ z < 0 ∧ ¬ 1024 < rd ∧ 1024 < z)))) : Calls Try.prog 20 #[.int .i64 x, .slice aK key.length cK, .slice aS salt.length cS, .int .i64 rd, .int .i64 z] w fun e w' => e = .returned (.tuple #[.slice none 0 0, .int .i64 e1]) ∧ Below w.heap.size w w' := by
  have HNK : Hid (∀ w, ByAt w (.slice aK key.length cK) key → Calls Try.prog 34 #[.int .i64 x, .slice aK key.length cK] w fun e w' => ∃ p1 p2 : Option Addr, e = .returned (.tuple #[.agg #[.pointer p1, .pointer p2], .int .i64 (if x ≠ 224 ∧ x ≠ 256 ∧ x ≠ 384 ∧ x ≠ 512 then 1 else 0)]) ∧ Below w.heap.size w w') := fun w hb => by
    rcases kind_or x with ⟨k, hk, rfl⟩ | hno
    · refine (newKeyed_any k hk key hKl aK cK w hb).mono fun e w' ⟨g1, g2, q1, _, _, _, _, _, q7⟩ => ⟨some ⟨g1, 0, none⟩, some ⟨g2, 0, none⟩, ?_, q7⟩
      rw [if_neg (by rcases hk with rfl | rfl | rfl | rfl <;> simp)]; exact q1
    · exact (newKeyed_no x hno _ w).mono fun e w' ⟨q1, q2⟩ => ⟨none, none, by rw [if_pos hno]; exact q1, q2⟩
  have HKN : Hid (∀ k : Nat, Kind k → ¬ ((k : Int) ≠ 224 ∧ (k : Int) ≠ 256 ∧ (k : Int) ≠ 384 ∧ (k : Int) ≠ 512)) := fun k hk => by rcases hk with rfl | rfl | rfl | rfl <;> simp
  obtain ⟨hz, hsz⟩ := zero_of_info Try.zero75z
  have HI : Hid (∀ x y : Value, (Try.prog.info? 75).map (·.size) = some (#[x, y] : Array Value).size) := fun _ _ => hsz
  obtain ⟨t1, t2, t3, t4⟩ := two_blocks2 w #[.slice aS salt.length cS] #[.int .i64 rd] 22 3
  have T2 := hidD t2
  have T3 := hidD t3
  have YK := hidD hbK
  have HH := hidD h
  clear hsz hbK t1 t2 t3 t4 h
  generalize key.length = LK at *
  generalize salt.length = LS at *
  generalize hER : (if x ≠ 224 ∧ x ≠ 256 ∧ x ≠ 384 ∧ x ≠ 512 then (1 : Int) else 0) = ER at *
  have HER := hidD hER
  clear hER
  go_enter Try.func20, Try.ntmps20
  go_wp2_with fail
  go_at_call 34
  refine (HNK.out _ (YK.out.next T3.out)).mono ?_
  rintro e w1 ⟨p1, p2, rfl, hx1⟩
  go_upto_region 2 with (refine wpList_store_row rfl 75 _ _ rfl w1.heap.size #[.pointer p1, .pointer p2] rfl rfl 75 #[.pointer none, .pointer none] (heap_alloc_last _ _) (HI.out _ _) rfl (by simp [Value.oneCell']) ?_)
  obtain ⟨W2, hW2⟩ : ∃ W2 : World, W2 = (w1.alloc (.cells #[.pointer none, .pointer none] (75 : TypeId))).setRow w1.heap.size #[.pointer p1, .pointer p2] := ⟨_, rfl⟩
  refine at_world hW2 ?_
  have hx2 : Below w1.heap.size w1 W2 := by rw [hW2]; exact below_setRow ((Below.refl _ _).alloc (Nat.le_refl _) _) (Nat.le_refl _) _
  have hx12 := Below.next hx1 hx2
  obtain ⟨cr, _⟩ := cell1 ((hx12.block _ (row_lt T2.out)).trans T2.out)
  have B2 := hidD (Below.next T3.out hx12)
  clear hx1 hx2 hx12 hW2 HNK YK T2 T3
  rcases HH.out with ⟨h1, hx⟩ | ⟨k, hk, hxk, hc⟩
  · have hE := HER.out
    rw [if_pos hx] at hE
    subst hE
    subst h1
    clear HER HH HKN hx
    go_wp2_with fail
    go_ret2
    exact ⟨rfl, B2.out⟩
  · have hE := HER.out
    rw [hxk, if_neg (HKN.out k hk)] at hE
    subst hE
    clear HER HH HKN
    rcases hc with ⟨h1, h2⟩ | ⟨h1, h2, h3⟩ | ⟨h1, h2, h3, h4⟩ | ⟨h1, h2, h3, h4, h5⟩
    all_goals
      subst h1
      go_wp2_with fail
      all_goals try (apply False.elim; apply undef_boolS; assumption)
      go_ret2
      exact ⟨rfl, B2.out⟩
set_option maxRecDepth 100000 in
set_option maxHeartbeats 1600000 in
theorem stretch_ok (k : Nat) (hk : Kind k) (key salt : List UInt8) (hKl : key.length ≤ 4611686018427387904) (hSl : salt.length ≤ 4611686018427387904) (r : Nat) (hr : r ≤ 1023) (n : Nat) (hn : n ≤ 1024) (aK aS : Option Addr) (cK cS : Nat) (w : World) (hbK : ByAt w (.slice aK key.length cK) key) (hbS : ByAt w (.slice aS salt.length cS) salt) : Calls Try.prog 20 #[.int .i64 (k : Int), .slice aK key.length cK, .slice aS salt.length cS, .int .i64 ((r : Int) + 1), .int .i64 (n : Int)] w fun e w' => ∃ g, e = .returned (.tuple #[.slice (some ⟨g, 0, none⟩) n n, .int .i64 0]) ∧ w.heap.size ≤ g ∧ RowZ w' g .u8 n 5 (fun i => ((sbS (k / 8) (stT k key salt r) i).toNat : Int)) ∧ Below w.heap.size w w' := by
  have HNK : Hid (∀ w, ByAt w (.slice aK key.length cK) key → Calls Try.prog 34 #[.int .i64 (k : Int), .slice aK key.length cK] w fun e w' => ∃ g1 g2, e = .returned (.tuple #[.agg #[.pointer (some ⟨g1, 0, none⟩), .pointer (some ⟨g2, 0, none⟩)], .int .i64 0]) ∧ w.heap.size ≤ g1 ∧ w.heap.size ≤ g2 ∧ g1 ≠ g2 ∧ StAt w' g1 k (keyP k key 54) ∧ StAt w' g2 k (keyP k key 92) ∧ Below w.heap.size w w') := fun w h => newKeyed_any k hk key hKl aK cK w h
  have HJN : Hid (∀ (gK gS gR g1 g2 : Nat) (w : World), SsSt k key salt r gK gS gR g1 g2 aS cS w → Calls Try.prog 36 #[.int .i64 (n : Int), .func (.func 38) #[] #[.pointer (some ⟨gK, 0, none⟩), .pointer (some ⟨gS, 0, none⟩), .pointer (some ⟨gR, 0, none⟩)]] w fun e w' => ∃ g, e = .returned (.slice (some ⟨g, 0, none⟩) n n) ∧ w.heap.size ≤ g ∧ RowZ w' g .u8 n 5 (fun i => ((sbS (k / 8) (stT k key salt r) i).toNat : Int)) ∧ But gK w w') := fun gK gS gR g1 g2 w h => joined_stretch k hk key salt hSl r hr n hn gK gS gR g1 g2 aS cS w h
  obtain ⟨hz, hsz⟩ := zero_of_info Try.zero75z
  have HI : Hid (∀ x y : Value, (Try.prog.info? 75).map (·.size) = some (#[x, y] : Array Value).size) := fun _ _ => hsz
  obtain ⟨t1, t2, t3, t4⟩ := two_blocks2 w #[.slice aS salt.length cS] #[.int .i64 ((r : Int) + 1)] 22 3
  have T1 := hidD t1
  have T2 := hidD t2
  have T3 := hidD t3
  have YK := hidD hbK
  have YS := hidD hbS
  have HSS : Hid (∀ (gK gS gR g1 g2 : Nat) (a : World), a.heap[gK]? = some (.cells #[.pointer (some ⟨g1, 0, none⟩), .pointer (some ⟨g2, 0, none⟩)] (75 : TypeId) (0, 0)) → StAt a g1 k (keyP k key 54) → StAt a g2 k (keyP k key 92) → a.heap[gS]? = some (.cells #[.slice aS salt.length cS] (22 : TypeId) (0, 0)) → ByAt a (.slice aS salt.length cS) salt → a.heap[gR]? = some (.cells #[.int .i64 ((r : Int) + 1)] (3 : TypeId) (0, 0)) → SsSt k key salt r gK gS gR g1 g2 aS cS a) := fun gK gS gR g1 g2 a q1 q2 q3 q4 q5 q6 => ⟨q1, q2, q3, q4, q5, q6⟩
  clear hsz hbK hbS t1 t2 t3 t4
  generalize hSB : sbS (k / 8) (stT k key salt r) = SB at *
  clear hSB
  generalize key.length = LK at *
  generalize salt.length = LS at *
  go_enter Try.func20, Try.ntmps20
  go_wp2_with fail
  go_at_call 34
  refine (HNK.out _ (YK.out.next T3.out)).mono ?_
  rintro e w1 ⟨g1, g2, rfl, hg1, hg2, hne, hs1, hs2, hx1⟩
  go_upto_region 2 with (refine wpList_store_row rfl 75 _ _ rfl w1.heap.size #[.pointer (some ⟨g1, 0, none⟩), .pointer (some ⟨g2, 0, none⟩)] rfl rfl 75 #[.pointer none, .pointer none] (heap_alloc_last _ _) (HI.out _ _) rfl (by simp [Value.oneCell']) ?_)
  obtain ⟨W2, hW2⟩ : ∃ W2 : World, W2 = (w1.alloc (.cells #[.pointer none, .pointer none] (75 : TypeId))).setRow w1.heap.size #[.pointer (some ⟨g1, 0, none⟩), .pointer (some ⟨g2, 0, none⟩)] := ⟨_, rfl⟩
  refine at_world hW2 ?_
  have hx2 : Below w1.heap.size w1 W2 := by rw [hW2]; exact below_setRow ((Below.refl _ _).alloc (Nat.le_refl _) _) (Nat.le_refl _) _
  have R2 : W2.heap[w1.heap.size]? = some (.cells #[.pointer (some ⟨g1, 0, none⟩), .pointer (some ⟨g2, 0, none⟩)] (75 : TypeId) (0, 0)) := by rw [hW2]; exact setRow_heap _ _ _ _ _ _ (heap_alloc_last _ _)
  have hx12 := Below.next hx1 hx2
  obtain ⟨cr, _⟩ := cell1 ((hx12.block _ (row_lt T2.out)).trans T2.out)
  have B2 := hidD (Below.next T3.out hx12)
  have V2 := hidD (HJN.out w1.heap.size w.heap.size (w.heap.size + 1) g1 g2 W2 (HSS.out _ _ _ _ _ _ R2 (hs1.next hx2) (hs2.next hx2) ((hx12.block _ (row_lt T1.out)).trans T1.out) (YS.out.next (Below.next T3.out hx12)) ((hx12.block _ (row_lt T2.out)).trans T2.out)))
  have G2 : Hid (w.heap.size ≤ w1.heap.size) := (Below.next T3.out hx1).size
  clear hs1 hs2 hx1 hx2 hx12 hg1 hg2 hne hW2 HNK YK YS T1 T2 T3 R2 HJN HSS
  generalize hgR : w1.heap.size = gK at *
  clear hgR
  go_wp2_with fail
  all_goals try (apply False.elim; apply undef_boolS; assumption)
  go_at_call 36
  refine V2.out.mono ?_
  rintro e w4 ⟨g4, rfl, hg4, hr4, hx4⟩
  have HF : Hid (w.heap.size ≤ g4 ∧ RowZ w4 g4 .u8 n 5 (fun i => ((SB i).toNat : Int)) ∧ Below w.heap.size w w4) := ⟨Nat.le_trans B2.out.size hg4, hr4, B2.out.trans (hx4.bel.mono G2.out)⟩
  clear hg4 hr4 hx4 V2
  go_wp2_with fail
  go_ret2
  exact ⟨g4, rfl, HF.out⟩
end Go.Proofs.Ytjpcndhdlbkilaa
