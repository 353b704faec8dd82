/- What bytesOf answers: digits as bytes. -/
import Derived.Test.YtpemajghaceegaaGreatDoorHxd
import Derived.Laws.RangeString
import Derived.Laws.RangeAny
namespace Go.Proofs.YtpemajghaceegaaGreatDoor
open Go.RowKit
set_option linter.unusedVariables false

theorem di_va (c : UInt8) : diS (c.toNat : Int) = (vaS c).map (·.toNat) := by
  have h2 : ∀ n : Fin 256, diS ((UInt8.ofNat n.val).toNat : Int) = (vaS (UInt8.ofNat n.val)).map (·.toNat) := by decide +kernel
  have := h2 ⟨c.toNat, c.toNat_lt⟩
  simpa using this
theorem di_high {c : Int} (h : 128 ≤ c) : diS c = none := by unfold diS; rw [if_neg (by omega), if_neg (by omega), if_neg (by omega)]
theorem va_high {c : UInt8} (h : 128 ≤ c.toNat) : vaS c = none := by
  have := di_va c
  rw [di_high (by omega)] at this
  cases hv : vaS c with
  | none => rfl
  | some v => rw [hv] at this; cases this
theorem un_all : ∀ (l b : List UInt8), unS l = some b → ∀ k, k < l.length → vaS (l.getD k 0) ≠ none
  | [], b, h, k, hk => absurd hk (by simp)
  | [_], b, h, k, hk => by simp [unS] at h
  | x :: y :: l, b, h, k, hk => by
    simp only [unS] at h
    split at h
    · rename_i p q r h1 h2 h3
      match k with
      | 0 => rw [List.getD_cons_zero, h1]; exact fun h => by cases h
      | 1 => rw [List.getD_cons_succ, List.getD_cons_zero, h2]; exact fun h => by cases h
      | k + 2 =>
        rw [List.getD_cons_succ, List.getD_cons_succ]
        exact un_all l r h3 k (by simp only [List.length_cons] at hk; omega)
    · cases h
theorem un_snoc : ∀ (l O : List UInt8) (x y a b : UInt8), unS l = some O → vaS x = some a → vaS y = some b → unS (l ++ [x, y]) = some (O ++ [16 * a + b])
  | [], O, x, y, a, b, h, hx, hy => by
    simp only [unS, Option.some.injEq] at h
    subst h
    simp only [List.nil_append, unS, hx, hy]
  | [_], O, x, y, a, b, h, hx, hy => by simp [unS] at h
  | p :: q :: l, O, x, y, a, b, h, hx, hy => by
    simp only [unS] at h
    split at h
    · rename_i u v r h1 h2 h3
      simp only [Option.some.injEq] at h
      subst h
      simp only [List.cons_append, unS, h1, h2, un_snoc l r x y a b h3 hx hy]
    · cases h
/- how far the digits were read -/
def InB (s : List UInt8) (p : Nat) (O : List UInt8) (h : Nat) : Prop :=
  p ≤ s.length ∧ ((p % 2 = 0 ∧ unS (s.take p) = some O) ∨ (p % 2 = 1 ∧ unS (s.take (p - 1)) = some O ∧ ∃ x, vaS (s.getD (p - 1) 0) = some x ∧ h = 16 * x.toNat))
theorem InB.start (s : List UInt8) (h : Nat) : InB s 0 [] h := ⟨Nat.zero_le _, .inl ⟨rfl, rfl⟩⟩
theorem InB.even {s : List UInt8} {p : Nat} {O : List UInt8} {h : Nat} (hi : InB s p O h) (h2 : p % 2 = 0) (hp : p < s.length) {x : UInt8} (hx : vaS (s.getD p 0) = some x) : InB s (p + 1) O (16 * x.toNat) := by
  obtain ⟨h0, h | h⟩ := hi
  · exact ⟨by omega, .inr ⟨by omega, h.2, x, hx, rfl⟩⟩
  · omega
theorem InB.odd {s : List UInt8} {p : Nat} {O : List UInt8} {h : Nat} (hi : InB s p O h) (h2 : p % 2 = 1) (hp : p < s.length) {y : UInt8} (hy : vaS (s.getD p 0) = some y) (g : Nat) : InB s (p + 1) (O ++ [UInt8.ofNat (h + y.toNat)]) g := by
  obtain ⟨h0, h1 | ⟨h1, h3, x, hx, hh⟩⟩ := hi
  · omega
  · refine ⟨by omega, .inl ⟨by omega, ?_⟩⟩
    have e : s.take (p + 1) = s.take (p - 1) ++ [s.getD (p - 1) 0, s.getD p 0] := by
      obtain ⟨q, rfl⟩ : ∃ q, p = q + 1 := ⟨p - 1, by omega⟩
      rw [List.take_add_one, List.take_add_one, List.getElem?_eq_getElem hp, List.getElem?_eq_getElem (by omega), List.getD_eq_getElem?_getD, List.getD_eq_getElem?_getD]
      rw [Nat.add_sub_cancel, List.getElem?_eq_getElem (show q < s.length by omega), List.getElem?_eq_getElem hp]
      simp only [Option.toList_some, List.append_assoc, List.cons_append, List.nil_append, Option.getD_some]
    rw [e, un_snoc _ _ _ _ _ _ h3 hx hy]
    congr 3
    apply UInt8.toNat_inj.1
    have := va_lt hx
    have := va_lt hy
    rw [UInt8.toNat_add, UInt8.toNat_mul, of_nat, hh]
    show (16 * x.toNat % 256 + y.toNat) % 256 = _
    omega
theorem InB.stop {s : List UInt8} {p : Nat} {O : List UInt8} {h : Nat} (hi : InB s p O h) (hp : ¬ p < s.length) : p = s.length ∧ (s.length % 2 = 0 → unS s = some O) ∧ (s.length % 2 = 1 → unS s = none) := by
  obtain ⟨h0, h1⟩ := hi
  obtain rfl : p = s.length := by omega
  refine ⟨rfl, fun he => ?_, fun ho => ?_⟩
  · rcases h1 with h1 | h1
    · rw [← h1.2, List.take_length]
    · omega
  · cases hu : unS s with
    | none => rfl
    | some b => have := un_len _ _ hu; omega
theorem InB.bad {s : List UInt8} {p : Nat} (hp : p < s.length) (hx : vaS (s.getD p 0) = none) : unS s = none := by
  cases hu : unS s with
  | none => rfl
  | some b => exact absurd hx (un_all _ _ hu p hp)
theorem InB.len {s : List UInt8} {p : Nat} {O : List UInt8} {h : Nat} (hi : InB s p O h) : O.length ≤ s.length ∧ h % 16 = 0 ∨ p % 2 = 0 ∧ O.length ≤ s.length := by
  obtain ⟨h0, h1 | ⟨h1, h2, x, h3, h4⟩⟩ := hi
  · have := un_len _ _ h1.2
    rw [List.length_take] at this
    exact .inr ⟨h1.1, by omega⟩
  · have := un_len _ _ h2
    rw [List.length_take] at this
    exact .inl ⟨by omega, by omega⟩
theorem InB.high {s : List UInt8} {p : Nat} {O : List UInt8} {h : Nat} (hi : InB s p O h) (h2 : p % 2 = 1) : ∃ x, x < 16 ∧ h = x * 16 := by
  obtain ⟨h0, h1 | ⟨h1, h3, x, hx, hh⟩⟩ := hi
  · omega
  · exact ⟨x.toNat, va_lt hx, by omega⟩
theorem or_nib (x y : Nat) (hy : y < 16) : x * 16 ||| y = x * 16 + y := by
  have := Nat.shiftLeft_add_eq_or_of_lt (i := 4) (b := y) (by simpa using hy) x
  rw [Nat.shiftLeft_eq] at this
  rw [show x * 16 = x * 2 ^ 4 from rfl, ← this]

theorem iter_next {w wr : World} {s : ByteArray} {pos n : Nat} {v : Value} {xs : List Value} (hi : wr.heap[w.heap.size]? = some (.stringIter s pos)) (hp : pos < s.size) (hb : Below w.heap.size w wr) (ho : wr.ownsRow w.heap.size 5 1 v n xs) :
    ∃ w1, (∀ ty, (Instr.next (.pointer (some ⟨w.heap.size, 0, none⟩)) true ty).run Tryz.prog wr = .ok (.tuple #[.bool true, .int .i64 pos, .int .i32 (Utf8.decode s pos).1]) w1) ∧ w1.heap[w.heap.size]? = some (.stringIter s (pos + (Utf8.decode s pos).2)) ∧ Below w.heap.size w w1 ∧ w1.ownsRow w.heap.size 5 1 v n xs ∧ w.heap.size < w1.heap.size := by
  have hlt := (Array.getElem?_eq_some_iff.1 hi).1
  have hblk : ∀ k, k ≠ w.heap.size → (wr.heap.setIfInBounds w.heap.size (.stringIter s (pos + (Utf8.decode s pos).2)))[k]? = wr.heap[k]? := fun k hk => by
    rw [Array.getElem?_setIfInBounds]
    rw [if_neg (fun e => hk e.symm)]
  refine ⟨{ wr with heap := wr.heap.setIfInBounds w.heap.size (.stringIter s (pos + (Utf8.decode s pos).2)) }, fun ty => ?_, ?_, ?_, ?_, ?_⟩
  · simp only [Instr.next, getObj, setObj, Sem.run_bind, Sem.run, hi, Result.andThen, hp, if_true]
    simp [goInt]
  · show (wr.heap.setIfInBounds _ _)[_]? = _
    rw [Array.getElem?_setIfInBounds, if_pos rfl, if_pos hlt]
  · exact hb.trans ⟨rfl, rfl, rfl, by simp, fun k hk => hblk k (by omega)⟩
  · refine ⟨ho.1, ?_⟩
    rcases ho.2 with h0 | ⟨g, cap, cur, hv, hbg, hg, h3⟩
    · exact .inl h0
    · refine .inr ⟨g, cap, cur, hv, hbg, ?_, h3⟩
      show (wr.heap.setIfInBounds _ _)[_]? = _
      rw [hblk g (fun e => by rw [e, hi] at hg; cases hg)]
      exact hg
  · simpa using hlt
theorem iter_over {w wr : World} {s : ByteArray} {pos : Nat} (hi : wr.heap[w.heap.size]? = some (.stringIter s pos)) (hp : ¬ pos < s.size) :
    ∀ ty, (Instr.next (.pointer (some ⟨w.heap.size, 0, none⟩)) true ty).run Tryz.prog wr = .ok (.tuple #[.bool false]) wr := fun ty => by
  simp [Instr.next, getObj, Sem.run, hi, hp]
def iterPos (w : World) (b : Nat) : Nat :=
  match w.heap[b]? with
  | some (.stringIter _ p) => p
  | _ => 0
theorem iterPos_of {w : World} {b : Nat} {s : ByteArray} {p : Nat} (h : w.heap[b]? = some (.stringIter s p)) : iterPos w b = p := by unfold iterPos; rw [h]
theorem Below.iter (w : World) (s : ByteArray) : Below w.heap.size w (w.iter s 0) := (Below.refl w.heap.size w).alloc (Nat.le_refl _) _
/- what is told of digits -/
def UnIs (s : List UInt8) (e : Ending) (w w' : World) : Prop :=
  ∃ a n c ok, e = .returned (.tuple #[.slice a n c, .bool ok]) ∧ (∀ b, unS s = some b → ok = true ∧ w'.ownsRow w.heap.size 5 1 (.slice a n c) b.length (b.map encB)) ∧ (unS s = none → ok = false) ∧ Below w.heap.size w w'
set_option maxRecDepth 100000 in
set_option maxHeartbeats 1000000 in
theorem bytesOf_any (s : List UInt8) (hs : s.length ≤ 140737488355000) (w : World) : Calls Tryz.prog 109 #[.string (bA s)] w fun e w' => UnIs s e w w' := by
  have HSZ := hidD (ba_size s)
  have HBG := hidD (fun k h => ba_get s k h)
  generalize bA s = B at *
  have HDI : Hid (∀ (c : Int) (h0 : 0 ≤ c) (h1 : c ≤ 2147483647) (w : World), Calls Tryz.prog 131 #[.int .i32 c] w fun e w' => e = .returned (diV (diS c)) ∧ w' = w) := fun c h0 h1 w => digitOf_any c h0 h1 w
  go_enter Tryz.func109, Tryz.ntmps109
  go_wp2_with fail
  go_loopw [4, 5] (fun oo hh wr => ∃ (O : List UInt8) (h p : Nat), hh = .int .u8 (h : Int) ∧ InB s p O h ∧ wr.heap[w.heap.size]? = some (.stringIter B p) ∧ wr.ownsRow w.heap.size 5 1 oo O.length (O.map encB) ∧ Below w.heap.size w wr) (fun _ _ wr => s.length - iterPos wr w.heap.size)
  case atStart => exact ⟨[], 0, 0, rfl, InB.start _ _, World.iter_heap _ _ _, World.ownsRow_nil _ _ _ _, Below.iter _ _⟩
  case round =>
    obtain ⟨O, h, p, rfl, hinv, hit, hown, hbel⟩ := hrel
    have HI := hidD hinv
    have HIT := hidD hit
    have HOW := hidD hown
    have HBL := hidD hbel
    obtain ⟨a3, c3, rfl⟩ := row_shape hown
    by_cases hp : p < B.size
    · obtain ⟨w1, hn, hit1, hb1, ho1, hlt1⟩ := iter_next hit hp hbel hown
      have HPL : Hid (p < s.length) := by show _ < _; rw [← HSZ.out]; exact hp
      have HG := hidD (HBG.out p hp)
      clear hinv hit hown hbel
      by_cases ha : (B[p]'hp).toNat < 128
      · have hd := decode_ascii B p hp ha
        rw [hd] at hn hit1
        have HIT1 := hidD hit1
        have HB1 := hidD hb1
        have HO1 := hidD ho1
        clear hit1 hb1 ho1 hd
        have HDV := hidD (di_va (s.getD p 0))
        have HX := hidD (show (B[p]'hp).toNat = (s.getD p 0).toNat by rw [HG.out])
        have HD1 := hidD (fun w => HDI.out ((B[p]'hp).toNat : Int) (by omega) (by omega) w)
        rw [HX.out, HDV.out] at HD1
        have hc255 := (s.getD p 0).toNat_lt
        simp only [HX.out] at hn HIT1
        clear HX
        have HMS : Hid (∀ w : World, iterPos w w.heap.size = iterPos w w.heap.size) := fun _ => rfl
        cases hv : vaS (s.getD p 0) with
        | none =>
          rw [hv] at HD1
          have HUN := hidD (InB.bad HPL.out hv)
          clear hv HMS HDV HDI HBG HG
          generalize (s.getD p 0).toNat = cc at *
          go_wp2_with (go_at_call 131; refine (HD1.out _).mono ?_; rintro e w2 ⟨rfl, rfl⟩; simp only [Option.map_none, diV])
          go_ret2
          exact ⟨none, 0, 0, false, rfl, fun b hb => (by rw [HUN.out] at hb; cases hb), fun _ => rfl, HB1.out⟩
        | some x =>
          rw [hv] at HD1
          have HVX := hidD hv
          have HX16 := hidD (va_lt hv)
          clear hv HMS HDV HDI HBG HG
          generalize (s.getD p 0).toNat = cc at *
          by_cases hpe : p % 2 = 0
          · have hpi : ((p : Int) % 2 == 0) = true := by rw [beq_iff_eq]; omega
            have HNX := hidD (HI.out.even hpe HPL.out HVX.out)
            obtain ⟨xn, HXN⟩ : ∃ xn, Hid (x.toNat = xn) := ⟨_, rfl⟩
            rw [HXN.out] at HNX HX16
            have hx16 := HX16.out
            simp only [Option.map_some, HXN.out] at HD1
            go_wp2_with (go_at_call 131; refine (HD1.out _).mono ?_; rintro e w2 ⟨rfl, rfl⟩; simp only [diV])
            go_roundw
            case rel => exact ⟨O, 16 * xn, p + 1, by go_num, HNX.out, HIT1.out, HO1.out, HB1.out⟩
            case measure => rw [iterPos_of HIT1.out, iterPos_of HIT.out]; have := HPL.out; omega
          · have hpi : ((p : Int) % 2 == 0) = false := by rw [beq_eq_false_iff_ne]; omega
            have HNX := hidD (HI.out.odd (by omega) HPL.out HVX.out)
            obtain ⟨xn, HXN⟩ : ∃ xn, Hid (x.toNat = xn) := ⟨_, rfl⟩
            rw [HXN.out] at HNX HX16
            have hx16 := HX16.out
            obtain ⟨z, hz, rfl⟩ := HI.out.high (by omega)
            have hor : bits .or .u8 ((z : Int) * 16) (xn : Int) = ((z * 16 + xn : Nat) : Int) := by
              rw [show (z : Int) * 16 = ((z * 16 : Nat) : Int) by omega, u8_or_nat _ _ (by omega) (by omega), or_nib z xn hx16]
            have HBY : Hid (∀ w : World, ByAt (w.alloc (.cells #[.int .u8 ((z * 16 + xn : Nat) : Int)] (5 : TypeId))) (.slice (some ⟨w.heap.size, 0, none⟩) 1 1) [UInt8.ofNat (z * 16 + xn)]) := fun w => by
              have := by_one w (UInt8.ofNat (z * 16 + xn))
              rwa [of_nat, show (z * 16 + xn) % 256 = z * 16 + xn by omega] at this
            have HOL : Hid (O.length ≤ 140737488355000) := by have := HI.out.len; show _ ≤ _; omega
            generalize z * 16 + xn = zz at *
            simp only [Option.map_some, HXN.out] at HD1
            go_wp2_with first
              | (at_builtin
                 refine wpList_append_by rfl _ _ rfl w.heap.size (.slice a3 O.length c3) O.length (O.map encB) rfl (HO1.out.alloc _) (.slice (some ⟨w2.heap.size, 0, none⟩) 1 1) [UInt8.ofNat zz] rfl (HBY.out w2) (by have := HOL.out; simp; omega) (by have := HB1.out.size; simp; omega) ?_
                 intro v3 w3 hown3 hg3)
              | (go_at_call 131; refine (HD1.out _).mono ?_; rintro e w2 ⟨rfl, rfl⟩; simp only [diV])
            have HIT3 : Hid (w3.heap[w.heap.size]? = some (.stringIter B (p + 1))) := by
              show _ = _
              rw [hg3.block _ (by simp; omega) (fun e => by
                rcases HO1.out.2 with ⟨h0, _⟩ | ⟨g0, c0, cur, h0, hb0, hg0, _⟩
                · rw [h0] at e; cases e
                · rw [h0] at e
                  simp [Value.ownBlock] at e
                  rw [← e, HIT1.out] at hg0
                  cases hg0)]
              rw [heap_alloc_old w2 _ _ hlt1]
              exact HIT1.out
            have HB3 : Hid (Below w.heap.size w w3) := (HB1.out.alloc (by omega) _).grown hg3 (by simp; omega) (fun k hk => by
              rcases HO1.out.2 with ⟨h0, _⟩ | ⟨g0, c0, cur, h0, hb0, _⟩
              · rw [h0] at hk; simp [Value.ownBlock] at hk
              · rw [h0] at hk; simp [Value.ownBlock] at hk; omega)
            have HO3 : Hid (w3.ownsRow w.heap.size 5 1 v3 (O ++ [UInt8.ofNat zz]).length ((O ++ [UInt8.ofNat zz]).map encB)) := by
              show World.ownsRow _ _ _ _ _ _ _
              simpa using hown3
            clear hown3 hg3
            go_wp2_with fail
            go_roundw
            case rel => exact ⟨O ++ [UInt8.ofNat zz], z * 16, p + 1, by go_num, HNX.out _, HIT3.out, HO3.out, HB3.out⟩
            case measure => rw [iterPos_of HIT3.out, iterPos_of HIT.out]; have := HPL.out; omega
      · have hh := decode_high B p hp (by omega)
        have hd2 := hidD (di_high (c := ((Utf8.decode B p).1 : Int)) (by omega))
        have hle := decode_le B p
        have HUN : Hid (unS s = none) := InB.bad HPL.out (va_high (by rw [← HG.out]; omega))
        have HD1 := hidD (fun w => HDI.out ((Utf8.decode B p).1 : Int) (by omega) (by omega) w)
        rw [hd2.out] at HD1
        have HB1 := hidD hb1
        clear hh hit1 hb1 ho1 HDI hd2 hle HBG HG HSZ
        generalize (Utf8.decode B p).1 = cc at *
        go_wp2_with (go_at_call 131; refine (HD1.out _).mono ?_; rintro e w2 ⟨rfl, rfl⟩; simp only [diV])
        go_ret2
        exact ⟨none, 0, 0, false, rfl, fun b hb => (by rw [HUN.out] at hb; cases hb), fun _ => rfl, HB1.out⟩
    · have hn := iter_over hit hp
      obtain ⟨rfl, he, ho⟩ := hinv.stop (by rw [← HSZ.out]; exact hp)
      have HE := hidD he
      have HO := hidD ho
      have hsz := HSZ.out
      clear hinv hit hown hbel he ho HBG HDI HIT HI
      rcases Nat.mod_two_eq_zero_or_one s.length with h2 | h2
      · have h2b : ((B.size : Int) % 2 == 0) = true := by rw [beq_iff_eq, HSZ.out]; omega
        have HU := hidD (HE.out h2)
        clear h2 HE HO hsz
        go_wp2_with fail
        go_ret2
        refine ⟨a3, O.length, c3, true, ?_, fun b hb => ?_, fun hb => (by rw [HU.out] at hb; cases hb), HBL.out⟩
        · rfl
        · rw [HU.out] at hb; cases hb; exact ⟨rfl, HOW.out⟩
      · have h2b : ((B.size : Int) % 2 == 0) = false := by rw [beq_eq_false_iff_ne, HSZ.out]; omega
        have HU := hidD (HO.out h2)
        clear h2 HE HO hsz
        go_wp2_with fail
        go_ret2
        refine ⟨a3, O.length, c3, false, ?_, fun b hb => (by rw [HU.out] at hb; cases hb), fun _ => rfl, HBL.out⟩
        rfl
end Go.Proofs.YtpemajghaceegaaGreatDoor
