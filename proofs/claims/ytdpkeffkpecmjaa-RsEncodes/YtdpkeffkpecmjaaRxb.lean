/- What Trim, Eval and Plus of the document answer. -/
import Derived.Test.YtdpkeffkpecmjaaRxa
import Derived.Test.YtdpkeffkpecmjaaRpb
import Derived.Test.YtdpkeffkpecmjaaApd
import Derived.Test.YtdpkeffkpecmjaaRpa
import Derived.Test.YtdpkeffkpecmjaaAlv
import Derived.Laws.Build
namespace Go.Proofs.Ytdpkeffkpecmjaa
open Go.RowKit
set_option linter.unusedVariables false

set_option maxRecDepth 100000 in
set_option maxHeartbeats 800000 in
theorem refTrim_any (bs : List UInt8) (hbl : bs.length ≤ 281474976710656) (vb : Value) (w : World) (hs : SlAt w vb bs) : Calls Try.prog 46 #[vb] w fun e w' => ∃ v, e = .returned v ∧ SlAt w' v (trimS bs) ∧ Below w.heap.size w w' := by
  obtain ⟨⟨a, cap, rfl, hcap, hl⟩, hby⟩ := hs
  have HSH := hidD hby.shape'.2
  have HT := hidD (fun n h1 h2 h3 => trim_at (l := bs) (n := n) h1 h2 h3)
  have HBY := hidD (fun (w' : World) (h : Below w.heap.size w w') n (hn : n ≤ bs.length) => (hby.next h).take (n := n) hn)
  have HAL : Hid (∀ o, Below w.heap.size w (w.alloc o)) := fun o => (Below.refl _ _).alloc (Nat.le_refl _) o
  clear hby
  generalize hn : bs.length = n at *
  have HN := hidD hn
  generalize hTT : trimS bs = T at *
  have HTT := hidD hTT
  clear hn hTT
  go_enter Try.func46, Try.ntmps46
  go_wp2_with fail
  go_loopw [3] (fun i wr => ∃ k : Nat, k ≤ n ∧ i = .int .i64 k ∧ (∀ j, k ≤ j → cf bs j = 0) ∧ wr = w) (fun i _ => (intOf i).toNat)
  case atStart => exact ⟨n, Nat.le_refl _, rfl, fun j hj => cf_ge (by have := HN.out; omega), rfl⟩
  case round =>
    obtain ⟨k, hk, rfl, hall, rfl⟩ := hrel
    have HA := hidD hall
    clear hall
    by_cases h0 : k = 0
    · subst h0
      have HE : Hid (T = []) := by
        show _ = _
        rw [HT.out 0 (Nat.zero_le _) HA.out (.inl rfl)]; simp
      have hcapi : (0 : Int) ≤ cap := by omega
      have HOW : Hid ((wr.alloc (.cells #[] (5 : TypeId))).ownsRow wr.heap.size 5 1 (.slice (some ⟨wr.heap.size, 0, none⟩) 0 0) 0 []) := full_row (Nat.le_refl _) rfl (by unfold maxLen; omega) (heap_alloc_last _ _)
      have HBY0 : Hid (ByAt (wr.alloc (.cells #[] (5 : TypeId))) (.slice a 0 cap) []) := by
        have := HBY.out _ (HAL.out (.cells #[] (5 : TypeId))) 0 (Nat.zero_le _)
        rw [List.take_zero] at this; exact this
      clear HT HA HBY
      go_wp2_with (at_builtin; refine wpList_append_by rfl _ _ rfl wr.heap.size (.slice (some ⟨wr.heap.size, 0, none⟩) 0 0) 0 [] rfl HOW.out (.slice a 0 cap) [] rfl HBY0.out (by simp) (by simp) ?_; intro v8 w8 hown8 hg8; have HO8 := hidD hown8; have HB8 : Hid (Below wr.heap.size wr w8) := (row_grown HOW.out (HAL.out _) hg8 (by simp)); clear hown8 hg8)
      go_ret
      exact ⟨_, rfl, by rw [HE.out]; exact sl_of_own HO8.out, HB8.out⟩
    · obtain ⟨m, rfl⟩ : ∃ m, k = m + 1 := ⟨k - 1, by omega⟩
      obtain ⟨g, off, rfl, hg, hc⟩ := HSH.out m (by omega)
      have hm1 : (((m + 1 : Nat) : Int)) - 1 = (m : Int) := by omega
      have hpos : (0 : Int) < ((m + 1 : Nat) : Int) := by omega
      have hml : (m : Int) < n := by omega
      have hkc : ((m + 1 : Nat) : Int) ≤ cap := by omega
      by_cases hz : cf bs m = 0
      · have HA2 : Hid (∀ j, m ≤ j → cf bs j = 0) := fun j hj => by
          by_cases he : j = m
          · subst he; exact hz
          · exact HA.out j (by omega)
        have hv : ((cf bs m).toNat : Int) = 0 := by rw [hz]; rfl
        rw [hv] at hc
        clear hz HA hv
        go_wp2_with fail
        go_roundw
        case rel => exact ⟨m, by omega, by congr 1, HA2.out, trivial⟩
        case measure => simp [intOf]
      · have hv := u8_ne hz
        have hvb := u8_bne hz
        have HE : Hid (T = bs.take (m + 1)) := by
          show _ = _
          rw [HT.out (m + 1) (by omega) HA.out (.inr (by simpa using hz))]
        have HEL : Hid (T.length = m + 1) := by
          have hn := HN.out
          show _ = _
          rw [HE.out, List.length_take]; omega
        have HBY1 : Hid (∀ o, ByAt (wr.alloc o) (.slice (some ⟨g, off, none⟩) (m + 1) cap) T) := fun o => by
          have := HBY.out _ (HAL.out o) (m + 1) (by have := HN.out; omega)
          rw [← HE.out] at this; exact this
        clear hz HA HT HBY
        generalize ((cf bs m).toNat : Int) = v at *
        go_wp2_with (at_builtin; refine wpList_append_first rfl _ _ rfl _ rfl (.slice (some ⟨g, off, none⟩) (m + 1) cap) T rfl (HBY1.out _) (by rw [HEL.out]; omega) (by rw [HEL.out]; omega) ?_; intro v8 w8 hs8 hb8; have HS8 := hidD hs8; have HB8 := hidD (Below.next (HAL.out _) hb8); clear hs8 hb8)
        go_ret
        exact ⟨_, rfl, HS8.out, HB8.out⟩
set_option maxRecDepth 100000 in
set_option maxHeartbeats 800000 in
theorem refTrim_some (bs : List UInt8) (hne : trimS bs ≠ []) (hbl : bs.length ≤ 281474976710656) (vb : Value) (w : World) (hs : SlAt w vb bs) : Calls Try.prog 46 #[vb] w fun e w' => ∃ g cap, e = .returned (.slice (some ⟨g, 0, none⟩) (trimS bs).length cap) ∧ w.heap.size ≤ g ∧ (trimS bs).length ≤ cap ∧ cap ≤ 9223372036854775807 ∧ RowX w' g (trimS bs) ∧ Below w.heap.size w w' := by
  obtain ⟨⟨a, cap, rfl, hcap, hl⟩, hby⟩ := hs
  have HSH := hidD hby.shape'.2
  have HT := hidD (fun n h1 h2 h3 => trim_at (l := bs) (n := n) h1 h2 h3)
  have HBY := hidD (fun (w' : World) (h : Below w.heap.size w w') n (hn : n ≤ bs.length) => (hby.next h).take (n := n) hn)
  have HAL : Hid (∀ o, Below w.heap.size w (w.alloc o)) := fun o => (Below.refl _ _).alloc (Nat.le_refl _) o
  clear hby
  generalize hn : bs.length = n at *
  have HN := hidD hn
  generalize hTT : trimS bs = T at *
  have HTT := hidD hTT
  have HNE := hidD hne
  clear hn hTT
  go_enter Try.func46, Try.ntmps46
  go_wp2_with fail
  go_loopw [3] (fun i wr => ∃ k : Nat, k ≤ n ∧ i = .int .i64 k ∧ (∀ j, k ≤ j → cf bs j = 0) ∧ wr = w) (fun i _ => (intOf i).toNat)
  case atStart => exact ⟨n, Nat.le_refl _, rfl, fun j hj => cf_ge (by have := HN.out; omega), rfl⟩
  case round =>
    obtain ⟨k, hk, rfl, hall, rfl⟩ := hrel
    have HA := hidD hall
    clear hall
    by_cases h0 : k = 0
    · subst h0
      have HE : Hid (T = []) := by
        show _ = _
        rw [HT.out 0 (Nat.zero_le _) HA.out (.inl rfl)]; simp
      exact absurd HE.out HNE.out
    · obtain ⟨m, rfl⟩ : ∃ m, k = m + 1 := ⟨k - 1, by omega⟩
      obtain ⟨g, off, rfl, hg, hc⟩ := HSH.out m (by omega)
      have hm1 : (((m + 1 : Nat) : Int)) - 1 = (m : Int) := by omega
      have hpos : (0 : Int) < ((m + 1 : Nat) : Int) := by omega
      have hml : (m : Int) < n := by omega
      have hkc : ((m + 1 : Nat) : Int) ≤ cap := by omega
      by_cases hz : cf bs m = 0
      · have HA2 : Hid (∀ j, m ≤ j → cf bs j = 0) := fun j hj => by
          by_cases he : j = m
          · subst he; exact hz
          · exact HA.out j (by omega)
        have hv : ((cf bs m).toNat : Int) = 0 := by rw [hz]; rfl
        rw [hv] at hc
        clear hz HA hv
        go_wp2_with fail
        go_roundw
        case rel => exact ⟨m, by omega, by congr 1, HA2.out, trivial⟩
        case measure => simp [intOf]
      · have hv := u8_ne hz
        have hvb := u8_bne hz
        have HE : Hid (T = bs.take (m + 1)) := by
          show _ = _
          rw [HT.out (m + 1) (by omega) HA.out (.inr (by simpa using hz))]
        have HEL : Hid (T.length = m + 1) := by
          have hn := HN.out
          show _ = _
          rw [HE.out, List.length_take]; omega
        have HBY1 : Hid (∀ o, ByAt (wr.alloc o) (.slice (some ⟨g, off, none⟩) (m + 1) cap) T) := fun o => by
          have := HBY.out _ (HAL.out o) (m + 1) (by have := HN.out; omega)
          rw [← HE.out] at this; exact this
        clear hz HA HT HBY
        generalize ((cf bs m).toNat : Int) = v at *
        go_wp2_with (at_builtin; refine wpList_append_fresh rfl _ _ rfl _ rfl (.slice (some ⟨g, off, none⟩) (m + 1) cap) T rfl (HBY1.out _) (by rw [HEL.out]; omega) (by rw [HEL.out]; omega) ?_; intro c8 w8 hc8 hd8 hx8 hb8; have HX8 := hidD hx8; have HC8 := hidD hc8; have HD8 := hidD hd8; have HB8 := hidD (Below.next (HAL.out _) hb8); clear hx8 hb8 hc8 hd8)
        go_ret
        exact ⟨wr.heap.size + 1, c8, by first | rfl | (rw [HEL.out]; rfl) | (simp [HEL.out]), Nat.le_succ _, HC8.out, HD8.out, by have := HX8.out; simpa using this, HB8.out⟩

set_option maxRecDepth 100000 in
set_option maxHeartbeats 800000 in
theorem refEval_any {P G : UInt8} {b : Nat} (p : List UInt8) (x : UInt8) (v : Value) (w : World) (hf : RfAt w b P G) (hp : SlAt w v p) : Calls Try.prog 42 #[.pointer (some ⟨b, 0, none⟩), v, .int .u8 (x.toNat : Int)] w fun e w' => e = .returned (.int .u8 ((evalS P x p).toNat : Int)) ∧ Below w.heap.size w w' := by
  obtain ⟨⟨a, cap, rfl, hc1, hc2⟩, hby⟩ := hp
  have HSH := hidD hby.shape'.2
  have HF := hidD hf
  have HST := hidD (fun k h => eval_step P x p k h)
  have HMU := hidD (fun (y : UInt8) w' (h : RfAt w' b P G) => calls_below (refMul_any y x w' h))
  generalize hR : ((evalS P x p).toNat : Int) = R
  have HR : Hid (((evalS P x (p.drop (p.length - p.length))).toNat : Int) = R) := by show _ = _; rw [Nat.sub_self, List.drop_zero]; exact hR
  have H0 : Hid (evalS P x (p.drop (p.length - 0)) = 0) := by show _ = _; rw [Nat.sub_zero, List.drop_length]; rfl
  clear hf hby hR
  generalize hn : p.length = n at *
  have HN := hidD hn
  clear hn
  go_enter Try.func42, Try.ntmps42
  go_wp2_with fail
  go_loopw [7, 8] (fun y i wr => ∃ k : Nat, k ≤ n ∧ i = .int .i64 ((n : Int) - 1 - k) ∧ y = .int .u8 ((evalS P x (p.drop (n - k))).toNat : Int) ∧ Below w.heap.size w wr) (fun _ i _ => (intOf i + 1).toNat)
  case atStart => exact ⟨0, Nat.zero_le _, by congr 1; omega, by rw [H0.out]; rfl, Below.refl _ _⟩
  case round =>
    obtain ⟨k, hk, rfl, rfl, hbel⟩ := hrel
    have HBL := hidD hbel
    by_cases hlt : k < n
    · obtain ⟨g, o, rfl, hg, hc⟩ := HSH.out (n - 1 - k) (by have := HN.out; omega)
      have hix : (n : Int) - 1 - k = ((n - 1 - k : Nat) : Int) := by omega
      have HIX := hidD hix
      have hixl : ((n - 1 - k : Nat) : Int) < n := by omega
      have hix0 : (0 : Int) ≤ ((n - 1 - k : Nat) : Int) := by omega
      have hcl : ∀ i : BW wr, i.v.cell? ⟨g, o + (n - 1 - k), none⟩ = some (.int .u8 ((cf p (n - 1 - k)).toNat : Int)) := fun i => by
        rw [i.below.cell (p := ⟨g, _, none⟩) (Nat.lt_of_lt_of_le hg hbel.size), hbel.cell (p := ⟨g, _, none⟩) hg]; exact hc
      have HM := hidD (fun i : BW wr => HMU.out (evalS P x (p.drop (n - k))) i.v ((HF.out.next hbel).next i.below))
      have hxx := u8_xor_nat (bm P (evalS P x (p.drop (n - k))) x).toNat (cf p (n - 1 - k)).toNat (u8_lt _) (u8_lt _)
      rw [← UInt8.toNat_xor] at hxx
      have HS := hidD (HST.out k (by have := HN.out; omega))
      have HNX : Hid (((n - 1 - k : Nat) : Int) - 1 = (n : Int) - 1 - ((k + 1 : Nat) : Int)) := by show _ = _; omega
      generalize hv : bm P (evalS P x (p.drop (n - k))) x ^^^ cf p (n - 1 - k) = v at *
      generalize (bm P (evalS P x (p.drop (n - k))) x).toNat = m1 at *
      generalize (evalS P x (p.drop (n - k))).toNat = m0 at *
      generalize (cf p (n - 1 - k)).toNat = m2 at *
      generalize n - 1 - k = d at *
      clear hv hbel hc hg hk
      go_wp2_with fail
      refine wp_region_below (by kernel_rfl) (by kernel_rfl) ?_
      repeat (go_big_quiet_step ((go_at_call 58; exact Calls.below_of (HM.out _))))
      refine wpQuiet_nil ?_
      intro i
      go_wp2_with fail
      go_roundw
      case rel => exact ⟨k + 1, by omega, by congr 1 <;> exact HNX.out, by rw [HS.out], Below.next HBL.out i.below⟩
      case measure => have := HIX.out; simp [intOf]; omega
    · obtain rfl : k = n := by omega
      rw [HR.out]
      have hneg : ¬ (0 : Int) ≤ (k : Int) - 1 - k := by omega
      clear hbel
      go_wp2_with fail
      go_ret
      exact ⟨rfl, HBL.out⟩
set_option maxRecDepth 100000 in
set_option maxHeartbeats 800000 in
theorem refEval_nil (p : List UInt8) (x : UInt8) (v : Value) (w : World) (hp : SlAt w v p) : Calls Try.prog 42 #[.pointer none, v, .int .u8 (x.toNat : Int)] w fun e w' => e = .returned (.int .u8 0) ∧ Below w.heap.size w w' := by
  obtain ⟨⟨a, cap, rfl, hc1, hc2⟩, hby⟩ := hp
  clear hby
  generalize hn : p.length = n at *
  clear hn
  go_enter Try.func42, Try.ntmps42
  go_wp2_with fail
  go_loopw [7, 8] (fun y i wr => ∃ z : Int, i = .int .i64 z ∧ y = .int .u8 0 ∧ wr = w) (fun _ i _ => 0)
  case atStart => exact ⟨_, rfl, rfl, rfl⟩
  case round =>
    obtain ⟨z, rfl, rfl, rfl⟩ := hrel
    go_wp2_with fail
    go_ret
    exact ⟨rfl, Below.refl _ _⟩
set_option maxRecDepth 100000 in
set_option maxHeartbeats 1000000 in
theorem refPlus_any {b : Nat} (p q : List UInt8) (hpl : p.length ≤ 140737488355000) (hql : q.length ≤ 140737488355000) (vp vq : Value) (w : World) (hp : SlAt w vp p) (hq : SlAt w vq q) :
    Calls Try.prog 77 #[.pointer (some ⟨b, 0, none⟩), vp, vq] w fun e w' => ∃ v, e = .returned v ∧ SlAt w' v (trimS (plusS p q)) ∧ Below w.heap.size w w' := by
  obtain ⟨⟨a, ca, rfl, hca1, hca2⟩, hpb⟩ := hp
  obtain ⟨⟨d, cd, rfl, hcd1, hcd2⟩, hqb⟩ := hq
  have HSP := hidD hpb.shape'.2
  have HSQ := hidD hqb.shape'.2
  have HPT := hidD (fun k h => plus_take p q k h)
  have HLEN : Hid ((plusS p q).length = max p.length q.length) := by show _ = _; simp [plusS]
  have HTR := hidD (fun w' v (h : SlAt w' v (plusS p q)) => refTrim_any (plusS p q) (by rw [HLEN.out]; omega) v w' h)
  have HPC : Hid (∀ k, p.length ≤ k → cf p k = 0) := fun k h => cf_ge h
  have HQC : Hid (∀ k, q.length ≤ k → cf q k = 0) := fun k h => cf_ge h
  clear hpb hqb hca1 hca2 hcd1 hcd2
  generalize hlp : p.length = lp at *
  generalize hlq : q.length = lq at *
  have HLP := hidD hlp
  have HLQ := hidD hlq
  clear hlp hlq
  generalize hS : plusS p q = S at *
  have HSS := hidD hS
  clear hS
  have HAL : Hid (∀ (w' : World) o, Below w'.heap.size w' (w'.alloc o)) := fun w' o => (Below.refl _ _).alloc (Nat.le_refl _) o
  go_enter Try.func77, Try.ntmps77
  go_wp2_with fail
  go_loopw [7, 8] (fun o i wr => ∃ k : Nat, k ≤ max lp lq ∧ i = .int .i64 k ∧ wr.ownsRow w.heap.size 5 1 o k ((S.take k).map encB) ∧ Below w.heap.size w wr) (fun _ i _ => max lp lq - (intOf i).toNat)
  case atStart => exact ⟨0, Nat.zero_le _, rfl, World.ownsRow_nil _ _ _ _, Below.refl _ _⟩
  case round =>
    obtain ⟨k, hk, rfl, hown, hbel⟩ := hrel
    have HBL := hidD hbel
    have HOW := hidD hown
    by_cases hlt : k < max lp lq
    · have HNX := hidD (HPT.out k hlt)
      have hki : (k : Int) < lp ∨ ¬ (k : Int) < lp := Classical.em _
      have HO1 : Hid (∀ c, (wr.alloc c).ownsRow w.heap.size 5 1 u7 k ((S.take k).map encB)) := fun c => hown.alloc c
      have HBS : Hid (∀ y : UInt8, ByAt (wr.alloc (.cells #[.int .u8 (y.toNat : Int)] (5 : TypeId))) (.slice (some ⟨wr.heap.size, 0, none⟩) 1 1) [y]) := fun y => append_one y hown
      have HSZ : Hid (w.heap.size ≤ wr.heap.size) := hbel.size
      have hkm : k + 1 ≤ 140737488355328 := by omega
      have HKM : Hid (k < max lp lq) := hlt
      have hor : k < lp ∨ k < lq := by omega
      have HCP : Hid (k < lp → ∃ g o, a = some ⟨g, o, none⟩ ∧ wr.cell? ⟨g, o + k, none⟩ = some (.int .u8 ((cf p k).toNat : Int))) := fun h => by
        obtain ⟨g, o, he, hg, hc⟩ := HSP.out k (by have := HLP.out; omega)
        exact ⟨g, o, he, by rw [hbel.cell (p := ⟨g, _, none⟩) hg]; exact hc⟩
      have HCQ : Hid (k < lq → ∃ g o, d = some ⟨g, o, none⟩ ∧ wr.cell? ⟨g, o + k, none⟩ = some (.int .u8 ((cf q k).toNat : Int))) := fun h => by
        obtain ⟨g, o, he, hg, hc⟩ := HSQ.out k (by have := HLQ.out; omega)
        exact ⟨g, o, he, by rw [hbel.cell (p := ⟨g, _, none⟩) hg]; exact hc⟩
      clear hown hbel hki hlt hk
      by_cases h1 : k < lp
      · obtain ⟨g1, o1, rfl, hc1⟩ := HCP.out h1
        have h1i : (k : Int) < lp := by omega
        have hz1 := zero_xor_u8 (cf p k)
        by_cases h2 : k < lq
        · obtain ⟨g2, o2, rfl, hc2⟩ := HCQ.out h2
          have h2i : (k : Int) < lq := by omega
          have hz2 := xor_u8 (cf p k) (cf q k)
          generalize hx : cf p k ^^^ cf q k = x at *
          clear hx hor
          generalize ((cf p k).toNat : Int) = pk at *
          generalize ((cf q k).toNat : Int) = qk at *
          go_wp2_with (at_builtin; refine wpList_append_by rfl _ _ rfl w.heap.size u7 k ((S.take k).map encB) rfl (HO1.out _) (.slice (some ⟨wr.heap.size, 0, none⟩) 1 1) [x] rfl (HBS.out x) (by simpa using hkm) (by have := HSZ.out; simp; omega) ?_; intro v8 w8 hown8 hg8; have HO8 := hidD hown8; have HB8 := hidD (row_grown (HO1.out _) (Below.next HBL.out (HAL.out _ _)) hg8 (by have := HSZ.out; simp; omega)); clear hown8 hg8)
          go_roundw
          case rel => exact ⟨k + 1, HKM.out, by go_num, by rw [HNX.out]; exact HO8.out, HB8.out⟩
          case measure => have := HKM.out; simp [intOf]; omega
        · have h2i : ¬ (k : Int) < lq := by omega
          have HQZ := hidD (HQC.out k (by omega))
          rw [HQZ.out, xor_zero'] at HNX
          generalize hx : cf p k = x at *
          clear hx hor HCQ HCP HPC HQC HQZ
          go_wp2_with (at_builtin; refine wpList_append_by rfl _ _ rfl w.heap.size u7 k ((S.take k).map encB) rfl (HO1.out _) (.slice (some ⟨wr.heap.size, 0, none⟩) 1 1) [x] rfl (HBS.out x) (by simpa using hkm) (by have := HSZ.out; simp; omega) ?_; intro v8 w8 hown8 hg8; have HO8 := hidD hown8; have HB8 := hidD (row_grown (HO1.out _) (Below.next HBL.out (HAL.out _ _)) hg8 (by have := HSZ.out; simp; omega)); clear hown8 hg8)
          go_roundw
          case rel => exact ⟨k + 1, HKM.out, by go_num, by rw [HNX.out]; exact HO8.out, HB8.out⟩
          case measure => have := HKM.out; simp [intOf]; omega
      · have h2 : k < lq := by omega
        obtain ⟨g2, o2, rfl, hc2⟩ := HCQ.out h2
        have h1i : ¬ (k : Int) < lp := by omega
        have h2i : (k : Int) < lq := by omega
        have hz2 := zero_xor_u8 (cf q k)
        have HPZ := hidD (HPC.out k (by omega))
        rw [HPZ.out, UInt8.zero_xor] at HNX
        generalize hx : cf q k = x at *
        clear hx hor HCQ HCP HPC HQC HPZ
        go_wp2_with (at_builtin; refine wpList_append_by rfl _ _ rfl w.heap.size u7 k ((S.take k).map encB) rfl (HO1.out _) (.slice (some ⟨wr.heap.size, 0, none⟩) 1 1) [x] rfl (HBS.out x) (by simpa using hkm) (by have := HSZ.out; simp; omega) ?_; intro v8 w8 hown8 hg8; have HO8 := hidD hown8; have HB8 := hidD (row_grown (HO1.out _) (Below.next HBL.out (HAL.out _ _)) hg8 (by have := HSZ.out; simp; omega)); clear hown8 hg8)
        go_roundw
        case rel => exact ⟨k + 1, HKM.out, by go_num, by rw [HNX.out]; exact HO8.out, HB8.out⟩
        case measure => have := HKM.out; simp [intOf]; omega
    · obtain rfl : k = max lp lq := by omega
      have h1i : ¬ ((max lp lq : Nat) : Int) < lp := by omega
      have h2i : ¬ ((max lp lq : Nat) : Int) < lq := by omega
      have hsl : SlAt wr u7 S := sl_of_own (base := w.heap.size) (by
        have := hown
        rw [← HLEN.out, List.take_length] at this; exact this)
      have HT := hidD (HTR.out wr u7 hsl)
      clear hown hbel hsl
      generalize max lp lq = M at *
      go_wp2_with (go_at_call 46; refine HT.out.mono ?_; rintro e w9 ⟨v9, rfl, hs9, hb9⟩)
      go_ret
      exact ⟨_, rfl, hs9, Below.next HBL.out hb9⟩
set_option maxRecDepth 100000 in
set_option maxHeartbeats 800000 in
theorem refPlus_nil (vp vq : Value) (w : World) : Calls Try.prog 77 #[.pointer none, vp, vq] w fun e w' => e = .returned (.slice none 0 0) ∧ Below w.heap.size w w' := by
  have HW : Hid (Below w.heap.size w w) := Below.refl _ _
  go_enter Try.func77, Try.ntmps77
  go_wp2_with fail
  go_ret
  exact ⟨rfl, HW.out⟩
end Go.Proofs.Ytdpkeffkpecmjaa
