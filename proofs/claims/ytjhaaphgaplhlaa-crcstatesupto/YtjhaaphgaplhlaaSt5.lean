/- The walk of CrcStates, models that are valid. -/
import Derived.Test.YtjhaaphgaplhlaaSt4
import Derived.Test.YtjhaaphgaplhlaaLiv
namespace Go.Proofs.Ytjhaaphgaplhlaa
open Go.RowKit
set_option linter.unusedVariables false

theorem row_but {B : Nat} {e : TypeId} {k : Nat} {v : Value} {n : Nat} {xs : List Value} {w w' : World} {g : Nat} (h : w.ownsRow B e k v n xs) (hb : But g w w') (hg : g < B) : w'.ownsRow B e k v n xs := by
  refine ⟨h.1, ?_⟩
  rcases h.2 with h0 | ⟨g1, cap, cur, hv, hbg, hg1, h3, h4, h5, h6⟩
  · exact .inl h0
  · exact .inr ⟨g1, cap, cur, hv, hbg, by rw [hb.rest g1 (row_lt hg1) (by omega)]; exact hg1, h3, h4, h5, h6⟩
theorem row_ne {B : Nat} {e : TypeId} {k : Nat} {v : Value} {n : Nat} {xs : List Value} {w : World} {g : Nat} (h : w.ownsRow B e k v n xs) (hg : g < B) (a : Addr) (cap : Nat) (hv : v = .slice (some a) n cap) : a.block ≠ g := by
  rcases h.2 with ⟨h0, _⟩ | ⟨g1, cap1, cur, h1, hbg, _⟩
  · rw [h0] at hv; cases hv
  · rw [h1] at hv; injection hv with e1 e2 e3; injection e1 with e1; subst e1; show g1 ≠ g; omega
theorem row_far {B n0 : Nat} {e : TypeId} {k : Nat} {v : Value} {n : Nat} {xs : List Value} {w w' : World} (h : w.ownsRow B e k v n xs) (hb : Below n0 w w') (hv : ∀ a cap, v = .slice (some a) n cap → a.block < n0) : w'.ownsRow B e k v n xs := by
  refine ⟨h.1, ?_⟩
  rcases h.2 with h0 | ⟨g1, cap, cur, hv1, hbg, hg1, h3, h4, h5, h6⟩
  · exact .inl h0
  · exact .inr ⟨g1, cap, cur, hv1, hbg, by rw [hb.block g1 (hv _ _ hv1)]; exact hg1, h3, h4, h5, h6⟩
theorem row_in {B : Nat} {e : TypeId} {k : Nat} {v : Value} {n : Nat} {xs : List Value} {w : World} (h : w.ownsRow B e k v n xs) (a : Addr) (cap : Nat) (hv : v = .slice (some a) n cap) : a.block < w.heap.size := by
  rcases h.2 with ⟨h0, _⟩ | ⟨g1, cap1, cur, h1, hbg, hg1, _⟩
  · rw [h0] at hv; cases hv
  · rw [h1] at hv; injection hv with e1 e2 e3; injection e1 with e1; subst e1; exact row_lt hg1
theorem But.far {g : Nat} {a b c : World} (h : But g a b) (k : Below a.heap.size b c) (hg : g ≤ a.heap.size) : But g a c := ⟨h.bel.trans (k.mono hg), fun i hi hn => (k.block i hi).trans (h.rest i hi hn)⟩
theorem StAt.far {w w' : World} {m : Md} {gs gm gx gt r n B : Nat} (h : StAt w m gs gm gx gt r n) (hb : Below B w w') (hB : gs < B) : StAt w' m gs gm gx gt r n :=
  ⟨by rw [hb.block _ hB]; exact h.st, h.sp.below hb (Nat.lt_trans h.h1 hB) (Nat.lt_trans h.h2 hB) (Nat.lt_trans h.h3 hB), h.h1, h.h2, h.h3⟩

/-- A slice of slices reads as these texts. -/
def PcAt (w : World) (sl : Value) (L : List (List UInt8)) : Prop := ∃ a cap, sl = .slice a L.length cap ∧ ∀ k, k < L.length → ∃ g off v, a = some ⟨g, off, none⟩ ∧ g < w.heap.size ∧ w.cell? ⟨g, off + k, none⟩ = some v ∧ ByAt w v (L.getD k [])
theorem flat_take {L : List (List UInt8)} {k : Nat} (h : k < L.length) : (L.take (k + 1)).flatten = (L.take k).flatten ++ L.getD k [] := by
  rw [List.take_add_one, List.flatten_append, List.getElem?_eq_getElem h, List.getD_eq_getElem?_getD, List.getElem?_eq_getElem h]; simp
theorem flat_le {L : List (List UInt8)} (hp : ∀ k, k < L.length → (L.getD k []).length ≤ 1048576) : ∀ k, k ≤ L.length → (L.take k).flatten.length ≤ k * 1048576
  | 0, _ => by simp
  | k + 1, h => by
    have h1 := flat_le hp k (by omega)
    have h2 := hp k (by omega)
    rw [flat_take (by omega), List.length_append]; omega

set_option maxRecDepth 100000 in
set_option maxHeartbeats 4000000 in
theorem states_valid (m : Md) (hm : MdOk m) (L : List (List UInt8)) (hL : L.length ≤ 1048576) (hp : ∀ k, k < L.length → (L.getD k []).length ≤ 1048576) (sl : Value) (w : World) (hs : PcAt w sl L) : Calls Try.prog 6 #[m.v, sl] w fun e w' => e = .returned (.bool true) ∧ Below w.heap.size w w' := by
  obtain ⟨a, cap, rfl, hsh⟩ := hs
  have HSH := hidD hsh
  have HLV := hidD live_any
  have HM : Hid (∀ w, Calls Try.prog 22 #[m.v] w fun e w' => e = .returned m.v ∧ Below w.heap.size w w') := fun w => mine_any ⟨m.name, m.w, m.P, m.I, m.inn, m.out, m.X⟩ w
  have HT : Hid (∀ w, Calls Try.prog 23 #[m.v] w fun e w' => e = .returned m.v ∧ Below w.heap.size w w') := fun w => theirs_any ⟨m.name, m.w, m.P, m.I, m.inn, m.out, m.X⟩ w
  have HN := hidD no_any
  have HV : Hid (∀ w, Calls Try.prog 26 #[m.v] w fun e w' => e = .returned (.bool true) ∧ Below w.heap.size w w') := fun w => refValid_any ⟨m.name, m.w, m.P, m.I, m.inn, m.out, m.X⟩ hm.raw true (by simp [Md.valid m hm]) w
  have HBG := hidD (fun w => begin_some m hm w)
  have HSM : Hid (∀ (gs gm gx gt n : Nat) (bs : List UInt8) (w : World), StAt w m gs gm gx gt (regS m bs) n → Calls Try.prog 41 #[.pointer (some ⟨gs, 0, none⟩)] w fun e w' => e = .returned (.int .u64 (sumS m bs : Nat)) ∧ Below w.heap.size w w') := fun gs gm gx gt n bs w h => stSum_any m hm gs gm gx gt (regS m bs) n (reg_lt hm bs) w h
  have HLN := hidD (fun (gs gm gx gt r n : Nat) (w : World) h => len_any m gs gm gx gt r n w h)
  have HRS : Hid (∀ (bs : List UInt8) (hl : bs.length ≤ 9223372036854775807) (sl : Value) (w : World), ByAt w sl bs → Calls Try.prog 19 #[m.v, sl] w fun e w' => e = .returned (.tuple #[.int .u64 (sumS m bs : Nat), .int .i64 0]) ∧ Below w.heap.size w w') := fun bs hl sl w h => refSum_some m hm bs hl sl w h
  have HWR : Hid (∀ (gs gm gx gt : Nat) (A p : List UInt8) (hA : A.length ≤ 1099511627776) (hp : p.length ≤ 1048576) (sl : Value) (w : World), StAt w m gs gm gx gt (regS m A) A.length → ByAt w sl p → (∀ a cap, sl = .slice (some a) p.length cap → a.block ≠ gs) → Calls Try.prog 40 #[.pointer (some ⟨gs, 0, none⟩), sl] w fun e w' => e = .returned (.int .i64 p.length) ∧ StAt w' m gs gm gx gt (regS m (A ++ p)) (A ++ p).length ∧ But gs w w') := fun gs gm gx gt A p hA hp sl w h1 h2 h3 => by
    have h := write_any m hm gs gm gx gt (regS m A) A.length (reg_lt hm A) p (by omega) sl w h1 h2 h3
    rw [show runB m.w m.P (regS m A) (streamOf m.inn p) = regS m (A ++ p) by unfold regS; rw [stream_append, run_append], Nat.mod_eq_of_lt (by omega), ← List.length_append] at h
    exact h
  have HFL := hidD (fun k h => flat_le hp k h)
  have HPL := hidD hp
  have HTK := hidD (fun k (h : k < L.length) => flat_take h)
  have HA := hidD (MdAt.new m w 46)
  have HB0 : Hid (Below w.heap.size w (w.alloc (.cells m.cells 46))) := (Below.refl w.heap.size w).alloc (Nat.le_refl _) _
  have HSZ : Hid (w.heap.size < (w.alloc (.cells m.cells 46)).heap.size) := by show _ < _; simp
  have HR0 : Hid (regS m [] = m.I) := rfl
  generalize sumS m = SM at *
  generalize hRG : regS m = RM at *
  clear hRG
  clear hm hsh hp
  obtain ⟨nm, ww, P, I, inn, out, X⟩ := m
  simp only [Md.v, Md.cells] at HM HT HV HBG HRS HA HB0 HSZ HR0 ⊢
  go_enter Try.func6, Try.ntmps6
  go_wp2_with (first
    | (go_at_call 22; refine (HM.out _).mono ?_; rintro e w1 ⟨rfl, hb1⟩; have HB1 := hidD (Below.next HB0.out hb1); have HA1 := hidD (HA.out.below hb1 HSZ.out); have HL1 := hidD (Nat.lt_of_lt_of_le HSZ.out hb1.size); clear hb1)
    | (go_at_call 39; refine (HBG.out _).mono ?_; rintro e w2 ⟨gs, gm, gx, gt, rfl, l1, l2, l3, hst, hb2⟩; have HB2 := hidD (Below.next HB1.out hb2); have HA2 := hidD (HA1.out.below hb2 HL1.out); have HL2 := hidD (Nat.lt_of_lt_of_le HL1.out hb2.size); have HS2 := hidD hst; have HG0 := hidD (Nat.lt_of_lt_of_le HL1.out (Nat.le_trans l1 (Nat.le_of_lt hst.h1))); clear l1 l2 l3 hst hb2))
  have hcl : ∀ i : BW w2, MdAt i.v w.heap.size ⟨nm, ww, P, I, inn, out, X⟩ := fun i => HA2.out.below i.below HL2.out
  have k0 := fun i => (hcl i).c0
  have k1 := fun i => (hcl i).c1
  have k2 := fun i => (hcl i).c2
  have k3 := fun i => (hcl i).c3
  have k4 := fun i => (hcl i).c4
  have k5 := fun i => (hcl i).c5
  have k6 := fun i => (hcl i).c6
  simp only at k0 k1 k2 k3 k4 k5 k6
  clear hcl
  refine wp_region_below (by kernel_rfl) (by kernel_rfl) ?_
  repeat (go_big_quiet_step ((first | (go_at_call 27; exact Calls.below_of (HN.out _ _)) | (go_at_call 23; exact Calls.below_of (HT.out _)) | (go_at_call 26; exact Calls.below_of (HV.out _)) | (go_at_call 13; exact Calls.below_of (HLV.out _)))))
  refine wpQuiet_nil ?_
  intro i
  have HWB := hidD (Below.next HB2.out i.below)
  have HMB := hidD (HA2.out.below i.below HL2.out)
  have HSB := hidD (HS2.out.next i.below)
  clear k0 k1 k2 k3 k4 k5 k6
  generalize i.v = wB at *
  clear HS2 HA2 HB2 HL2 HL1 HA1 HB1 HA HB0 HSZ i
  have HGB := hidD (row_lt HSB.out.st)
  have HBX : Hid (∀ wx, But gs wB wx → Below w.heap.size w wx) := fun wx h => HWB.out.trans (h.bel.mono (Nat.le_of_lt HG0.out))
  have HMX : Hid (∀ wx, But gs wB wx → MdAt wx w.heap.size ⟨nm, ww, P, I, inn, out, X⟩) := fun wx h => HMB.out.below h.bel HG0.out
  go_wp2_with fail
  go_loopw [8, 9] (fun o i wr => ∃ k : Nat, k ≤ L.length ∧ i = .int .i64 k ∧ wr.ownsRow wB.heap.size 5 1 o (L.take k).flatten.length ((L.take k).flatten.map encB) ∧ StAt wr ⟨nm, ww, P, I, inn, out, X⟩ gs gm gx gt (RM (L.take k).flatten) (L.take k).flatten.length ∧ But gs wB wr) (fun _ i _ => L.length - (intOf i).toNat)
  case atStart => exact ⟨0, Nat.zero_le _, rfl, World.ownsRow_nil _ _ _ _, by simp only [List.take_zero, List.flatten_nil, List.length_nil]; rw [HR0.out]; exact HSB.out, But.refl _ _⟩
  case round =>
    obtain ⟨k, hk, rfl, hown, hst, hbut⟩ := hrel
    obtain ⟨wo, hwo⟩ : ∃ wo, wo = wr := ⟨_, rfl⟩
    subst hwo
    obtain ⟨ad, cd, hde⟩ := row_shape hown
    subst hde
    have hAl : (L.take k).flatten.length ≤ 1099511627776 := Nat.le_trans (HFL.out k hk) (by omega)
    have HAL := hidD hAl
    have HOW := hidD hown
    have HST := hidD hst
    have HBU := hidD hbut
    have HGR := hidD (Nat.le_of_lt (row_lt hst.st))
    have HBR := hidD hbut.bel.size
    by_cases hlt : k < L.length
    · have hlti : (k : Int) < L.length := by omega
      obtain ⟨g, off, v, rfl, hg, hc, hby⟩ := HSH.out k hlt
      obtain ⟨av, cv, hv, _⟩ := hby.shape
      subst hv
      have HPC : Hid (∀ wx, But gs wB wx → wx.cell? ⟨g, off + k, none⟩ = some (.slice av (L.getD k []).length cv)) := fun wx h => ((HBX.out wx h).cell (p := ⟨g, off + k, none⟩) hg).trans hc
      have HPB : Hid (∀ wx, But gs wB wx → ByAt wx (.slice av (L.getD k []).length cv) (L.getD k [])) := fun wx h => hby.below (HBX.out wx h) (Nat.le_refl _)
      have HPN := hidD (HPL.out k hlt)
      have HTE := hidD (HTK.out k hlt)
      have p0 := HPC.out _ hbut
      clear hown hst hbut hc hby hg hAl
      generalize L.getD k [] = p at *
      generalize (L.take k).flatten = A at *
      have HAP : Hid ((A ++ p).length = A.length + p.length) := List.length_append
      have HAM : Hid ((A ++ p).map encB = A.map encB ++ p.map encB) := List.map_append
      have HW1 := hidD (HWR.out gs gm gx gt A p HAL.out HPN.out)
      generalize A ++ p = A1 at *
      have HA1 : Hid (A1.length ≤ 1099512676352) := by show _ ≤ _; rw [HAP.out]; have := HAL.out; have := HPN.out; omega
      have hwl : IntKind.u64.wrap (A1.length : Int) = (A1.length : Int) := by rw [IntKind.wrap_u64]; have := HA1.out; omega
      have hwm : (A1.length : Int) % 18446744073709551616 = (A1.length : Int) := by have := HA1.out; omega
      have HOWN : Hid (∀ wx, ByAt wx (.slice av p.length cv) p → Calls Try.prog 21 #[.slice av p.length cv] wx fun e w' => ∃ v, e = .returned v ∧ w'.ownsRow wx.heap.size 5 1 v p.length (p.map encB) ∧ Below wx.heap.size wx w') := fun wx h => own_any p (by have := HPN.out; omega) _ wx h
      have HSA : Hid (∀ s1 s2 w, ByAt w s1 p → ByAt w s2 p → Calls Try.prog 28 #[s1, s2] w fun e w' => e = .returned (.bool true) ∧ Below w.heap.size w w') := fun s1 s2 w h1 h2 => sameBytes_same p (by have := HPN.out; omega) s1 s2 w h1 h2
      go_wp2_with (first
        | (go_at_call 21; refine (HOWN.out _ (HPB.out _ HBU.out)).mono ?_; rintro e w4 ⟨v10, rfl, hown4, hb4⟩; have HBU4 := hidD (HBU.out.trans (But.of hb4 HGR.out)); have HST4 := hidD (HST.out.next hb4); have HOW4 := hidD (row_below HOW.out hb4); obtain ⟨a10, c10, hv10⟩ := row_shape hown4; subst hv10; have HO4 := hidD hown4; have HSW4 := hidD hb4.size; clear hown4 hb4)
        | (go_at_call 40; refine (HW1.out _ _ HST4.out (row_by HO4.out) (row_ne HO4.out (Nat.lt_of_lt_of_le HGB.out HBR.out))).mono ?_; rintro e w5 ⟨rfl, hst5, hbut5⟩; have HST5 := hidD hst5; have HBU5 := hidD (HBU4.out.trans hbut5); have HO5 := hidD (row_but HO4.out hbut5 (Nat.lt_of_lt_of_le HGB.out HBR.out)); have HOW5 := hidD (row_but HOW4.out hbut5 HGB.out); have HSW5 := hidD (Nat.le_trans HSW4.out hbut5.bel.size); have p5 := HPC.out _ HBU5.out; clear hst5 hbut5)
        | (go_at_call 28; refine (HSA.out _ _ _ (row_by HO5.out) (HPB.out _ HBU5.out)).mono ?_; rintro e w6 ⟨rfl, hb6⟩; have HST6 := hidD (HST5.out.next hb6); have HBU6 := hidD (HBU5.out.trans (But.of hb6 (Nat.le_trans HGR.out HSW5.out))); have HO6 := hidD (row_below HO5.out hb6); have HOW6 := hidD (row_below HOW5.out hb6); have HSW6 := hidD (Nat.le_trans HSW5.out hb6.size); clear hb6))
      clear p0 p5 HST4 HST5 HO4 HO5 HOW4 HOW5 HBU4 HBU5
      have HRI := hidD (row_in HOW.out)
      go_loopw [11] (fun j wq => ∃ (y : Nat) (q : List UInt8), y ≤ p.length ∧ j = .int .i64 y ∧ q.length = p.length ∧ wq.ownsRow wo.heap.size 5 1 (.slice a10 p.length c10) p.length (q.map encB) ∧ Below wo.heap.size w6 wq) (fun j _ => p.length - (intOf j).toNat)
      case atStart => exact ⟨0, p, Nat.zero_le _, rfl, rfl, HO6.out, Below.refl _ _⟩
      case round =>
        obtain ⟨y, q, hy, rfl, hql, hownq, hbq⟩ := hrel
        have HBQ := hidD hbq
        by_cases hyl : y < p.length
        · have hyli : (y : Int) < p.length := by omega
          obtain ⟨g10, c11, hv, hbg, _, _⟩ := row_shapeC hownq (by omega)
          injection hv with e1 e2 e3
          subst e1 e3
          have hyq : y < q.length := by omega
          have hce : wr.cell? ⟨g10, y, none⟩ = some (.int .u8 ((q.getD y 0).toNat : Int)) := by
            rw [hownq.cellAt y (by omega), List.getElem?_map, List.getElem?_eq_getElem hyq, List.getD_eq_getElem?_getD, List.getElem?_eq_getElem hyq]; rfl
          have hfr := hownq.frozenAt y
          have HSQ := hidD (fun u => (hownq.stored y u).1)
          have hxo : bits .xor .u8 ((q.getD y 0).toNat : Int) 255 = (((q.getD y 0 ^^^ 255).toNat : Nat) : Int) := by rw [UInt8.toNat_xor]; exact u8_xor_nat _ 255 (q.getD y 0).toNat_lt (by omega)
          have HEQ : Hid ((q.map encB).set y (.int .u8 (((q.getD y 0 ^^^ 255).toNat : Nat) : Int)) = (q.set y (q.getD y 0 ^^^ 255)).map encB) := by show _ = _; rw [List.map_set]; rfl
          have HQL : Hid ((q.set y (q.getD y 0 ^^^ 255)).length = p.length) := by show _ = _; rw [List.length_set]; exact hql
          have HBG2 := hidD hbg
          clear hownq hbq hql hyq hbg
          generalize q.set y (q.getD y 0 ^^^ 255) = q2 at *
          generalize (q.getD y 0 ^^^ 255).toNat = XV at *
          generalize (q.getD y 0).toNat = xv at *
          have hpl := HPN.out
          go_wp2_with fail
          go_roundw
          case rel => exact ⟨y + 1, q2, by omega, by go_num, HQL.out, by rw [← HEQ.out]; exact HSQ.out _, HBQ.out.setCell (p := ⟨g10, y, none⟩) HBG2.out _⟩
          case measure => simp [intOf]; omega
        · have HGO := hidD (Nat.lt_of_lt_of_le HGB.out HBR.out)
          have HSTq := hidD (HST6.out.far HBQ.out HGO.out)
          have HBUq := hidD (HBU6.out.far (HBQ.out.mono HBR.out) (Nat.le_of_lt HGB.out))
          have HOWq := hidD (row_far HOW6.out HBQ.out HRI.out)
          have HBS := hidD HBUq.out.bel.size
          have pq := HPC.out _ HBUq.out
          clear hownq hbq hql HST6 HBU6 HOW6 HO6 HOW HST HBU
          go_wp2_with (first
            | (at_builtin; refine wpList_append_by rfl _ _ rfl wB.heap.size (.slice ad A.length cd) A.length (A.map encB) rfl HOWq.out (.slice av p.length cv) p rfl (HPB.out _ HBUq.out) (by have := HAL.out; have := HPN.out; omega) HBS.out ?_; intro v8 w8 hown8 hg8; rw [← HAP.out, ← HAM.out] at hown8; have hb8 : Below wB.heap.size wr w8 := row_grown HOWq.out (Below.refl _ _) hg8 HBS.out; have HST8 := hidD (HSTq.out.far hb8 HGB.out); have HBU8 := hidD (HBUq.out.far hb8 (Nat.le_of_lt HGB.out)); obtain ⟨a8, c8, hv8⟩ := row_shape hown8; subst hv8; have HO8 := hidD hown8; obtain ⟨k0, k1, k2, k3, k4, k5, k6⟩ := HMX.out _ HBU8.out; simp only at k0 k1 k2 k3 k4 k5 k6; clear hown8 hg8 hb8)
            | (go_at_call 23; refine (HT.out _).mono ?_; rintro e w9 ⟨rfl, hb9⟩; have HST9 := hidD (HST8.out.next hb9); have HBU9 := hidD (HBU8.out.trans (But.of hb9 (Nat.le_of_lt (row_lt HST8.out.st)))); have HO9 := hidD (row_below HO8.out hb9); clear hb9 k0 k1 k2 k3 k4 k5 k6)
            | (go_at_call 19; refine (HRS.out A1 (by have := HA1.out; omega) _ _ (row_by HO9.out)).mono ?_; rintro e w10 ⟨rfl, hb10⟩; have HST10 := hidD (HST9.out.next hb10); have HBU10 := hidD (HBU9.out.trans (But.of hb10 (Nat.le_of_lt (row_lt HST9.out.st)))); have HO10 := hidD (row_below HO9.out hb10); clear hb10)
            | (go_at_call 41; refine (HSM.out gs gm gx gt _ _ _ HST10.out).mono ?_; rintro e w11 ⟨rfl, hb11⟩; have HST11 := hidD (HST10.out.next hb11); have HBU11 := hidD (HBU10.out.trans (But.of hb11 (Nat.le_of_lt (row_lt HST10.out.st)))); have HO11 := hidD (row_below HO10.out hb11); clear hb11)
            | (go_at_call 42; refine (HLN.out gs gm gx gt _ _ _ HST11.out).mono ?_; rintro e w12 ⟨rfl, hb12⟩; have HST12 := hidD (HST11.out.next hb12); have HBU12 := hidD (HBU11.out.trans (But.of hb12 (Nat.le_of_lt (row_lt HST11.out.st)))); have HO12 := hidD (row_below HO11.out hb12); clear hb12))
          go_roundw
          case rel => exact ⟨k + 1, by omega, by go_num, by rw [HTE.out]; exact HO12.out, by rw [HTE.out]; exact HST12.out, HBU12.out⟩
          case measure => simp [intOf]; omega
    · obtain rfl : k = L.length := by omega
      obtain ⟨k0, k1, k2, k3, k4, k5, k6⟩ := HMX.out _ hbut
      simp only at k0 k1 k2 k3 k4 k5 k6
      clear hown hst hbut hAl HTK
      generalize (L.take L.length).flatten = A at *
      go_wp2_with (first
        | (go_at_call 23; refine (HT.out _).mono ?_; rintro e w9 ⟨rfl, hb9⟩; have HST9 := hidD (HST.out.next hb9); have HBU9 := hidD (HBU.out.trans (But.of hb9 HGR.out)); have HO9 := hidD (row_below HOW.out hb9); clear hb9 k0 k1 k2 k3 k4 k5 k6)
        | (go_at_call 19; refine (HRS.out A (by have := HAL.out; omega) _ _ (row_by HO9.out)).mono ?_; rintro e w10 ⟨rfl, hb10⟩; have HST10 := hidD (HST9.out.next hb10); have HBU10 := hidD (HBU9.out.trans (But.of hb10 (Nat.le_of_lt (row_lt HST9.out.st)))); clear hb10)
        | (go_at_call 41; refine (HSM.out gs gm gx gt _ _ _ HST10.out).mono ?_; rintro e w11 ⟨rfl, hb11⟩; have HBU11 := hidD (HBU10.out.trans (But.of hb11 (Nat.le_of_lt (row_lt HST10.out.st)))); clear hb11))
      go_ret
      exact ⟨rfl, HBX.out _ HBU11.out⟩
end Go.Proofs.Ytjhaaphgaplhlaa
