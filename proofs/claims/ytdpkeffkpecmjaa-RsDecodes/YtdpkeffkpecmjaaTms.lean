/- What Times of the program answers. -/
import Derived.Test.YtdpkeffkpecmjaaTrm
namespace Go.Proofs.Ytdpkeffkpecmjaa
open Go.RowKit
set_option linter.unusedVariables false

/-- A slice value of these bytes, with its place and its spare room. -/
structure SlAt (w : World) (v : Value) (l : List UInt8) : Prop where
  shape : ∃ a cap, v = .slice a l.length cap ∧ l.length ≤ cap ∧ cap ≤ 9223372036854775807
  by' : ByAt w v l
theorem SlAt.next {w w' : World} {v : Value} {l : List UInt8} (h : SlAt w v l) (hb : Below w.heap.size w w') : SlAt w' v l := ⟨h.shape, h.by'.next hb⟩
theorem SlAt.nil (w : World) : SlAt w (.slice none 0 0) [] := ⟨⟨none, 0, rfl, Nat.le_refl _, by omega⟩, .inl ⟨rfl, none, 0, rfl, fun _ => rfl⟩⟩
theorem SlAt.row {w : World} {g : Nat} {L : List UInt8} (h : RowAt w g L) {n : Nat} (hn : n = L.length) (hm : n ≤ 9223372036854775807) : SlAt w (.slice (some ⟨g, 0, none⟩) n n) L := by
  subst hn
  refine ⟨⟨_, _, rfl, Nat.le_refl _, hm⟩, ?_⟩
  have := h.by 0 L.length L.length (by omega)
  rwa [List.drop_zero, List.take_length] at this
theorem row_of_made {w : World} {base g n : Nat} (h : w.ownsRow base 5 1 (.slice (some ⟨g, 0, none⟩) n n) n (madeCells (Value.cells (.int .u8 0)) (n * 1)).toList) : RowAt w g (List.replicate n 0) := by
  have := row_full h
  rw [Nat.mul_one, show Value.cells (.int .u8 0) = #[.int .u8 0] from rfl, toList_madeCells_one] at this
  unfold RowAt
  rw [this, List.map_replicate]; rfl
theorem but_far {g : Nat} {w w3 wr : World} (h3 : Below w.heap.size w w3) (hg : w.heap.size ≤ g) (h : But g w3 wr) : Below w.heap.size w wr := h3.trans (h.bel.mono hg)

set_option maxRecDepth 100000 in
set_option maxHeartbeats 400000 in
theorem times_none {b : Nat} (p q : List UInt8) (hpq : trimS p = [] ∨ trimS q = []) (vp vq : Value) (w : World) (hp : SlAt w vp p) (hq : SlAt w vq q) : Calls Try.prog 51 #[.pointer (some ⟨b, 0, none⟩), vp, vq] w fun e w' => e = .returned (.slice none 0 0) ∧ Below w.heap.size w w' := by
  obtain ⟨⟨a, ca, rfl, hca1, hca2⟩, hpb⟩ := hp
  obtain ⟨⟨d, cd, rfl, hcd1, hcd2⟩, hqb⟩ := hq
  have HTP := hidD (trimmed_any p a ca hca1 hca2 w hpb)
  have HTQ := hidD (trimmed_any q d cd hcd1 hcd2 w hqb)
  have HW : Hid (Below w.heap.size w w) := Below.refl _ _
  have hl : (trimS p).length = 0 ∨ (trimS q).length = 0 := hpq.imp (fun h => by rw [h]; rfl) (fun h => by rw [h]; rfl)
  clear hpq hpb hqb
  have HLP := hidD (trim_len p)
  have HLQ := hidD (trim_len q)
  generalize p.length = lp at *
  generalize q.length = lq at *
  generalize (trimS p).length = tp at *
  generalize (trimS q).length = tq at *
  by_cases h0 : tp = 0
  · subst h0
    clear hl
    go_enter Try.func51, Try.ntmps51
    go_wp2_with (first | (go_at_call 52; refine HTP.out.mono ?_; rintro e w2 ⟨rfl, hb2⟩; clear HTP) | (go_at_call 52; refine HTQ.out.mono ?_; rintro e w2 ⟨rfl, hb2⟩; clear HTQ))
    go_ret
    exact ⟨rfl, HW.out⟩
  · have h1 : tq = 0 := by omega
    subst h1
    have hb0 : ((tp : Int) == 0) = false := by simp; omega
    have hi0 : ¬ (tp : Int) = 0 := by omega
    clear hl
    go_enter Try.func51, Try.ntmps51
    go_wp2_with (first | (go_at_call 52; refine HTP.out.mono ?_; rintro e w2 ⟨rfl, hb2⟩; clear HTP) | (go_at_call 52; refine HTQ.out.mono ?_; rintro e w2 ⟨rfl, hb2⟩; clear HTQ))
    go_ret
    exact ⟨rfl, HW.out⟩

theorem times_bound {tp tq lp lq : Nat} (h1 : tp ≤ lp) (h2 : tq ≤ lq) (h : lp + lq ≤ 281474976710657) : tp + tq - 1 ≤ 281474976710656 := by omega
set_option maxRecDepth 100000 in
set_option maxHeartbeats 800000 in
theorem times_some {P G : UInt8} {b : Nat} (ho : ordS P G = 255) (p q : List UInt8) (hp0 : trimS p ≠ []) (hq0 : trimS q ≠ []) (hsum : p.length + q.length ≤ 281474976710657) (vp vq : Value) (w : World) (hf : FdAt w b P G) (hp : SlAt w vp p) (hq : SlAt w vq q) :
    Calls Try.prog 51 #[.pointer (some ⟨b, 0, none⟩), vp, vq] w fun e w' => ∃ v, e = .returned v ∧ SlAt w' v (mulS P p q) ∧ Below w.heap.size w w' := by
  obtain ⟨⟨a, ca, rfl, hca1, hca2⟩, hpb⟩ := hp
  obtain ⟨⟨d, cd, rfl, hcd1, hcd2⟩, hqb⟩ := hq
  have HTP := hidD (trimmed_any p a ca hca1 hca2 w hpb)
  have HTQ := hidD (trimmed_any q d cd hcd1 hcd2 w hqb)
  have HLP := hidD (trim_len p)
  have HLQ := hidD (trim_len q)
  have hbound := times_bound HLP.out HLQ.out hsum
  have HM : Hid (mulS P p q = timesS P (trimS p) (trimS q)) := by unfold mulS; exact if_neg (fun h => h.elim hp0 hq0)
  have HBP : Hid (ByAt w (.slice a (trimS p).length ca) (trimS p)) := by
    have := hpb.take (n := (trimS p).length) HLP.out
    rw [trim_take] at this; exact this
  have HBQ : Hid (ByAt w (.slice d (trimS q).length cd) (trimS q)) := by
    have := hqb.take (n := (trimS q).length) HLQ.out
    rw [trim_take] at this; exact this
  have hpl : 0 < (trimS p).length := List.length_pos_iff.2 hp0
  have hql : 0 < (trimS q).length := List.length_pos_iff.2 hq0
  have HOFF : Hid (Off (.slice d (trimS q).length cd) w.heap.size) := HBQ.out.off (Nat.le_refl _) hq0
  have HSH := hidD HBP.out.shape'.2
  have HFD := hidD hf
  generalize mulS P p q = M at *
  clear hp0 hq0 hpb hqb hf hsum
  generalize p.length = lp at *
  generalize q.length = lq at *
  generalize trimS p = p' at *
  generalize trimS q = q' at *
  have HALL : Hid (prodL P p' q' (p'.length + q'.length - 1) p'.length = timesS P p' q') := prodL_all P p' q'
  have HZ := hidD (prodL_zero P p' q' (p'.length + q'.length - 1))
  have HPS := hidD (fun i => prodL_step P p' q' (p'.length + q'.length - 1) i)
  have HPL := hidD (fun i => prodL_length P p' q' (p'.length + q'.length - 1) i)
  have HADD := hidD (fun (L : List UInt8) (c : UInt8) (off n cap : Nat) (hn : q'.length ≤ n) (hL : off + q'.length ≤ L.length) (hm : q'.length ≤ 9223372036854775807) (wr : World) h1 h2 h3 h4 h5 => add_any (b := b) ho L q' c w.heap.size off n cap d cd hn hL hm wr h1 h2 h3 h4 h5)
  generalize hlp' : p'.length = tp at *
  generalize hlq' : q'.length = tq at *
  have HLP' := hidD hlp'
  have HLQ' := hidD hlq'
  obtain ⟨n, hn⟩ : ∃ n, tp + tq - 1 = n := ⟨_, rfl⟩
  rw [hn] at HALL HZ HPS HPL hbound
  have hni : (tp : Int) + tq - 1 = (n : Int) := by omega
  have hb0 : ((tp : Int) == 0) = false := by simp; omega
  have hi0 : ¬ (tp : Int) = 0 := by omega
  have hb1 : ((tq : Int) == 0) = false := by simp; omega
  have hi1 : ¬ (tq : Int) = 0 := by omega
  have HNN := hidD hn
  have HPP := hidD hpl
  have HQQ := hidD hql
  clear hn hlp' hlq' hpl hql hca1 hca2 hcd1 hcd2
  obtain ⟨i0, hi, hz0, hz1, hz2⟩ := info_parts Try.info5
  have hi5 : (Try.prog.info? 5).map (·.size) = some 1 := by rw [hi]; simp [hz1]
  go_enter Try.func51, Try.ntmps51
  go_wp2_with (first
    | (go_at_call 52; refine HTP.out.mono ?_; rintro e w2 ⟨rfl, hb2⟩; clear HTP) | (go_at_call 52; refine HTQ.out.mono ?_; rintro e w2 ⟨rfl, hb2⟩; clear HTQ)
    | (at_make; refine wpList_make_full _ rfl _ _ 22 rfl w.heap.size 5 i0 (.int .u8 0) 1 Try.underlying22 hi hz0 hz1 _ _ _ _ n rfl rfl (by omega) (by omega) (by rw [hz2]; omega) (by unfold maxLen; omega) (Nat.le_refl _) ?_; intro w3 hown3 hg3; have HR3 := hidD (row_of_made hown3); have HB3 : Hid (Below w.heap.size w w3) := ((Below.refl w.heap.size w).grown hg3 (Nat.le_refl _) (fun k hk => by cases hk)); clear hown3 hg3))
  have HR0 : Hid (RowAt w3 w.heap.size (prodL P p' q' n 0)) := by rw [HZ.out]; exact HR3.out
  have HGL : Hid (w.heap.size < w3.heap.size) := HR3.out.lt
  have HF3 := hidD (HFD.out.next HB3.out)
  have HBG : Hid (b ≠ w.heap.size) := Nat.ne_of_lt HFD.out.lt
  have HQ3 := hidD (HBQ.out.next HB3.out)
  have hnl : (0 : Int) ≤ n := by omega
  generalize hg : w.heap.size = g at *
  have HG := hidD hg
  clear hg
  go_loopw [35] (fun i wr => ∃ k : Nat, k ≤ tp ∧ i = .int .i64 k ∧ RowAt wr g (prodL P p' q' n k) ∧ But g w3 wr) (fun i _ => tp - (intOf i).toNat)
  case atStart => exact ⟨0, Nat.zero_le _, rfl, HR0.out, But.refl _ _⟩
  case round =>
    obtain ⟨k, hk, rfl, hrow, hbut⟩ := hrel
    have HBU := hidD hbut
    have HRW := hidD hrow
    by_cases hlt : k < tp
    · obtain ⟨h, o, rfl, hh, hc⟩ := HSH.out k (by have := HLP'.out; omega)
      have hlti : (k : Int) < tp := by omega
      have hcq : wr.cell? ⟨h, o + k, none⟩ = some (.int .u8 ((cf p' k).toNat : Int)) := by
        rw [hbut.cell (Nat.lt_of_lt_of_le hh (by have := HGL.out; omega)) (Nat.ne_of_lt hh), HB3.out.cell (p := ⟨h, o + k, none⟩) hh]; exact hc
      have hkn : k < n := by have := HNN.out; have := HQQ.out; omega
      have hknn : ¬ n = k := by omega
      have hkni : (k : Int) ≤ n := by omega
      have HA : Hid (∀ cap, Calls Try.prog 55 #[.pointer (some ⟨b, 0, none⟩), .slice (some ⟨g, k, none⟩) (n - k) cap, .slice d tq cd, .int .u8 ((cf p' k).toNat : Int)] wr fun e w' => e = .returned (.tuple #[]) ∧ RowAt w' g (prodL P p' q' n (k + 1)) ∧ But g wr w') := fun cap => by
        have := HADD.out (prodL P p' q' n k) (cf p' k) k (n - k) cap (by have := HNN.out; omega) (by rw [HPL.out]; have := HNN.out; omega) (by omega) wr (hbut.fd HF3.out HBG.out) HBG.out hrow (HQ3.out.but hbut HOFF.out) HOFF.out
        rw [HPS.out] at this
        exact this
      generalize (cf p' k).toNat = c at *
      clear hrow hbut hc hh
      go_wp2_with (go_at_call 55; refine (HA.out _).mono ?_; rintro e w4 ⟨rfl, hr4, hb4⟩)
      go_roundw
      case rel => exact ⟨k + 1, by omega, by go_num, hr4, HBU.out.trans hb4⟩
      case measure => simp [intOf]; omega
    · obtain rfl : k = tp := by omega
      clear hrow hbut
      go_wp2_with fail
      go_ret
      refine ⟨_, rfl, ?_, ?_⟩
      · rw [HM.out, ← HALL.out]
        refine SlAt.row HRW.out (by rw [HPL.out]) (by omega)
      · rw [HG.out]; exact HB3.out.trans HBU.out.bel
end Go.Proofs.Ytdpkeffkpecmjaa
