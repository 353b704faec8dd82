/- What trimmed and add of the program answer. -/
import Derived.Test.YtdpkeffkpecmjaaRow
import Derived.Test.YtdpkeffkpecmjaaPly
namespace Go.Proofs.Ytdpkeffkpecmjaa
open Go.RowKit
set_option linter.unusedVariables false

theorem ByAt.shape' {w : World} {a : Option Addr} {n cap : Nat} {bs : List UInt8} (h : ByAt w (.slice a n cap) bs) : n = bs.length ∧ ∀ k, k < bs.length → ∃ g off, a = some ⟨g, off, none⟩ ∧ g < w.heap.size ∧ w.cell? ⟨g, off + k, none⟩ = some (.int .u8 ((cf bs k).toNat : Int)) := by
  obtain ⟨a', cap', he, hc⟩ := h.shape
  simp only [Value.slice.injEq] at he
  obtain ⟨rfl, he2, rfl⟩ := he
  exact ⟨by omega, hc⟩

set_option maxRecDepth 100000 in
set_option maxHeartbeats 400000 in
theorem trimmed_any (bs : List UInt8) (a : Option Addr) (cap : Nat) (hcap : bs.length ≤ cap) (hl : cap ≤ 9223372036854775807) (w : World) (hs : ByAt w (.slice a bs.length cap) bs) : Calls Try.prog 52 #[.slice a bs.length cap] w fun e w' => e = .returned (.slice a (trimS bs).length cap) ∧ w' = w := by
  have HSH := hidD hs.shape'.2
  have HT := hidD (fun n h1 h2 h3 => trim_at (l := bs) (n := n) h1 h2 h3)
  clear hs
  generalize hn : bs.length = n at *
  have HN := hidD hn
  generalize ht : (trimS bs).length = t
  have HTT := hidD ht
  clear hn ht
  go_enter Try.func52, Try.ntmps52
  go_wp2_with fail
  go_loopw [3] (fun i wr => ∃ k : Nat, k ≤ n ∧ i = .int .i64 k ∧ (∀ j, k ≤ j → cf bs j = 0) ∧ wr = w) (fun i _ => (intOf i).toNat)
  case atStart => exact ⟨n, Nat.le_refl _, rfl, fun j hj => cf_ge (by have := HN.out; omega), rfl⟩
  case round =>
    obtain ⟨k, hk, rfl, hall, rfl⟩ := hrel
    have HA := hidD hall
    clear hall
    by_cases h0 : k = 0
    · subst h0
      have HE : Hid (t = 0) := by
        show _ = _
        rw [← HTT.out, HT.out 0 (Nat.zero_le _) HA.out (.inl rfl)]; simp
      have hcapi : (0 : Int) ≤ cap := by omega
      clear HT HA
      go_wp2_with fail
      go_ret
      exact ⟨by rw [HE.out]; rfl, rfl⟩
    · obtain ⟨m, rfl⟩ : ∃ m, k = m + 1 := ⟨k - 1, by omega⟩
      obtain ⟨g, off, rfl, hg, hc⟩ := HSH.out m (by omega)
      have hm1 : (((m + 1 : Nat) : Int)) - 1 = (m : Int) := by omega
      have hpos : (0 : Int) < ((m + 1 : Nat) : Int) := by omega
      have hml : (m : Int) < n := by omega
      have hkc : ((m + 1 : Nat) : Int) ≤ cap := by omega
      by_cases hz : cf bs m = 0
      · have HA2 : Hid (∀ j, m ≤ j → cf bs j = 0) := fun j hj => by
          by_cases he : j = m
          · subst he; exact hz
          · exact HA.out j (by omega)
        have hv : ((cf bs m).toNat : Int) = 0 := by rw [hz]; rfl
        rw [hv] at hc
        clear hz HA hv
        go_wp2_with fail
        go_roundw
        case rel => exact ⟨m, by omega, by congr 1, HA2.out, trivial⟩
        case measure => simp [intOf]
      · have hv := u8_ne hz
        have hvb := u8_bne hz
        have HE : Hid (t = m + 1) := by
          have hn := HN.out
          show _ = _
          rw [← HTT.out, HT.out (m + 1) (by omega) HA.out (.inr (by simpa using hz)), List.length_take]; omega
        clear hz HA HT
        generalize ((cf bs m).toNat : Int) = v at *
        go_wp2_with fail
        go_ret
        exact ⟨by rw [HE.out]; rfl, rfl⟩

set_option maxRecDepth 100000 in
set_option maxHeartbeats 400000 in
theorem add_any {P G : UInt8} {b : Nat} (ho : ordS P G = 255) (L q : List UInt8) (c : UInt8) (g off n cap : Nat) (sa : Option Addr) (ca : Nat) (hn : q.length ≤ n) (hL : off + q.length ≤ L.length) (hmax : q.length ≤ 9223372036854775807)
    (w : World) (hf : FdAt w b P G) (hbg : b ≠ g) (hr : RowAt w g L) (hq : ByAt w (.slice sa q.length ca) q) (hqg : Off (.slice sa q.length ca) g) :
    Calls Try.prog 55 #[.pointer (some ⟨b, 0, none⟩), .slice (some ⟨g, off, none⟩) n cap, .slice sa q.length ca, .int .u8 (c.toNat : Int)] w fun e w' => e = .returned (.tuple #[]) ∧ RowAt w' g (addL P L off q c) ∧ But g w w' := by
  have HSH := hidD hq.shape'.2
  have HF := hidD hf
  have HOF : Hid (∀ k o, sa = some ⟨k, o, none⟩ → k ≠ g) := fun k o he => hqg k o _ _ (by rw [he])
  have HST := hidD (fun j hj => addL_step P L off q c j hj hL)
  have HLEN := hidD (fun j => addL_length P L off (q.take j) c)
  have HR0 : Hid (RowAt w g (addL P L off (q.take 0) c)) := by rw [List.take_zero, addL_nil]; exact hr
  have HEND : Hid (q.take q.length = q) := List.take_length
  have HLL := hidD hL
  have HGW := hidD hr.lt
  have HBG := hidD hbg
  clear hf hr hq hqg hbg hL
  generalize hql : q.length = ql at *
  have HQL := hidD hql
  clear hql
  go_enter Try.func55, Try.ntmps55
  go_wp2_with fail
  go_loopw [12] (fun i wr => ∃ k : Nat, k ≤ ql ∧ i = .int .i64 k ∧ RowAt wr g (addL P L off (q.take k) c) ∧ But g w wr) (fun i _ => ql - (intOf i).toNat)
  case atStart => exact ⟨0, Nat.zero_le _, rfl, HR0.out, But.refl _ _⟩
  case round =>
    obtain ⟨k, hk, rfl, hrow, hbut⟩ := hrel
    have HBU := hidD hbut
    have HRW := hidD hrow
    by_cases hlt : k < ql
    · obtain ⟨h, o, rfl, hh, hc⟩ := HSH.out k hlt
      have hlti : (k : Int) < ql := by omega
      have hltn : (k : Int) < n := by omega
      have hcq : wr.cell? ⟨h, o + k, none⟩ = some (.int .u8 ((cf q k).toNat : Int)) := (hbut.cell hh (HOF.out _ _ rfl)).trans hc
      have hcr : ∀ n, (wr.drewN n).cell? ⟨g, off + k, none⟩ = some (.int .u8 ((cf (addL P L off (q.take k) c) (off + k)).toNat : Int)) := fun n => hrow.cell (by rw [HLEN.out]; have := HLL.out; omega)
      have hcr0 : wr.cell? ⟨g, off + k, none⟩ = some (.int .u8 ((cf (addL P L off (q.take k) c) (off + k)).toNat : Int)) := hcr 0
      have HM := hidD (fun w' (hb : Below wr.heap.size wr w') => mul_any ho c (cf q k) w' ((hbut.fd HF.out HBG.out).next hb))
      have hx := u8_xor_nat (cf (addL P L off (q.take k) c) (off + k)).toNat (bm P c (cf q k)).toNat (u8_lt _) (u8_lt _)
      rw [← UInt8.toNat_xor] at hx
      have HS := hidD (HST.out k (by have := HQL.out; omega))
      generalize hv : cf (addL P L off (q.take k) c) (off + k) ^^^ bm P c (cf q k) = v at *
      generalize (cf (addL P L off (q.take k) c) (off + k)).toNat = x at *
      generalize (bm P c (cf q k)).toNat = y at *
      generalize (cf q k).toNat = d at *
      clear hv hbut hrow hc hh
      go_wp2_with fail
      go_region_with (go_at_call 54; refine (HM.out _ ((Below.refl wr.heap.size wr).drew)).mono ?_; rintro e w3 ⟨rfl, hb3⟩; have hb4 : Below wr.heap.size wr w3 := ((Below.refl wr.heap.size wr).drew).trans hb3; have HR3 := hidD (HRW.out.next hb4); have HB3 := hidD hb4; have j8 : w3.cell? ⟨g, off + k, none⟩ = some (.int .u8 (x : Int)) := (hb4.cell (p := ⟨g, off + k, none⟩) HRW.out.lt).trans hcr0; have f8 := HR3.out.frozen (off + k); clear hb3 hb4)
      all_goals
        go_wp2
        go_roundw
        case rel => exact ⟨k + 1, by omega, by go_num, by rw [← HS.out]; exact HR3.out.set _ _, ((HBU.out.trans (But.of HB3.out (Nat.le_of_lt HRW.out.lt)))).put _ _⟩
        case measure => simp [intOf]; omega
    · obtain rfl : k = ql := by omega
      clear hrow hbut
      go_wp2_with fail
      refine bodyPost_end (v := .tuple #[]) (by simp [results, Try.results55, go_sem]) rfl ?_
      refine ⟨rfl, ?_, HBU.out⟩
      have := HRW.out
      rw [HEND.out] at this
      exact this
end Go.Proofs.Ytdpkeffkpecmjaa
