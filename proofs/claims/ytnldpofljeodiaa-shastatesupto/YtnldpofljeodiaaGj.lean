/- Texts of one proof, one behind the other. -/
import Derived.Test.YtnldpofljeodiaaGm
/- Plain: streams of parts. A row of nothing with room. -/
namespace Go.Proofs.Ytnldpofljeodiaa
open Go.RowKit
set_option linter.unusedVariables false

/- byte i of the parts 1, 2, .. of s bytes each, one behind the other -/
def sbS (s : Nat) (pt : Nat → List UInt8) (i : Nat) : UInt8 := (pt (i / s + 1)).getD (i % s) 0
def stL (s : Nat) (pt : Nat → List UInt8) (n : Nat) : List UInt8 := (List.range n).map (sbS s pt)
theorem stL_len (s : Nat) (pt : Nat → List UInt8) (n : Nat) : (stL s pt n).length = n := by simp [stL]
theorem stL_take (s : Nat) (pt : Nat → List UInt8) (n m : Nat) (h : n ≤ m) : (stL s pt m).take n = stL s pt n := by
  unfold stL
  rw [← List.map_take, List.take_range, Nat.min_eq_left h]
theorem stL_next (s : Nat) (hs : 0 < s) (pt : Nat → List UInt8) (i n : Nat) (hl : (pt (i + 1)).length = s) (hn : i * s < n) : stL s pt (i * s) ++ (pt (i + 1)).take (min s (n - i * s)) = stL s pt (min n ((i + 1) * s)) := by
  have hm : min n ((i + 1) * s) = i * s + min s (n - i * s) := by rw [Nat.add_mul, Nat.one_mul]; omega
  rw [hm]
  have hle : min s (n - i * s) ≤ s := Nat.min_le_left _ _
  generalize min s (n - i * s) = c at *
  unfold stL
  rw [List.range_add, List.map_append]
  congr 1
  apply List.ext_getElem?
  intro j
  by_cases hj : j < c
  · rw [List.getElem?_take, if_pos hj]
    simp only [List.map_map, List.getElem?_map, List.getElem?_range hj, Option.map_some, Function.comp]
    unfold sbS
    have h1 : (i * s + j) / s = i := by rw [Nat.mul_comm, Nat.mul_add_div hs, Nat.div_eq_of_lt (by omega), Nat.add_zero]
    have h2 : (i * s + j) % s = j := by rw [Nat.mul_comm, Nat.mul_add_mod, Nat.mod_eq_of_lt (by omega)]
    rw [h1, h2, List.getD_eq_getElem?_getD, List.getElem?_eq_getElem (by omega)]; rfl
  · rw [List.getElem?_take, if_neg hj]
    simp only [List.map_map, List.getElem?_map]
    rw [List.getElem?_eq_none (by simp; omega)]; rfl
theorem wpList_make0 (w : World) {ops : Array Oper} {rest : List Oper} {o : Oper} {a : Act} {Q : Exit → Act → World → Prop}
    (hg : o.guard = none) (l c : Operand) (hop : o.op = Op.makeSlice 22 l c) (n : Nat) (hl : a.eval l = .int .i64 0) (hc : a.eval c = .int .i64 (n : Int)) (hn : n ≤ 281474976710656)
    (hK : ∀ w', RowZ w' w.heap.size .u8 n 5 (fun _ => 0) → Below w.heap.size w w' → wpList Try.prog ops Q rest (a.put o.dst (.slice (some ⟨w.heap.size, 0, none⟩) 0 n)) w') :
    wpList Try.prog ops Q (o :: rest) a w := by
  obtain ⟨i, hi, hz0, hz1, hz2⟩ := info_parts Try.info5
  have hr := run_make (P := Try.prog) w 22 5 i (.int .u8 0) Try.underlying22 hi hz0 .i64 .i64 0 (n : Int) (by omega) (by omega) (by rw [hz2]; omega) (by omega)
  have hcells : madeCells (Value.cells (.int .u8 0)) ((n : Int).toNat * i.size) = rowZ .u8 n (fun _ => 0) := by
    rw [hz1, Nat.mul_one, Int.toNat_natCast, show Value.cells (.int .u8 0) = #[.int .u8 0] from rfl]
    apply Array.toList_inj.1
    rw [toList_madeCells_one]
    unfold rowZ
    rw [List.map_const', List.length_range]
  rw [hcells] at hr
  refine wpList_plain hg fun K hK' => ?_
  unfold Oper.wp
  simp only [execOp, hop, hl, hc, hr, Sem.run_bind, Result.andThen_ok, Sem.run_pure]
  exact hK' _ _ (hK _ (RowZ.new w .u8 n 5 _) ((Below.refl _ _).alloc (Nat.le_refl _) _))
end Go.Proofs.Ytnldpofljeodiaa
/- What joined of sha answers, of any closure that answers so and so. -/
namespace Go.Proofs.Ytnldpofljeodiaa
open Go.RowKit
set_option linter.unusedVariables false

/-- Bytes that are put behind the bytes of a row that has room for them. -/
theorem wpList_append_Z {w : World} {ops : Array Oper} {rest : List Oper} {o : Oper} {a : Act} {Q : Exit → Act → World → Prop} (hgd : o.guard = none) (s x : Operand) (ho : o.op = .call { callee := .builtin .append, args := #[s, x], argTypes := #[22, 22] })
    (g len n : Nat) (f : Nat → Int) (hs : a.eval s = .slice (some ⟨g, 0, none⟩) len n) (hg : RowZ w g .u8 n 5 f) (sg so m c : Nat) (h : Nat → Int) (hx : a.eval x = .slice (some ⟨sg, so, none⟩) m c) (hc : ∀ j, j < m → w.cell? ⟨sg, so + j, none⟩ = some (.int .u8 (h j))) (hroom : len + m ≤ n)
    (hK : ∀ w', RowZ w' g .u8 n 5 (fun i => if len ≤ i ∧ i < len + m then h (i - len) else f i) → But g w w' → wpList Try.prog ops Q rest (a.put o.dst (.slice (some ⟨g, 0, none⟩) (len + m) n)) w') : wpList Try.prog ops Q (o :: rest) a w := by
  obtain ⟨i, hi, hz0, hz1, hz2⟩ := info_parts Try.info5
  have hr := run_append_room (P := Try.prog) w 22 o.type 5 i Try.underlying22 hi g len n (rowZ .u8 n f) hg ⟨sg, so, none⟩ m c (lZ .u8 m h) (by rw [lZ_len, hz1, Nat.mul_one]) (fun j u hu => by
    have hj : j < m := by
      have := (List.getElem?_eq_some_iff.1 hu).1
      rwa [lZ_len] at this
    rw [lZ_get _ _ _ hj] at hu
    rw [Addr.add_mid, hc j hj]
    exact hu) (lZ_one _ _ _) hroom (by rw [lZ_len, hz1, Nat.mul_one, rowZ_size]; exact hroom)
  have hcells : ((rowZ .u8 n f).toList.take (len * i.size) ++ lZ .u8 m h ++ (rowZ .u8 n f).toList.drop (len * i.size + (lZ .u8 m h).length)).toArray = rowZ .u8 n (fun i => if len ≤ i ∧ i < len + m then h (i - len) else f i) := by
    have hsp := splice_lZ .u8 f h hroom
    rw [hz1, Nat.mul_one]
    show ((lZ .u8 n f).take len ++ lZ .u8 m h ++ (lZ .u8 n f).drop (len + (lZ .u8 m h).length)).toArray = (lZ .u8 n _).toArray
    rw [← hsp, splice, List.append_assoc]
  rw [hcells] at hr
  refine wpList_plain hgd fun K hK' => ?_
  unfold Oper.wp execOp
  simp only [ho, resolve, invoke, builtin, Sem.run_bind, Sem.run_pure, Result.andThen_ok, List.map_toArray, List.map_cons, List.map_nil, hs, hx, hr]
  exact hK' _ _ (hK _ (setRow_heap _ _ _ _ _ _ hg) ((But.refl g w).row _))
theorem min_run (s : Nat) (d : Int) (c : Nat) (w : World) (h : min (s : Int) d = (c : Int)) : Sem.run Try.prog (Builtin.min_ #[3, 3] 3 #[.int .i64 (s : Int), .int .i64 d]) w = .ok (.int .i64 (c : Int)) w := by
  have e : Sem.run Try.prog (Builtin.min_ #[3, 3] 3 #[.int .i64 (s : Int), .int .i64 d]) w = .ok (.int .i64 (if d < (s : Int) then d else (s : Int))) w := rfl
  rw [e]
  by_cases hd : d < (s : Int)
  · rw [if_pos hd, show d = (c : Int) by omega]
  · rw [if_neg hd, show (s : Int) = (c : Int) by omega]
set_option maxRecDepth 100000 in
set_option maxHeartbeats 3200000 in
theorem joined37_any (n s : Nat) (hn : n ≤ 1048576) (hs : 0 < s) (hs2 : s ≤ 64) (pt : Nat → List UInt8) (hpt : ∀ i, (pt (i + 1)).length = s) (p1 p2 p3 : Value) (gL : Nat) (w : World) (hgL : gL < w.heap.size) (St : World → Nat → Prop)
    (h0 : ∀ b, Below w.heap.size w b → St b 0) (hst : ∀ i a b, St a i → w.heap.size < a.heap.size → But w.heap.size a b → St b i)
    (hF : ∀ i, i * s < n → ∀ a : World, St a i → w.heap.size < a.heap.size → Calls Try.prog 38 #[.int .i64 ((i + 1 : Nat) : Int), p1, p2, p3] a fun e b => ∃ g c, e = .returned (.slice (some ⟨g, 0, none⟩) s c) ∧ s ≤ c ∧ g < b.heap.size ∧ (∀ j, j < s → b.cell? ⟨g, j, none⟩ = some (.int .u8 (((pt (i + 1)).getD j 0).toNat : Int))) ∧ St b (i + 1) ∧ But gL a b) :
    Calls Try.prog 37 #[.int .i64 (n : Int), .func (.func 38) #[] #[p1, p2, p3]] w fun e w' => ∃ g, e = .returned (.slice (some ⟨g, 0, none⟩) n n) ∧ w.heap.size ≤ g ∧ RowZ w' g .u8 n 5 (fun i => ((sbS s pt i).toNat : Int)) ∧ But gL w w' := by
  have H0 := hidD h0
  have HST := hidD hst
  have HF := hidD hF
  have HNX : Hid (∀ i, i * s < n → stL s pt (i * s) ++ (pt (i + 1)).take (min s (n - i * s)) = stL s pt (min n ((i + 1) * s))) := fun i h => stL_next s hs pt i n (hpt i) h
  have HGL := hidD hgL
  have HPT := hidD hpt
  clear h0 hst hF hgL hpt
  go_enter Try.func37, Try.ntmps37
  go_wp2_with (at_make; refine wpList_make0 w rfl _ _ rfl n rfl rfl (by omega) ?_; intro w1 hr1 hb1; have HR1 := hidD hr1; have HB1 := hidD hb1; clear hr1 hb1)
  go_loopw [5, 6] (fun lv iv wr => ∃ i len : Nat, i ≤ n ∧ Hid (len = min n (i * s)) ∧ iv = .int .i64 ((i + 1 : Nat) : Int) ∧ lv = .slice (some ⟨w.heap.size, 0, none⟩) len n ∧ RowZ wr w.heap.size .u8 n 5 (fun j => ((if j < len then sbS s pt j else 0 : UInt8).toNat : Int)) ∧ St wr i ∧ But gL w wr ∧ w.heap.size < wr.heap.size) (fun _ iv _ => n + 2 - (intOf iv).toNat)
  case atStart => exact ⟨0, 0, Nat.zero_le _, (by show 0 = min n (0 * s); omega), rfl, rfl, HR1.out, H0.out _ HB1.out, But.of HB1.out (Nat.le_of_lt HGL.out), row_lt HR1.out⟩
  case round =>
    clear HR1 HB1
    obtain ⟨i, len, hi, HLE, rfl, rfl, hrow, hst, hbut, hsz⟩ := hrel
    have hle := HLE.out
    by_cases hlt : len < n
    · have hlti : (len : Int) < (n : Int) := by omega
      have hlis : len = i * s := by omega
      have hisn : i * s < n := by omega
      have hin : i < n := Nat.lt_of_le_of_lt (Nat.le_mul_of_pos_right i hs) hisn
      have HFI := hidD (HF.out i hisn wr hst hsz)
      have HROW := hidD hrow
      have HBUT := hidD hbut
      have HSZ := hidD hsz
      have hi1 : (i : Int) + 1 ≤ 1048577 := by omega
      have hcast : ((i + 1 : Nat) : Int) = (i : Int) + 1 := by omega
      rw [hcast] at HFI
      clear hrow hst hbut hsz hle
      obtain ⟨c, hc⟩ : ∃ c, c = min s (n - i * s) := ⟨_, rfl⟩
      have hcs : c ≤ s ∧ 0 < c ∧ len + c ≤ n := by omega
      have hmin : min (s : Int) ((n : Int) - (len : Int)) = (c : Int) := by omega
      have HCC := hidD hc
      have HLI := hidD hlis
      clear hc hlis HLE hcast
      go_wp2_with fail
      refine HFI.out.mono ?_
      rintro e w2 ⟨gN, cN, rfl, hcN, hgN, hcell, hst2, hbut2⟩
      have R2 : Hid (RowZ w2 w.heap.size .u8 n 5 (fun j => ((if j < len then sbS s pt j else 0 : UInt8).toNat : Int))) := HROW.out.but hbut2 (by have := HGL.out; omega)
      have S2 := hidD hst2
      have B2 := hidD (HBUT.out.trans hbut2)
      have Z2 : Hid (w.heap.size < w2.heap.size) := Nat.lt_of_lt_of_le HSZ.out hbut2.bel.size
      have C2 := hidD hcell
      have hsl := fun (w' : World) => sliceAt_h (some ⟨gN, 0, none⟩) s cN c (by omega) w'
      rw [if_neg (show ¬ cN = 0 by omega), show (some (⟨gN, 0, none⟩ : Addr)).map (·.add 0) = some ⟨gN, 0, none⟩ from rfl] at hsl
      have hmn := fun (w' : World) => min_run s ((n : Int) - (len : Int)) c w' hmin
      clear hmin
      clear hcell hst2 hbut2 hcN hgN HFI HROW HBUT HSZ
      go_wp2_with (first | (at_builtin; refine wpList_append_Z rfl _ _ rfl w.heap.size len n (fun j => ((if j < len then sbS s pt j else 0 : UInt8).toNat : Int)) rfl R2.out gN 0 c cN (fun j => (((pt (i + 1)).getD j 0).toNat : Int)) rfl (fun j hj => by rw [Nat.zero_add]; exact C2.out j (by omega)) (by omega) ?_; intro w3 hr3 hb3; have R3 := hidD hr3; have B3 := hidD hb3; clear hr3 hb3))
      have HR3 : Hid (RowZ w3 w.heap.size .u8 n 5 (fun j => ((if j < len + c then sbS s pt j else 0 : UInt8).toNat : Int))) := R3.out.congr fun j hj => by
        by_cases h1 : j < len
        · rw [if_neg (by omega), if_pos h1, if_pos (by omega)]
        · by_cases h2 : j < len + c
          · rw [if_pos (by omega), if_pos h2]
            obtain ⟨t, ht⟩ : ∃ t, j = i * s + t := ⟨j - len, by have := HLI.out; omega⟩
            have hts : t < s := by have := HLI.out; omega
            have e1 : j / s = i := by rw [ht, Nat.mul_comm, Nat.mul_add_div hs, Nat.div_eq_of_lt hts, Nat.add_zero]
            have e2 : j % s = j - len := by rw [show j - len = t by have := HLI.out; omega, ht, Nat.mul_comm, Nat.mul_add_mod, Nat.mod_eq_of_lt hts]
            unfold sbS
            rw [e1, e2]
          · rw [if_neg (by omega), if_neg h1, if_neg h2]
      have HS3 : Hid (St w3 (i + 1)) := HST.out _ _ _ S2.out Z2.out B3.out
      have HB3 : Hid (But gL w w3) := ⟨B2.out.bel.trans (B3.out.bel.mono (Nat.le_of_lt HGL.out)), fun b hb hne => (B3.out.rest b (Nat.lt_of_lt_of_le hb B2.out.bel.size) (by omega)).trans (B2.out.rest b hb hne)⟩
      have HZ3 : Hid (w.heap.size < w3.heap.size) := Nat.lt_of_lt_of_le Z2.out B3.out.bel.size
      have HL3 : Hid (len + c = min n ((i + 1) * s)) := by show _ = _; rw [HCC.out, HLI.out, Nat.add_mul, Nat.one_mul]; omega
      clear R2 S2 B2 Z2 C2 R3 B3 hsl
      go_roundw
      case rel =>
        first
        | exact ⟨i + 1, len + c, by omega, HL3, by go_num, by first | rfl | simp, HR3.out, HS3.out, HB3.out, HZ3.out⟩
        | ((repeat apply Exists.intro); refine And.intro ?_ rfl; exact ⟨i + 1, len + c, by omega, HL3, by go_num, by first | rfl | simp, HR3.out, HS3.out, HB3.out, HZ3.out⟩)
      case measure => simp [intOf]; omega
    · have hlti : ¬ (len : Int) < (n : Int) := by omega
      obtain rfl : len = n := by omega
      have HFIN : Hid (RowZ wr w.heap.size .u8 len 5 (fun i => ((sbS s pt i).toNat : Int)) ∧ But gL w wr) := ⟨hrow.congr fun j hj => by rw [if_pos hj], hbut⟩
      clear hrow hst hbut hsz HLE hle
      go_wp2_with fail
      go_ret
      exact ⟨w.heap.size, rfl, Nat.le_refl _, HFIN.out⟩
set_option maxRecDepth 100000 in
set_option maxHeartbeats 3200000 in
theorem joined38_any (n s : Nat) (hn : n ≤ 1048576) (hs : 0 < s) (hs2 : s ≤ 64) (pt : Nat → List UInt8) (hpt : ∀ i, (pt (i + 1)).length = s) (p1 p2 p3 : Value) (gL : Nat) (w : World) (hgL : gL < w.heap.size) (St : World → Nat → Prop)
    (h0 : ∀ b, Below w.heap.size w b → St b 0) (hst : ∀ i a b, St a i → w.heap.size < a.heap.size → But w.heap.size a b → St b i)
    (hF : ∀ i, i * s < n → ∀ a : World, St a i → w.heap.size < a.heap.size → Calls Try.prog 40 #[.int .i64 ((i + 1 : Nat) : Int), p1, p2, p3] a fun e b => ∃ g c, e = .returned (.slice (some ⟨g, 0, none⟩) s c) ∧ s ≤ c ∧ g < b.heap.size ∧ (∀ j, j < s → b.cell? ⟨g, j, none⟩ = some (.int .u8 (((pt (i + 1)).getD j 0).toNat : Int))) ∧ St b (i + 1) ∧ But gL a b) :
    Calls Try.prog 37 #[.int .i64 (n : Int), .func (.func 40) #[] #[p1, p2, p3]] w fun e w' => ∃ g, e = .returned (.slice (some ⟨g, 0, none⟩) n n) ∧ w.heap.size ≤ g ∧ RowZ w' g .u8 n 5 (fun i => ((sbS s pt i).toNat : Int)) ∧ But gL w w' := by
  have H0 := hidD h0
  have HST := hidD hst
  have HF := hidD hF
  have HNX : Hid (∀ i, i * s < n → stL s pt (i * s) ++ (pt (i + 1)).take (min s (n - i * s)) = stL s pt (min n ((i + 1) * s))) := fun i h => stL_next s hs pt i n (hpt i) h
  have HGL := hidD hgL
  have HPT := hidD hpt
  clear h0 hst hF hgL hpt
  go_enter Try.func37, Try.ntmps37
  go_wp2_with (at_make; refine wpList_make0 w rfl _ _ rfl n rfl rfl (by omega) ?_; intro w1 hr1 hb1; have HR1 := hidD hr1; have HB1 := hidD hb1; clear hr1 hb1)
  go_loopw [5, 6] (fun lv iv wr => ∃ i len : Nat, i ≤ n ∧ Hid (len = min n (i * s)) ∧ iv = .int .i64 ((i + 1 : Nat) : Int) ∧ lv = .slice (some ⟨w.heap.size, 0, none⟩) len n ∧ RowZ wr w.heap.size .u8 n 5 (fun j => ((if j < len then sbS s pt j else 0 : UInt8).toNat : Int)) ∧ St wr i ∧ But gL w wr ∧ w.heap.size < wr.heap.size) (fun _ iv _ => n + 2 - (intOf iv).toNat)
  case atStart => exact ⟨0, 0, Nat.zero_le _, (by show 0 = min n (0 * s); omega), rfl, rfl, HR1.out, H0.out _ HB1.out, But.of HB1.out (Nat.le_of_lt HGL.out), row_lt HR1.out⟩
  case round =>
    clear HR1 HB1
    obtain ⟨i, len, hi, HLE, rfl, rfl, hrow, hst, hbut, hsz⟩ := hrel
    have hle := HLE.out
    by_cases hlt : len < n
    · have hlti : (len : Int) < (n : Int) := by omega
      have hlis : len = i * s := by omega
      have hisn : i * s < n := by omega
      have hin : i < n := Nat.lt_of_le_of_lt (Nat.le_mul_of_pos_right i hs) hisn
      have HFI := hidD (HF.out i hisn wr hst hsz)
      have HROW := hidD hrow
      have HBUT := hidD hbut
      have HSZ := hidD hsz
      have hi1 : (i : Int) + 1 ≤ 1048577 := by omega
      have hcast : ((i + 1 : Nat) : Int) = (i : Int) + 1 := by omega
      rw [hcast] at HFI
      clear hrow hst hbut hsz hle
      obtain ⟨c, hc⟩ : ∃ c, c = min s (n - i * s) := ⟨_, rfl⟩
      have hcs : c ≤ s ∧ 0 < c ∧ len + c ≤ n := by omega
      have hmin : min (s : Int) ((n : Int) - (len : Int)) = (c : Int) := by omega
      have HCC := hidD hc
      have HLI := hidD hlis
      clear hc hlis HLE hcast
      go_wp2_with fail
      refine HFI.out.mono ?_
      rintro e w2 ⟨gN, cN, rfl, hcN, hgN, hcell, hst2, hbut2⟩
      have R2 : Hid (RowZ w2 w.heap.size .u8 n 5 (fun j => ((if j < len then sbS s pt j else 0 : UInt8).toNat : Int))) := HROW.out.but hbut2 (by have := HGL.out; omega)
      have S2 := hidD hst2
      have B2 := hidD (HBUT.out.trans hbut2)
      have Z2 : Hid (w.heap.size < w2.heap.size) := Nat.lt_of_lt_of_le HSZ.out hbut2.bel.size
      have C2 := hidD hcell
      have hsl := fun (w' : World) => sliceAt_h (some ⟨gN, 0, none⟩) s cN c (by omega) w'
      rw [if_neg (show ¬ cN = 0 by omega), show (some (⟨gN, 0, none⟩ : Addr)).map (·.add 0) = some ⟨gN, 0, none⟩ from rfl] at hsl
      have hmn := fun (w' : World) => min_run s ((n : Int) - (len : Int)) c w' hmin
      clear hmin
      clear hcell hst2 hbut2 hcN hgN HFI HROW HBUT HSZ
      go_wp2_with (first | (at_builtin; refine wpList_append_Z rfl _ _ rfl w.heap.size len n (fun j => ((if j < len then sbS s pt j else 0 : UInt8).toNat : Int)) rfl R2.out gN 0 c cN (fun j => (((pt (i + 1)).getD j 0).toNat : Int)) rfl (fun j hj => by rw [Nat.zero_add]; exact C2.out j (by omega)) (by omega) ?_; intro w3 hr3 hb3; have R3 := hidD hr3; have B3 := hidD hb3; clear hr3 hb3))
      have HR3 : Hid (RowZ w3 w.heap.size .u8 n 5 (fun j => ((if j < len + c then sbS s pt j else 0 : UInt8).toNat : Int))) := R3.out.congr fun j hj => by
        by_cases h1 : j < len
        · rw [if_neg (by omega), if_pos h1, if_pos (by omega)]
        · by_cases h2 : j < len + c
          · rw [if_pos (by omega), if_pos h2]
            obtain ⟨t, ht⟩ : ∃ t, j = i * s + t := ⟨j - len, by have := HLI.out; omega⟩
            have hts : t < s := by have := HLI.out; omega
            have e1 : j / s = i := by rw [ht, Nat.mul_comm, Nat.mul_add_div hs, Nat.div_eq_of_lt hts, Nat.add_zero]
            have e2 : j % s = j - len := by rw [show j - len = t by have := HLI.out; omega, ht, Nat.mul_comm, Nat.mul_add_mod, Nat.mod_eq_of_lt hts]
            unfold sbS
            rw [e1, e2]
          · rw [if_neg (by omega), if_neg h1, if_neg h2]
      have HS3 : Hid (St w3 (i + 1)) := HST.out _ _ _ S2.out Z2.out B3.out
      have HB3 : Hid (But gL w w3) := ⟨B2.out.bel.trans (B3.out.bel.mono (Nat.le_of_lt HGL.out)), fun b hb hne => (B3.out.rest b (Nat.lt_of_lt_of_le hb B2.out.bel.size) (by omega)).trans (B2.out.rest b hb hne)⟩
      have HZ3 : Hid (w.heap.size < w3.heap.size) := Nat.lt_of_lt_of_le Z2.out B3.out.bel.size
      have HL3 : Hid (len + c = min n ((i + 1) * s)) := by show _ = _; rw [HCC.out, HLI.out, Nat.add_mul, Nat.one_mul]; omega
      clear R2 S2 B2 Z2 C2 R3 B3 hsl
      go_roundw
      case rel =>
        first
        | exact ⟨i + 1, len + c, by omega, HL3, by go_num, by first | rfl | simp, HR3.out, HS3.out, HB3.out, HZ3.out⟩
        | ((repeat apply Exists.intro); refine And.intro ?_ rfl; exact ⟨i + 1, len + c, by omega, HL3, by go_num, by first | rfl | simp, HR3.out, HS3.out, HB3.out, HZ3.out⟩)
      case measure => simp [intOf]; omega
    · have hlti : ¬ (len : Int) < (n : Int) := by omega
      obtain rfl : len = n := by omega
      have HFIN : Hid (RowZ wr w.heap.size .u8 len 5 (fun i => ((sbS s pt i).toNat : Int)) ∧ But gL w wr) := ⟨hrow.congr fun j hj => by rw [if_pos hj], hbut⟩
      clear hrow hst hbut hsz HLE hle
      go_wp2_with fail
      go_ret
      exact ⟨w.heap.size, rfl, Nat.le_refl _, HFIN.out⟩
end Go.Proofs.Ytnldpofljeodiaa
