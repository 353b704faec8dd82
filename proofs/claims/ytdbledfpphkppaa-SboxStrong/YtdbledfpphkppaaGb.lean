/- Texts of one proof, one behind the other. -/
import Derived.Test.YtdbledfpphkppaaGa
import Derived.Test.YtdbledfpphkppaaShelf
import Derived.Test.YtdbledfpphkppaaGg
/- What the program's Cycles answers. -/
namespace Go.Proofs.Ytdbledfpphkppaa
open Go.RowKit
set_option linter.unusedVariables false

theorem sortC : SortC := fun L g cap w h hg hl => (Try.slices_Sort_int g 0 cap L w h hg (by omega)).mono fun e w' ⟨h1, n, os, h2⟩ => ⟨h1, by rw [h2]; exact put_holds h hg (List.length_mergeSort _) n os⟩
theorem turnC : TurnC := fun L g cap w h hg hl => (Try.slices_Reverse_int g 0 cap L w h (by omega)).mono fun e w' ⟨h1, n, h2⟩ => ⟨h1, by rw [h2, ← Go.Sort.grow_empty (Go.Sort.putRow _ _ _ _ _)]; exact put_holds h hg List.length_reverse n #[]⟩
theorem pCyc_any (l : List UInt8) (hl : l.length = 256) (v : Value) (w : World) (hv : ByAt w v l) : Calls Try.prog 30 #[v] w fun e w' => ((onceB (tbN l) = true ∧ ∃ vo, e = .returned (.tuple #[vo, .int .i64 0]) ∧ IsAt w' vo (cycS (tbN l))) ∨ (onceB (tbN l) = false ∧ e = .returned (.tuple #[.slice none 0 0, .int .i64 1]))) ∧ Below w.heap.size w w' := pCyc_any' sortC turnC l hl v w hv
end Go.Proofs.Ytdbledfpphkppaa
/- SboxTables, walked. -/
namespace Go.Proofs.Ytdbledfpphkppaa
open Go.RowKit
set_option linter.unusedVariables false

theorem is_cell {w wr : World} {a : Option Addr} {n cap : Nat} {xs : List Int} (h : IsAt w (.slice a n cap) xs) (hb : Below w.heap.size w wr) {k : Nat} (hk : k < xs.length) :
    ∃ g o, a = some ⟨g, o, none⟩ ∧ g < w.heap.size ∧ ∀ n, (wr.drewN n).cell? ⟨g, o + k, none⟩ = some (.int .i64 (xs.getD k 0)) := by
  obtain ⟨a', c', he, hc⟩ := h.shape
  cases he
  obtain ⟨g, o, rfl, hg, hc⟩ := hc k hk
  exact ⟨g, o, rfl, hg, fun n => (hb.cell (p := ⟨g, o + k, none⟩) hg).trans hc⟩
set_option maxRecDepth 100000 in
set_option maxHeartbeats 400000 in
theorem ints_same (xs : List Int) (hx : xs.length ≤ 1000) (u v : Value) (w : World) (hu : IsAt w u xs) (hv : IsAt w v xs) : Calls Try.prog 32 #[u, v] w fun e w' => e = .returned (.bool true) ∧ Below w.heap.size w w' := by
  obtain ⟨a, ca, rfl, _⟩ := hu.shape
  obtain ⟨b, cb, rfl, _⟩ := hv.shape
  have H1 := hidD (fun wr (hb : Below w.heap.size w wr) k (hk : k < xs.length) => is_cell hu hb hk)
  have H2 := hidD (fun wr (hb : Below w.heap.size w wr) k (hk : k < xs.length) => is_cell hv hb hk)
  clear hu hv
  generalize hn : xs.length = n at *
  clear hn
  go_enter Try.func32, Try.ntmps32
  go_wp2_with fail
  go_loopw [5] (fun i wr => ∃ k : Nat, k ≤ n ∧ i = .int .i64 k ∧ Below w.heap.size w wr) (fun i _ => n - (intOf i).toNat)
  case atStart => exact ⟨0, Nat.zero_le _, rfl, Below.refl _ _⟩
  case round =>
    obtain ⟨k, hk, rfl, hbel⟩ := hrel
    have HBL := hidD hbel
    by_cases hlt : k < n
    · have hlti : (k : Int) < n := by omega
      obtain ⟨g, o, rfl, hg, hc1⟩ := H1.out wr hbel k hlt
      obtain ⟨g', o', rfl, hg', hc2⟩ := H2.out wr hbel k hlt
      generalize xs.getD k 0 = X at *
      clear hbel
      go_wp2_with fail
      go_quiet (fail)
      go_wp2_with fail
      go_roundw
      case rel => exact ⟨k + 1, by omega, by go_num, below_drewN HBL.out _⟩
      case measure => simp [intOf]; omega
    · obtain rfl : k = n := by omega
      clear hbel
      go_wp2_with fail
      go_ret
      exact ⟨rfl, HBL.out⟩
theorem pDiff_tell (l : List UInt8) (a c : UInt8) (v : Value) (w : World) (hv : ByAt w v l) : Calls Try.prog 24 #[v, .int .u8 (a.toNat : Int), .int .u8 (c.toNat : Int)] w fun e w' => e = .returned (tell l (diffS (tbN l) a.toNat c.toNat : Nat)) ∧ Below w.heap.size w w' := by
  unfold tell; split
  · rename_i h; exact pDiff_any l h a c v w hv
  · rename_i h; exact pDiff_out l h a c v w hv
theorem refDiff_tell (l : List UInt8) (a c : UInt8) (v : Value) (w : World) (hv : ByAt w v l) : Calls Try.prog 25 #[v, .int .u8 (a.toNat : Int), .int .u8 (c.toNat : Int)] w fun e w' => e = .returned (tell l (diffS (tbN l) a.toNat c.toNat : Nat)) ∧ Below w.heap.size w w' := by
  unfold tell; split
  · rename_i h; exact refDiff_any l h a c v w hv
  · rename_i h; exact low_call' (refTab_out l h a c v w hv)
theorem pLines_tell (l : List UInt8) (a c : UInt8) (v : Value) (w : World) (hv : ByAt w v l) : Calls Try.prog 26 #[v, .int .u8 (a.toNat : Int), .int .u8 (c.toNat : Int)] w fun e w' => e = .returned (tell l ((linS (tbN l) a.toNat c.toNat : Int) - 128)) ∧ Below w.heap.size w w' := by
  unfold tell; split
  · rename_i h; exact pLines_any l h a c v w hv
  · rename_i h; exact pLines_out l h a c v w hv
theorem refLines_tell (l : List UInt8) (a c : UInt8) (v : Value) (w : World) (hv : ByAt w v l) : Calls Try.prog 27 #[v, .int .u8 (a.toNat : Int), .int .u8 (c.toNat : Int)] w fun e w' => e = .returned (tell l ((linS (tbN l) a.toNat c.toNat : Int) - 128)) ∧ Below w.heap.size w w' := by
  unfold tell; split
  · rename_i h; exact refLines_any l h a c v w hv
  · rename_i h; exact low_call' (refLines_out l h a c v w hv)
def tellD (l : List UInt8) (b : Int) : Value := if l.length = 256 then (if b < 0 ∨ 7 < b then .tuple #[.int .i64 0, .int .i64 1] else .tuple #[.int .i64 (degS (tbN l) b.toNat : Nat), .int .i64 0]) else .tuple #[.int .i64 0, .int .i64 91]
theorem tellD_is (l : List UInt8) (b : Int) : ∃ x y : Int, tellD l b = .tuple #[.int .i64 x, .int .i64 y] := by
  unfold tellD; split
  · split <;> exact ⟨_, _, rfl⟩
  · exact ⟨_, _, rfl⟩
theorem pDeg_tell (l : List UInt8) (b : Int) (v : Value) (w : World) (hv : ByAt w v l) : Calls Try.prog 28 #[v, .int .i64 b] w fun e w' => e = .returned (tellD l b) ∧ Below w.heap.size w w' := by
  unfold tellD; split
  · rename_i h; split
    · rename_i hb; exact pDeg_arg l h b hb v w hv
    · rename_i hb
      have := pDeg_any l h b.toNat (by omega) v w hv
      rw [show ((b.toNat : Nat) : Int) = b by omega] at this; exact this
  · rename_i h; exact pDeg_out l h b v w hv
theorem refDeg_tell (l : List UInt8) (b : Int) (v : Value) (w : World) (hv : ByAt w v l) : Calls Try.prog 29 #[v, .int .i64 b] w fun e w' => e = .returned (tellD l b) ∧ Below w.heap.size w w' := by
  unfold tellD; split
  · rename_i h; split
    · rename_i hb; exact low_call' (refDeg_arg l h b hb v w hv)
    · rename_i hb
      have := low_call' (refDeg_any l h b.toNat (by omega) v w hv)
      rw [show ((b.toNat : Nat) : Int) = b by omega] at this; exact this
  · rename_i h; exact low_call' (refDeg_out l h b v w hv)
def cycE (l : List UInt8) : Int := if l.length = 256 then (if onceB (tbN l) = true then 0 else 1) else 91
def cycT (l : List UInt8) : List Int := if l.length = 256 then (if onceB (tbN l) = true then cycS (tbN l) else []) else []
theorem nil_is (w : World) : IsAt w (.slice none 0 0) [] := .inl ⟨rfl, none, 0, rfl, fun _ => rfl⟩
theorem cycT_len (l : List UInt8) : (cycT l).length ≤ 1000 := by
  have := cyc_len (tbN l) 256
  unfold cycT cycS
  split
  · split
    · omega
    · simp
  · simp
theorem pCyc_tell (l : List UInt8) (v : Value) (w : World) (hv : ByAt w v l) : Calls Try.prog 30 #[v] w fun e w' => ∃ vo, e = .returned (.tuple #[vo, .int .i64 (cycE l)]) ∧ IsAt w' vo (cycT l) ∧ Below w.heap.size w w' := by
  unfold cycE cycT
  by_cases h : l.length = 256
  · rw [if_pos h, if_pos h]
    refine (pCyc_any l h v w hv).mono ?_
    rintro e w' ⟨⟨ho, vo, rfl, hi⟩ | ⟨ho, rfl⟩, hb⟩
    · rw [if_pos ho, if_pos ho]; exact ⟨vo, rfl, hi, hb⟩
    · rw [if_neg (by rw [ho]; simp), if_neg (by rw [ho]; simp)]; exact ⟨_, rfl, nil_is _, hb⟩
  · rw [if_neg h, if_neg h]
    refine (pCyc_out l h v w hv).mono ?_
    rintro e w' ⟨rfl, hb⟩
    exact ⟨_, rfl, nil_is _, hb⟩
theorem refCyc_tell (l : List UInt8) (v : Value) (w : World) (hv : ByAt w v l) : Calls Try.prog 31 #[v] w fun e w' => ∃ vo, e = .returned (.tuple #[vo, .int .i64 (cycE l)]) ∧ IsAt w' vo (cycT l) ∧ Below w.heap.size w w' := by
  unfold cycE cycT
  by_cases h : l.length = 256
  · rw [if_pos h, if_pos h]
    refine (refCyc_any l h v w hv).mono ?_
    rintro e w' ⟨⟨ho, vo, rfl, hi⟩ | ⟨ho, rfl⟩, hb⟩
    · rw [if_pos ho, if_pos ho]; exact ⟨vo, rfl, row_is hi, hb⟩
    · rw [if_neg (by rw [ho]; simp), if_neg (by rw [ho]; simp)]; exact ⟨_, rfl, nil_is _, hb⟩
  · rw [if_neg h, if_neg h]
    refine (refCyc_out l h v w hv).mono ?_
    rintro e w' ⟨rfl, rfl⟩
    exact ⟨_, rfl, nil_is _, Below.refl _ _⟩
set_option maxRecDepth 100000 in
set_option maxHeartbeats 2000000 in
theorem tables_any (l : List UInt8) (hl : l.length ≤ 281474976710656) (x y : UInt8) (b : Int) (v : Value) (w : World) (hv : ByAt w v l) : Calls Try.prog 4 #[v, .int .u8 (x.toNat : Int), .int .u8 (y.toNat : Int), .int .i64 b] w fun e w' => e = .returned (.bool true) ∧ Below w.heap.size w w' := by
  have HV := hidD hv
  have H1 := hidD (fun w v h => pDiff_tell l x y v w h)
  have H2 := hidD (fun w v h => refDiff_tell l x y v w h)
  have H3 := hidD (fun w v h => pLines_tell l x y v w h)
  have H4 := hidD (fun w v h => refLines_tell l x y v w h)
  have H5 := hidD (fun w v h => pDeg_tell l b v w h)
  have H6 := hidD (fun w v h => refDeg_tell l b v w h)
  have H7 := hidD (fun w v h => pCyc_tell l v w h)
  have H8 := hidD (fun w v h => refCyc_tell l v w h)
  have H9 := hidD (fun u v w h1 h2 => ints_same (cycT l) (cycT_len l) u v w h1 h2)
  have HA := hidD (fun w => alive_any w)
  obtain ⟨x1, y1, e1⟩ := tell_is l (diffS (tbN l) x.toNat y.toNat : Nat)
  obtain ⟨x2, y2, e2⟩ := tell_is l ((linS (tbN l) x.toNat y.toNat : Int) - 128)
  obtain ⟨x3, y3, e3⟩ := tellD_is l b
  rw [e1] at H1 H2
  rw [e2] at H3 H4
  rw [e3] at H5 H6
  have HCV := hidD (fun (w' : World) (v' : Value) (h : ByAt w' v' l) => conv_by h)
  clear e1 e2 e3 hv
  generalize cycE l = y4 at *
  generalize cycT l = L4 at *
  generalize (x.toNat : Int) = X at *
  generalize (y.toNat : Int) = Y at *
  go_enter Try.func4, Try.ntmps4
  go_wp2_with (first
    | (at_builtin; refine wpList_append_fresh rfl _ _ rfl rfl v l rfl HV.out hl ?_; intro vo w1 hs1 hb1; have HS := hidD hs1.by'; have HB1 := hidD hb1; have HV1 := hidD (HV.out.next hb1); clear hs1 hb1)
    | (go_at_call 24; refine (H1.out _ _ HS.out).mono ?_; rintro e w2 ⟨rfl, hb2⟩; have HS2 := hidD (HS.out.next hb2); have HV2 := hidD (HV1.out.next hb2); have HB2 := hidD (Below.next HB1.out hb2); clear hb2)
    | (go_at_call 25; refine (H2.out _ _ HV2.out).mono ?_; rintro e w3 ⟨rfl, hb3⟩; have HS3 := hidD (HS2.out.next hb3); have HV3 := hidD (HV2.out.next hb3); have HB3 := hidD (Below.next HB2.out hb3); clear hb3)
    | (go_at_call 26; refine (H3.out _ _ HS3.out).mono ?_; rintro e w4 ⟨rfl, hb4⟩; have HS4 := hidD (HS3.out.next hb4); have HV4 := hidD (HV3.out.next hb4); have HB4 := hidD (Below.next HB3.out hb4); clear hb4)
    | (go_at_call 27; refine (H4.out _ _ HV4.out).mono ?_; rintro e w5 ⟨rfl, hb5⟩; have HS5 := hidD (HS4.out.next hb5); have HV5 := hidD (HV4.out.next hb5); have HB5 := hidD (Below.next HB4.out hb5); clear hb5)
    | (go_at_call 28; refine (H5.out _ _ HS5.out).mono ?_; rintro e w6 ⟨rfl, hb6⟩; have HS6 := hidD (HS5.out.next hb6); have HV6 := hidD (HV5.out.next hb6); have HB6 := hidD (Below.next HB5.out hb6); clear hb6)
    | (go_at_call 29; refine (H6.out _ _ HV6.out).mono ?_; rintro e w7 ⟨rfl, hb7⟩; have HS7 := hidD (HS6.out.next hb7); have HV7 := hidD (HV6.out.next hb7); have HB7 := hidD (Below.next HB6.out hb7); clear hb7)
    | (go_at_call 30; refine (H7.out _ _ HS7.out).mono ?_; rintro e w8 ⟨v8, rfl, hi8, hb8⟩; have HI8 := hidD hi8; have HS8 := hidD (HS7.out.next hb8); have HV8 := hidD (HV7.out.next hb8); have HB8 := hidD (Below.next HB7.out hb8); clear hb8 hi8)
    | (go_at_call 31; refine (H8.out _ _ HV8.out).mono ?_; rintro e w9 ⟨v9, rfl, hi9, hb9⟩; have HI9 := hidD hi9; have HI8' := hidD (HI8.out.next hb9); have HS9 := hidD (HS8.out.next hb9); have HV9 := hidD (HV8.out.next hb9); have HB9 := hidD (Below.next HB8.out hb9); clear hb9 hi9)
    | (go_at_call 32; refine (H9.out _ _ _ HI8'.out HI9.out).mono ?_; rintro e w10 ⟨rfl, hb10⟩; have HB10 := hidD (Below.next HB9.out hb10); have hcv1 := HCV.out _ _ (HS9.out.next hb10); have hcv2 := HCV.out _ _ (HV9.out.next hb10); clear hb10)
    | (go_at_call 23; refine (HA.out _).mono ?_; rintro e w11 ⟨rfl, hb11⟩; have HB11 := hidD (Below.next HB10.out hb11); clear hb11))
  go_ret
  exact ⟨rfl, HB11.out⟩
end Go.Proofs.Ytdbledfpphkppaa
/- What SboxStrong's walk leans on. -/
namespace Go.Proofs.Ytdbledfpphkppaa
open Go.RowKit
set_option linter.unusedVariables false

set_option maxRecDepth 100000 in
set_option maxHeartbeats 400000 in
theorem box_any (w : World) : Calls Try.prog 41 #[] w fun e w' => ∃ v, e = .returned v ∧ w'.ownsRow w.heap.size 5 1 v 256 ((boxTo 256).map encB) ∧ Below w.heap.size w w' := by
  have HS : Hid (∀ x : Nat, x < 256 → ∀ w, Calls Try.prog 11 #[.int .u8 (x : Int)] w fun e w' => e = .returned (.int .u8 ((subS (UInt8.ofNat x)).toNat : Int)) ∧ Below w.heap.size w w') := fun x hx w => by
    have := pSub_any (UInt8.ofNat x) w
    rw [u8_nat hx] at this; exact this
  have HAL : Hid (∀ (w' : World) o, Below w'.heap.size w' (w'.alloc o)) := fun w' o => (Below.refl _ _).alloc (Nat.le_refl _) o
  go_enter Try.func41, Try.ntmps41
  go_wp2_with fail
  go_loopw [1, 2] (fun o i wr => ∃ k : Nat, k ≤ 256 ∧ i = .int .i64 k ∧ wr.ownsRow w.heap.size 5 1 o k ((boxTo k).map encB) ∧ Below w.heap.size w wr) (fun _ i _ => 256 - (intOf i).toNat)
  case atStart => exact ⟨0, Nat.zero_le _, rfl, World.ownsRow_nil _ _ _ _, Below.refl _ _⟩
  case round =>
    obtain ⟨k, hk, rfl, hown, hbel⟩ := hrel
    have HBL := hidD hbel
    have HOW := hidD hown
    by_cases hlt : k < 256
    · have hlti : (k : Int) < 256 := by omega
      have HE := hidD (HS.out k hlt)
      have HN := hidD (box_succ k)
      have HBS : Hid (∀ w' : World, ByAt (w'.alloc (.cells #[.int .u8 ((subS (UInt8.ofNat k)).toNat : Int)] (5 : TypeId))) (.slice (some ⟨w'.heap.size, 0, none⟩) 1 1) [subS (UInt8.ofNat k)]) := fun w' => by_new w' _ _ rfl
      generalize hb : subS (UInt8.ofNat k) = b at *
      generalize hX : (b.toNat : Int) = X at *
      generalize boxTo k = L at *
      clear hown hbel hb hX
      go_wp2_with (first
        | (go_at_call 11; refine (HE.out _).mono ?_; rintro e w3 ⟨rfl, hb3⟩; have HO3 := hidD (row_below HOW.out hb3); have HB3 := hidD (Below.next HBL.out hb3); clear hb3)
        | (at_builtin; refine wpList_append_by rfl _ _ rfl w.heap.size u1 k (L.map encB) rfl (HO3.out.alloc _) (.slice (some ⟨w3.heap.size, 0, none⟩) 1 1) [b] rfl (HBS.out w3) (by simp; omega) (by have := HB3.out.size; simp; omega) ?_; intro v8 w8 hown8 hg8; have HO8 := hidD hown8; have HB8 := hidD (row_grown (HO3.out.alloc _) (Below.next HB3.out (HAL.out _ _)) hg8 (by have := HB3.out.size; simp; omega)); clear hown8 hg8))
      go_roundw
      case rel => exact ⟨k + 1, by omega, by go_num, by rw [HN.out, List.map_append]; exact HO8.out, HB8.out⟩
      case measure => simp [intOf]; omega
    · obtain rfl : k = 256 := by omega
      clear hown hbel
      go_wp2_with fail
      go_ret
      exact ⟨_, rfl, HOW.out, HBL.out⟩
/- of the box: as of the substitution -/
theorem tb_ext {t u : Nat → Nat} (h : ∀ x, x < 256 → t x = u x) {a c : Nat} (ha : a < 256) : diffS t a c = diffS u a c := ct_congr fun x hx => by rw [h x hx, h _ (xor256 hx ha)]
theorem lin_ext {t u : Nat → Nat} (h : ∀ x, x < 256 → t x = u x) (a b : Nat) : linS t a b = linS u a b := ct_congr fun x hx => by rw [h x hx]
theorem uni_ext {t u : Nat → Nat} (h : ∀ x, x < 256 → t x = u x) : uniS t = uniS u := mx_congr fun a ha => mx_congr fun c _ => tb_ext h (by omega)
theorem str_ext {t u : Nat → Nat} (h : ∀ x, x < 256 → t x = u x) : strS t = strS u := mx_congr fun b _ => mx_congr fun a _ => by unfold offS; rw [lin_ext h]
theorem deg_ext {t u : Nat → Nat} (h : ∀ x, x < 256 → t x = u x) (b : Nat) : degS t b = degS u b := mx_congr fun m _ => by
  have : anfS t b m = anfS u b m := by unfold anfS; rw [ct_congr (fun x hx => by rw [h x hx])]
  rw [this]
theorem once_ext {t u : Nat → Nat} (h : ∀ x, x < 256 → t x = u x) : onceB t = onceB u := by
  have e : (fun v => ct (fun x => t x == v) 256 == 1) = fun v => ct (fun x => u x == v) 256 == 1 := funext fun v => by rw [ct_congr (fun x hx => by rw [h x hx])]
  unfold onceB; rw [e]
theorem walk_ext {t u : Nat → Nat} (h : ∀ x, x < 256 → t x = u x) (hu : ∀ x, u x < 256) : ∀ f met y n, y < 256 → walkC t f met y n = walkC u f met y n
  | 0, met, y, n, _ => rfl
  | f + 1, met, y, n, hy => by
    rw [walkC, walkC]
    split
    · rw [h y hy]; exact walk_ext h hu f _ _ _ (hu y)
    · rfl
theorem cyc_ext {t u : Nat → Nat} (h : ∀ x, x < 256 → t x = u x) (hu : ∀ x, u x < 256) : ∀ k, k ≤ 256 → cycTo t k = cycTo u k
  | 0, _ => rfl
  | k + 1, hk => by
    rw [cycTo, cycTo, cyc_ext h hu k (by omega), walk_ext h hu _ _ _ _ (by omega)]
theorem once_sb : onceB sbN = true := by decide +kernel
theorem box_once : onceB (tbN (boxTo 256)) = true := by rw [once_ext (u := sbN) fun x hx => box_tb hx]; exact once_sb
theorem box_cyc : cycS (tbN (boxTo 256)) = [87, 81, 59, 27, 2] := by
  have : cycS (tbN (boxTo 256)) = cycS sbN := by unfold cycS; rw [cyc_ext (u := sbN) (fun x hx => box_tb hx) sbN_lt 256 (Nat.le_refl _)]
  rw [this]; exact cyc_sb
theorem diff_zero (t : Nat → Nat) (c : Nat) : diffS t 0 c = 0 ∨ diffS t 0 c = 256 := by
  unfold diffS
  by_cases h : c = 0
  · right
    subst h
    have : ct (fun x => t x ^^^ t (x ^^^ 0) == 0) 256 = ct (fun _ => true) 256 := ct_congr fun x _ => by simp
    rw [this]; exact sm_one 256
  · left
    have : ct (fun x => t x ^^^ t (x ^^^ 0) == c) 256 = ct (fun _ => false) 256 := ct_congr fun x _ => by simpa using fun h' => h h'.symm
    rw [this]; exact sm_zero 256
def sumTo (L : List Int) : Nat → Int
  | 0 => 0
  | k + 1 => sumTo L k + L.getD k 0
def cycL : List Int := [87, 81, 59, 27, 2]
theorem sum_bound {k : Nat} (h : k ≤ 5) : 0 ≤ sumTo cycL k ∧ sumTo cycL k ≤ 256 := by
  rcases (show k = 0 ∨ k = 1 ∨ k = 2 ∨ k = 3 ∨ k = 4 ∨ k = 5 by omega) with rfl | rfl | rfl | rfl | rfl | rfl <;> decide
theorem item_bound {k : Nat} (h : k < 5) : 0 ≤ cycL.getD k 0 ∧ cycL.getD k 0 ≤ 256 := by
  rcases (show k = 0 ∨ k = 1 ∨ k = 2 ∨ k = 3 ∨ k = 4 by omega) with rfl | rfl | rfl | rfl | rfl <;> decide
def notP (a : Nat) : Bool := 255 ^^^ a == 255 - a
theorem not_all : ((List.range 256).all notP) = true := by decide +kernel
theorem not_at {a : Nat} (h : a < 256) : 255 ^^^ a = 255 - a := eq_of_beq (List.all_eq_true.1 not_all a (by simpa using h))
theorem mod8 (b : Int) : ∃ (T : Int) (B : Nat), b.tmod 8 = T ∧ -8 < T ∧ T < 8 ∧ (T + 8).tmod 8 = (B : Int) ∧ B < 8 := by
  have h1 : -8 < b.tmod 8 := by have := Int.tmod_eq_emod (a := b) (b := 8); split at this <;> omega
  have h2 : b.tmod 8 < 8 := Int.tmod_lt_of_pos b (by omega)
  refine ⟨b.tmod 8, ((b.tmod 8 + 8) % 8).toNat, rfl, h1, h2, ?_, by omega⟩
  rw [Int.tmod_eq_emod_of_nonneg (by omega)]; omega
theorem box_by {w : World} {base g cap : Nat} (h : w.ownsRow base 5 1 (.slice (some ⟨g, 0, none⟩) 256 cap) 256 ((boxTo 256).map encB)) : ByAt w (.slice (some ⟨g, 0, none⟩) 256 cap) (boxTo 256) := by
  have h' : w.ownsRow base 5 1 (.slice (some ⟨g, 0, none⟩) 256 cap) (boxTo 256).length ((boxTo 256).map encB) := by rw [box_len]; exact h
  have h2 := row_by h'
  exact h2
end Go.Proofs.Ytdbledfpphkppaa
