/- Texts of one proof, one behind the other. -/
import Derived.Test.YtgefampdfhbmbaaWl1
import Derived.Test.YtgefampdfhbmbaaWl2
import Derived.Test.YtgefampdfhbmbaaWl3
import Derived.Test.YtgefampdfhbmbaaWl4
import Derived.Test.YtgefampdfhbmbaaMb
import Derived.Deep.WholeRow
import Derived.Laws.Alloc2
import Derived.Test.YtgefampdfhbmbaaMa
import Derived.Deep.Quiet
/- No line of the substitution is off by more than sixteen, and one is. -/
namespace Go.Proofs.Ytgefampdfhbmbaa
theorem lin_ok {b : Nat} (h0 : b ≠ 0) (hb : b < 256) : linOk b = true := by
  have go : ∀ d, d ≤ b → b < d + 64 → ((List.range 64).all fun b => (b + d == 0) || linOk (b + d)) = true → linOk b = true := fun d h1 h2 h => by
    have := List.all_eq_true.1 h (b - d) (by simp; omega)
    rw [show b - d + d = b by omega] at this
    simpa [h0] using this
  by_cases h1 : b < 64
  · exact go 0 (by omega) (by omega) lin_1
  by_cases h2 : b < 128
  · exact go 64 (by omega) (by omega) lin_2
  by_cases h3 : b < 192
  · exact go 128 (by omega) (by omega) lin_3
  · exact go 192 (by omega) (by omega) lin_4
theorem lin_sb {a b : Nat} (h0 : b ≠ 0) (ha : a < 256) (hb : b < 256) : 112 ≤ linS sbN a b ∧ linS sbN a b ≤ 144 := lin_of_ok hb ha (lin_ok h0 hb)
end Go.Proofs.Ytgefampdfhbmbaa
/- Plain facts of the substitution: the greatest difference, the greatest line, the degrees, the inverse. -/
namespace Go.Proofs.Ytgefampdfhbmbaa
set_option linter.unusedVariables false
def mx (f : Nat → Nat) : Nat → Nat
  | 0 => 0
  | n + 1 => Nat.max (mx f n) (f n)
theorem mx_le {f : Nat → Nat} {B : Nat} : ∀ {n : Nat}, (∀ x, x < n → f x ≤ B) → mx f n ≤ B
  | 0, _ => Nat.zero_le _
  | n + 1, h => Nat.max_le.2 ⟨mx_le fun x hx => h x (by omega), h n (by omega)⟩
theorem le_mx {f : Nat → Nat} : ∀ {n x : Nat}, x < n → f x ≤ mx f n
  | 0, _, h => absurd h (by omega)
  | n + 1, x, h => by
    by_cases hx : x = n
    · subst hx; exact Nat.le_max_right _ _
    · exact Nat.le_trans (le_mx (show x < n by omega)) (Nat.le_max_left _ _)
theorem mx_congr {f g : Nat → Nat} : ∀ {n : Nat}, (∀ x, x < n → f x = g x) → mx f n = mx g n
  | 0, _ => rfl
  | n + 1, h => by rw [mx, mx, mx_congr (fun x hx => h x (by omega)), h n (by omega)]
def uniS (t : Nat → Nat) : Nat := mx (fun a => mx (fun c => diffS t (a + 1) c) 256) 255
def offS (t : Nat → Nat) (a b : Nat) : Nat := ((linS t a b : Int) - 128).natAbs
def strS (t : Nat → Nat) : Nat := mx (fun b => mx (fun a => offS t a (b + 1)) 256) 255
def anfS (t : Nat → Nat) (bit m : Nat) : Nat := ct (fun x => (x &&& m == x) && (t x).testBit bit) 256 % 2
def degS (t : Nat → Nat) (bit : Nat) : Nat := mx (fun m => if anfS t bit m = 1 then onesTo m 8 else 0) 256
theorem uni_at : diffS sbN 1 31 = 4 := by decide +kernel
theorem uni_sb : uniS sbN = 4 := by
  apply Nat.le_antisymm
  · refine mx_le fun a ha => mx_le fun c hc => ?_
    have := diff_sb (a := a + 1) (c := c) (by omega) (by omega) hc; omega
  · have h1 : diffS sbN (0 + 1) 31 ≤ mx (fun c => diffS sbN (0 + 1) c) 256 := le_mx (f := fun c => diffS sbN (0 + 1) c) (by omega)
    have h2 : mx (fun c => diffS sbN (0 + 1) c) 256 ≤ uniS sbN := le_mx (f := fun a => mx (fun c => diffS sbN (a + 1) c) 256) (by omega)
    have h3 : diffS sbN (0 + 1) 31 = 4 := uni_at
    omega
theorem str_at : linS sbN 45 1 = 112 := by decide +kernel
theorem off_sb {a b : Nat} (h0 : b ≠ 0) (ha : a < 256) (hb : b < 256) : offS sbN a b ≤ 16 := by
  have := lin_sb h0 ha hb; unfold offS; omega
theorem str_sb : strS sbN = 16 := by
  apply Nat.le_antisymm
  · exact mx_le fun b hb => mx_le fun a ha => off_sb (by omega) ha (by omega)
  · have h1 : offS sbN 45 (0 + 1) ≤ mx (fun a => offS sbN a (0 + 1)) 256 := le_mx (f := fun a => offS sbN a (0 + 1)) (by omega)
    have h2 : mx (fun a => offS sbN a (0 + 1)) 256 ≤ strS sbN := le_mx (f := fun b => mx (fun a => offS sbN a (b + 1)) 256) (by omega)
    have h3 : linS sbN 45 (0 + 1) = 112 := str_at
    unfold offS at *; omega
def degW : List Nat := [253, 251, 254, 253, 253, 247, 251, 253]
theorem deg_at : ((List.range 8).all fun i => anfS sbN i 255 == 0 && (anfS sbN i (degW.getD i 0) == 1 && (Nat.blt (degW.getD i 0) 256 && onesTo (degW.getD i 0) 8 == 7))) = true := by decide +kernel
theorem ones_top : ((List.range 255).all fun m => Nat.ble (onesTo m 8) 7) = true := by decide +kernel
theorem deg_sb {bit : Nat} (h : bit < 8) : degS sbN bit = 7 := by
  have hd := List.all_eq_true.1 deg_at bit (by simpa using h)
  obtain ⟨h1, h2⟩ := Bool.and_eq_true_iff.1 hd
  obtain ⟨h2, h3⟩ := Bool.and_eq_true_iff.1 h2
  obtain ⟨h3, h4⟩ := Bool.and_eq_true_iff.1 h3
  have h1 := eq_of_beq h1; have h2 := eq_of_beq h2; have h4 := eq_of_beq h4
  have h3 : degW.getD bit 0 < 256 := by simpa using h3
  clear hd
  apply Nat.le_antisymm
  · refine mx_le fun m hm => ?_
    by_cases hm2 : m = 255
    · subst hm2; rw [h1]; simp
    · have := List.all_eq_true.1 ones_top m (by simp; omega)
      have : onesTo m 8 ≤ 7 := by simpa using this
      split <;> omega
  · have := le_mx (f := fun m => if anfS sbN bit m = 1 then onesTo m 8 else 0) h3
    simp only [h2, h4, if_pos] at this
    exact this
/- the inverse; none left or turned over -/
def usL : List Nat := [
  82, 9, 106, 213, 48, 54, 165, 56, 191, 64, 163, 158, 129, 243, 215, 251,
  124, 227, 57, 130, 155, 47, 255, 135, 52, 142, 67, 68, 196, 222, 233, 203,
  84, 123, 148, 50, 166, 194, 35, 61, 238, 76, 149, 11, 66, 250, 195, 78,
  8, 46, 161, 102, 40, 217, 36, 178, 118, 91, 162, 73, 109, 139, 209, 37,
  114, 248, 246, 100, 134, 104, 152, 22, 212, 164, 92, 204, 93, 101, 182, 146,
  108, 112, 72, 80, 253, 237, 185, 218, 94, 21, 70, 87, 167, 141, 157, 132,
  144, 216, 171, 0, 140, 188, 211, 10, 247, 228, 88, 5, 184, 179, 69, 6,
  208, 44, 30, 143, 202, 63, 15, 2, 193, 175, 189, 3, 1, 19, 138, 107,
  58, 145, 17, 65, 79, 103, 220, 234, 151, 242, 207, 206, 240, 180, 230, 115,
  150, 172, 116, 34, 231, 173, 53, 133, 226, 249, 55, 232, 28, 117, 223, 110,
  71, 241, 26, 113, 29, 41, 197, 137, 111, 183, 98, 14, 170, 24, 190, 27,
  252, 86, 62, 75, 198, 210, 121, 32, 154, 219, 192, 254, 120, 205, 90, 244,
  31, 221, 168, 51, 136, 7, 199, 49, 177, 18, 16, 89, 39, 128, 236, 95,
  96, 81, 127, 169, 25, 181, 74, 13, 45, 229, 122, 159, 147, 201, 156, 239,
  160, 224, 59, 77, 174, 42, 245, 176, 200, 235, 187, 60, 131, 83, 153, 97,
  23, 43, 4, 126, 186, 119, 214, 38, 225, 105, 20, 99, 85, 33, 12, 125]
def usN (x : Nat) : Nat := usL.getD x 0
theorem us_all : ((List.range 256).all fun x => usN (sbN x) == x && (sbN (usN x) == x && (Nat.blt (usN x) 256 && (sbN x != x && sbN x != 255 - x)))) = true := by decide +kernel
theorem us_sb {x : Nat} (h : x < 256) : usN (sbN x) = x ∧ sbN (usN x) = x ∧ usN x < 256 ∧ sbN x ≠ x ∧ sbN x ≠ 255 - x := by
  have hd := List.all_eq_true.1 us_all x (by simpa using h)
  obtain ⟨h1, h2⟩ := Bool.and_eq_true_iff.1 hd
  obtain ⟨h2, h3⟩ := Bool.and_eq_true_iff.1 h2
  obtain ⟨h3, h4⟩ := Bool.and_eq_true_iff.1 h3
  obtain ⟨h4, h5⟩ := Bool.and_eq_true_iff.1 h4
  exact ⟨eq_of_beq h1, eq_of_beq h2, by simpa using h3, by simpa using h4, by simpa using h5⟩
end Go.Proofs.Ytgefampdfhbmbaa
/- What the document's Unsub, Round, Differences, Parity and Lines answer. -/
namespace Go.Proofs.Ytgefampdfhbmbaa
open Go.RowKit
set_option linter.unusedVariables false

/- a table's word -/
def tbN (l : List UInt8) (x : Nat) : Nat := (l.getD x 0).toNat
theorem tbN_lt (l : List UInt8) (x : Nat) : tbN l x < 256 := (l.getD x 0).toNat_lt
theorem i64_xorN {a b : Nat} (ha : a < 256) (hb : b < 256) : bits .xor .i64 (a : Int) (b : Int) = ((a ^^^ b : Nat) : Int) := i64_xor_nat a b (by omega) (by omega)

theorem tab_cells {w wr : World} {a : Option Addr} {n cap : Nat} {l : List UInt8} (h : ByAt w (.slice a n cap) l) (hl : l.length = 256) (hb : Below w.heap.size w wr) {x : Nat} (hx : x < 256) :
    ∃ g o, a = some ⟨g, o, none⟩ ∧ g < w.heap.size ∧ ∀ n, (wr.drewN n).cell? ⟨g, o + x, none⟩ = some (.int .u8 (tbN l x : Int)) := by
  obtain ⟨a', c', he, hc⟩ := h.shape
  cases he
  obtain ⟨g, o, rfl, hg, hc⟩ := hc x (by omega)
  exact ⟨g, o, rfl, hg, fun n => (hb.cell (p := ⟨g, o + x, none⟩) hg).trans hc⟩

end Go.Proofs.Ytgefampdfhbmbaa
/- What the document's Unsub, Round, Parity and Lines answer. -/
namespace Go.Proofs.Ytgefampdfhbmbaa
open Go.RowKit
set_option linter.unusedVariables false

theorem Below.next {w w1 w2 : World} (h : Below w.heap.size w w1) (k : Below w1.heap.size w1 w2) : Below w.heap.size w w2 := h.trans (k.mono h.size)
def unsS (b : UInt8) : Nat := usN b.toNat
theorem uns_first (b : UInt8) {x : Nat} (hx : x < 256) : (subS (UInt8.ofNat x) = b) ↔ x = unsS b := by
  have h := us_sb hx
  have h2 := us_sb b.toNat_lt
  unfold unsS
  constructor
  · intro he; rw [← he, sub_sb, u8_nat hx, h.1]
  · intro he; apply UInt8.toNat.inj; rw [sub_sb, u8_nat hx, he, h2.2.1]
def rndS (n : Int) : Nat := if n < 1 then 0 else (pw 27 2 ((n - 1) % 51).toNat).toNat
set_option maxRecDepth 100000 in
set_option maxHeartbeats 400000 in
theorem refRound_low (n : Int) (h : n < 1) (w : World) : Calls Try.prog 63 #[.int .i64 n] w fun e w' => e = .returned (.int .u8 0) ∧ w' = w := by
  go_enter Try.func63, Try.ntmps63
  go_wp2_with fail
  go_ret
  exact ⟨rfl, rfl⟩
set_option maxRecDepth 100000 in
set_option maxHeartbeats 400000 in
theorem refRound_any (n : Int) (h : n < 9223372036854775808) (w : World) : Calls Try.prog 63 #[.int .i64 n] w fun e w' => e = .returned (.int .u8 (rndS n : Int)) ∧ w' = w := by
  by_cases h1 : n < 1
  · have := refRound_low n h1 w
    unfold rndS; rw [if_pos h1]; exact this
  · obtain ⟨M, hM⟩ : ∃ M : Nat, (n - 1) % 51 = (M : Int) := ⟨((n - 1) % 51).toNat, by omega⟩
    have hMl : M < 51 := by omega
    have ht : (n - 1).tmod 51 = (M : Int) := by rw [Int.tmod_eq_emod_of_nonneg (by omega)]; exact hM
    have HR : Hid (rndS n = (pw 27 2 M).toNat) := by unfold rndS; rw [if_neg h1, hM]; rfl
    have HC : Hid (∀ k w, Calls Try.prog 76 #[.int .u8 ((pw 27 2 k).toNat : Int), .int .u8 2, .int .i64 283] w fun e w' => e = .returned (.int .u8 ((pw 27 2 (k + 1)).toNat : Int)) ∧ w' = w) := fun k w => refCarry_in 27 (pw 27 2 k) 2 283 rfl w
    generalize rndS n = R at *
    clear hM
    go_enter Try.func63, Try.ntmps63
    go_wp2_with fail
    go_loopw [3, 4] (fun x i wr => ∃ k : Nat, k ≤ M ∧ i = .int .i64 k ∧ x = .int .u8 ((pw 27 2 k).toNat : Int) ∧ wr = w) (fun _ i _ => M - (intOf i).toNat)
    case atStart => exact ⟨0, Nat.zero_le _, rfl, rfl, rfl⟩
    case round =>
      obtain ⟨k, hk, rfl, rfl, rfl⟩ := hrel
      by_cases hlt : k < M
      · have hlti : (k : Int) < M := by omega
        have HCk := hidD (HC.out k)
        generalize hx : ((pw 27 2 (k + 1)).toNat : Int) = X at *
        have HX := hidD hx
        clear hx
        generalize ((pw 27 2 k).toNat : Int) = Y at *
        go_wp2_with (go_at_call 76; refine (HCk.out _).mono ?_; rintro e w3 ⟨rfl, hb3⟩)
        go_roundw
        case rel => exact ⟨k + 1, by omega, by go_num, by rw [HX.out], by first | trivial | exact hb3⟩
        case measure => simp [intOf]; omega
      · obtain rfl : k = M := by omega
        rw [← HR.out]
        go_wp2_with fail
        go_ret
        exact ⟨rfl, rfl⟩

end Go.Proofs.Ytgefampdfhbmbaa
/- What the document's Lines answers. -/
namespace Go.Proofs.Ytgefampdfhbmbaa
open Go.RowKit
set_option linter.unusedVariables false

theorem u8_andN {a b : Nat} (ha : a < 256) (hb : b < 256) : bits .and .u8 (a : Int) (b : Int) = ((a &&& b : Nat) : Int) := u8_and_nat a b (by omega) (by omega)
theorem and256 {a b : Nat} (hb : b < 256) : a &&& b < 256 := Nat.lt_of_le_of_lt Nat.and_le_right hb
theorem tab_cellsB {w wr : World} {a : Option Addr} {n cap : Nat} {l : List UInt8} (h : ByAt w (.slice a n cap) l) (hl : l.length = 256) (hb : Below w.heap.size w wr) {x : Nat} (hx : x < 256) :
    ∃ g o, a = some ⟨g, o, none⟩ ∧ g < w.heap.size ∧ ∀ i : BW wr, i.v.cell? ⟨g, o + x, none⟩ = some (.int .u8 (tbN l x : Int)) := by
  obtain ⟨a', c', he, hc⟩ := h.shape
  cases he
  obtain ⟨g, o, rfl, hg, hc⟩ := hc x (by omega)
  exact ⟨g, o, rfl, hg, fun i => (i.below.cell (p := ⟨g, o + x, none⟩) (Nat.lt_of_lt_of_le hg hb.size)).trans ((hb.cell (p := ⟨g, o + x, none⟩) hg).trans hc)⟩
theorem same_par (m n : Nat) : ((m : Int) = (n : Int)) ↔ m = n := by omega

end Go.Proofs.Ytgefampdfhbmbaa
/- A row of numbers in memory. -/
namespace Go.Proofs.Ytgefampdfhbmbaa
open Go.RowKit
set_option linter.unusedVariables false

def rowZ (kd : IntKind) (n : Nat) (f : Nat → Int) : Array Value := ((List.range n).map fun i => Value.int kd (f i)).toArray
theorem rowZ_size (kd : IntKind) (n : Nat) (f : Nat → Int) : (rowZ kd n f).size = n := by simp [rowZ]
theorem rowZ_get (kd : IntKind) (n : Nat) (f : Nat → Int) (i : Nat) (h : i < n) : (rowZ kd n f)[i]? = some (.int kd (f i)) := by
  unfold rowZ
  rw [List.getElem?_toArray, List.getElem?_map, List.getElem?_range h]; rfl
theorem rowZ_congr (kd : IntKind) {n : Nat} {f g : Nat → Int} (h : ∀ i, i < n → f i = g i) : rowZ kd n f = rowZ kd n g := by
  apply Array.ext_getElem?
  intro i
  by_cases hi : i < n
  · rw [rowZ_get kd n f i hi, rowZ_get kd n g i hi, h i hi]
  · rw [Array.getElem?_eq_none (by rw [rowZ_size]; omega), Array.getElem?_eq_none (by rw [rowZ_size]; omega)]
theorem rowZ_set (kd : IntKind) (n : Nat) (f : Nat → Int) (j : Nat) (v : Int) (h : j < n) : (rowZ kd n f).setIfInBounds j (.int kd v) = rowZ kd n (fun i => if i = j then v else f i) := by
  apply Array.ext_getElem?
  intro i
  rw [Array.getElem?_setIfInBounds]
  by_cases hi : i < n
  · rw [rowZ_size]
    by_cases he : j = i
    · subst he; rw [if_pos rfl, if_pos h, rowZ_get kd n _ j h, if_pos rfl]
    · rw [if_neg he, rowZ_get kd n f i hi, rowZ_get kd n _ i hi, if_neg (fun h => he h.symm)]
  · have h1 : ∀ f, (rowZ kd n f)[i]? = none := fun f => Array.getElem?_eq_none (by rw [rowZ_size]; omega)
    rw [if_neg (by omega), h1, h1]
theorem rowZ_one (kd : IntKind) (n : Nat) (f : Nat → Int) : (rowZ kd n f).all (·.oneCell') = true := by
  rw [Array.all_eq_true_iff_forall_mem]
  intro v hv
  simp only [rowZ, List.mem_toArray, List.mem_map] at hv
  obtain ⟨i, _, rfl⟩ := hv; rfl
def RowZ (w : World) (g : Nat) (kd : IntKind) (n : Nat) (ty : TypeId) (f : Nat → Int) : Prop := w.heap[g]? = some (.cells (rowZ kd n f) ty (0, 0))
theorem RowZ.lt {w : World} {g n : Nat} {kd : IntKind} {ty : TypeId} {f : Nat → Int} (h : RowZ w g kd n ty f) : g < w.heap.size := row_lt h
theorem RowZ.cell {w : World} {g n : Nat} {kd : IntKind} {ty : TypeId} {f : Nat → Int} (h : RowZ w g kd n ty f) {k : Nat} (hk : k < n) : w.cell? ⟨g, k, none⟩ = some (.int kd (f k)) := by
  rw [cell_of_row _ _ _ _ _ _ h]; exact rowZ_get kd n f k hk
theorem RowZ.frozen {w : World} {g n : Nat} {kd : IntKind} {ty : TypeId} {f : Nat → Int} (h : RowZ w g kd n ty f) (k : Nat) : w.frozen? ⟨g, k, none⟩ = false := frozen_of_row _ _ _ _ _ h
theorem RowZ.set {w : World} {g n : Nat} {kd : IntKind} {ty : TypeId} {f : Nat → Int} (h : RowZ w g kd n ty f) {k : Nat} (hk : k < n) (v : Int) : RowZ (w.setCell ⟨g, k, none⟩ (.int kd v)) g kd n ty (fun i => if i = k then v else f i) := by
  unfold RowZ; rw [← rowZ_set kd n f k v hk, heap_setCell_same w g k _ _ _ h]
theorem RowZ.below {w w' : World} {g n b : Nat} {kd : IntKind} {ty : TypeId} {f : Nat → Int} (h : RowZ w g kd n ty f) (hb : Below b w w') (hg : g < b) : RowZ w' g kd n ty f := (hb.block g hg).trans h
theorem RowZ.next {w w' : World} {g n : Nat} {kd : IntKind} {ty : TypeId} {f : Nat → Int} (h : RowZ w g kd n ty f) (hb : Below w.heap.size w w') : RowZ w' g kd n ty f := h.below hb h.lt
theorem RowZ.congr {w : World} {g n : Nat} {kd : IntKind} {ty : TypeId} {f f' : Nat → Int} (h : RowZ w g kd n ty f) (he : ∀ i, i < n → f i = f' i) : RowZ w g kd n ty f' := by
  unfold RowZ; rw [← rowZ_congr kd he]; exact h
theorem RowZ.new (w : World) (kd : IntKind) (n : Nat) (ty : TypeId) (f : Nat → Int) : RowZ (w.alloc (.cells (rowZ kd n f) ty)) w.heap.size kd n ty f := heap_alloc_last _ _
theorem below_setCell {B g : Nat} {a w : World} (h : Below B a w) (hg : B ≤ g) (k : Nat) (v : Value) : Below B a (w.setCell ⟨g, k, none⟩ v) := h.setCell (p := ⟨g, k, none⟩) hg v
end Go.Proofs.Ytgefampdfhbmbaa
/- What the document's Uniform answers. -/
namespace Go.Proofs.Ytgefampdfhbmbaa
open Go.RowKit
set_option linter.unusedVariables false

def cD (t : Nat → Nat) (a k d : Nat) : Nat := ct (fun x => t x ^^^ t (x ^^^ a) == d) k
theorem mx_ge {f g : Nat → Nat} : ∀ {n : Nat}, (∀ x, x < n → f x ≤ g x) → mx f n ≤ mx g n
  | 0, _ => Nat.le_refl _
  | n + 1, h => mx_le fun x hx => Nat.le_trans (h x hx) (le_mx hx)
theorem mx_step (t : Nat → Nat) (a k : Nat) (hd : t k ^^^ t (k ^^^ a) < 256) : mx (cD t a (k + 1)) 256 = max (mx (cD t a k) 256) (cD t a (k + 1) (t k ^^^ t (k ^^^ a))) := by
  apply Nat.le_antisymm
  · refine mx_le fun d hdl => ?_
    by_cases h : t k ^^^ t (k ^^^ a) = d
    · subst h; exact Nat.le_max_right _ _
    · refine Nat.le_trans ?_ (Nat.le_max_left _ _)
      have : cD t a (k + 1) d = cD t a k d := by
        unfold cD; rw [ct_succ, show (t k ^^^ t (k ^^^ a) == d) = false by simpa using h]; rfl
      rw [this]; exact le_mx hdl
  · refine Nat.max_le.2 ⟨mx_ge fun d _ => ?_, le_mx hd⟩
    unfold cD; rw [ct_succ]; omega
theorem mx_zero (t : Nat → Nat) (a : Nat) : mx (cD t a 0) 256 = 0 := Nat.le_antisymm (mx_le fun d _ => Nat.le_refl _) (Nat.zero_le _)
def bestS (t : Nat → Nat) (j : Nat) : Nat := mx (fun a => mx (fun c => diffS t (a + 1) c) 256) j
theorem best_succ (t : Nat → Nat) (j : Nat) : bestS t (j + 1) = max (bestS t j) (mx (cD t (j + 1) 256) 256) := rfl
theorem best_le (t : Nat → Nat) (j : Nat) : bestS t j ≤ 256 := mx_le fun a _ => mx_le fun c _ => ct_le _ _
theorem cD_le (t : Nat → Nat) (a k d : Nat) : cD t a k d ≤ k := ct_le _ _

end Go.Proofs.Ytgefampdfhbmbaa
/- Plain facts: sums of signs that are put together bit by bit. -/
namespace Go.Proofs.Ytgefampdfhbmbaa
set_option linter.unusedVariables false

def whS (f : Nat → Int) : Nat → Nat → Int
  | 0, i => f i
  | k + 1, i => if i.testBit k then whS f k (i - 2 ^ k) - whS f k i else whS f k i + whS f k (i + 2 ^ k)
theorem wh_bound {f : Nat → Int} (hf : ∀ j, -1 ≤ f j ∧ f j ≤ 1) : ∀ k i, -(2 ^ k : Int) ≤ whS f k i ∧ whS f k i ≤ (2 ^ k : Int)
  | 0, i => hf i
  | k + 1, i => by
    have h1 := wh_bound hf k i
    have h2 := wh_bound hf k (i - 2 ^ k)
    have h3 := wh_bound hf k (i + 2 ^ k)
    have hp : (2 ^ (k + 1) : Int) = 2 ^ k * 2 := Int.pow_succ 2 k
    rw [whS, hp]
    generalize (2 ^ k : Int) = P at *
    split <;> omega
/- within a round -/
def lowS (k j : Nat) : Nat := if j.testBit k then j - 2 ^ k else j
def midS (f : Nat → Int) (k i j : Nat) : Int := if lowS k j < i then whS f (k + 1) j else whS f k j
def bitP (k i : Nat) : Bool := (i.testBit k || (Nat.blt (i + 2 ^ k) 256 && (i + 2 ^ k).testBit k)) && (!i.testBit k || (Nat.ble (2 ^ k) i && !(i - 2 ^ k).testBit k))
theorem bit_tab : ((List.range 8).all fun k => (List.range 256).all fun i => bitP k i) = true := by decide +kernel
theorem bit_at {k i : Nat} (hk : k < 8) (hi : i < 256) : bitP k i = true := List.all_eq_true.1 (List.all_eq_true.1 bit_tab k (by simpa using hk)) i (by simpa using hi)
theorem bit_low {k i : Nat} (hk : k < 8) (hi : i < 256) (h : i.testBit k = false) : i + 2 ^ k < 256 ∧ (i + 2 ^ k).testBit k = true := by
  have := bit_at hk hi
  unfold bitP at this
  rw [h] at this
  have := (Bool.and_eq_true_iff.1 this).1
  rw [Bool.false_or] at this
  obtain ⟨h1, h2⟩ := Bool.and_eq_true_iff.1 this
  exact ⟨by simpa using h1, h2⟩
theorem bit_high {k i : Nat} (hk : k < 8) (hi : i < 256) (h : i.testBit k = true) : 2 ^ k ≤ i ∧ (i - 2 ^ k).testBit k = false := by
  have := bit_at hk hi
  unfold bitP at this
  rw [h] at this
  have := (Bool.and_eq_true_iff.1 this).2
  rw [Bool.not_true, Bool.false_or] at this
  obtain ⟨h1, h2⟩ := Bool.and_eq_true_iff.1 this
  exact ⟨by simpa using h1, by simpa using h2⟩
theorem mid_zero (f : Nat → Int) (k j : Nat) : midS f k 0 j = whS f k j := by unfold midS; rw [if_neg (by omega)]
theorem low_le (k j : Nat) : lowS k j ≤ j := by unfold lowS; split; exact Nat.sub_le _ _; exact Nat.le_refl _
theorem mid_all (f : Nat → Int) (k : Nat) {j : Nat} (hj : j < 256) : midS f k 256 j = whS f (k + 1) j := by
  unfold midS; rw [if_pos (by have := low_le k j; omega)]
theorem mid_skip (f : Nat → Int) {k i : Nat} (hk : k < 8) (hi : i < 256) (h : i.testBit k = true) {j : Nat} (hj : j < 256) : midS f k (i + 1) j = midS f k i j := by
  unfold midS
  by_cases h1 : lowS k j < i
  · rw [if_pos h1, if_pos (by omega)]
  · have : lowS k j ≠ i := by
      intro he
      unfold lowS at he
      by_cases hb : j.testBit k = true
      · rw [if_pos hb] at he; rw [← he, (bit_high hk hj hb).2] at h; cases h
      · rw [if_neg hb] at he; rw [he] at hb; exact hb h
    rw [if_neg h1, if_neg (by omega)]
theorem mid_a (f : Nat → Int) {k i : Nat} (h : i.testBit k = false) : midS f k i i = whS f k i := by
  unfold midS lowS; rw [h]; simp
theorem mid_b (f : Nat → Int) {k i : Nat} (hk : k < 8) (hi : i < 256) (h : i.testBit k = false) : midS f k i (i + 2 ^ k) = whS f k (i + 2 ^ k) := by
  unfold midS lowS; rw [(bit_low hk hi h).2]; simp
theorem mid_put (f : Nat → Int) {k i : Nat} (hk : k < 8) (hi : i < 256) (h : i.testBit k = false) {j : Nat} (hj : j < 256) :
    (if j = i + 2 ^ k then whS f k i - whS f k (i + 2 ^ k) else if j = i then whS f k i + whS f k (i + 2 ^ k) else midS f k i j) = midS f k (i + 1) j := by
  have hb := bit_low hk hi h
  by_cases h1 : j = i + 2 ^ k
  · subst h1
    rw [if_pos rfl]
    unfold midS lowS
    rw [hb.2, if_pos rfl, if_pos (by omega), whS, if_pos hb.2]
    rw [show i + 2 ^ k - 2 ^ k = i by omega]
  · rw [if_neg h1]
    by_cases h2 : j = i
    · subst h2
      rw [if_pos rfl]
      have hl : lowS k j = j := by unfold lowS; rw [h]; simp
      unfold midS
      rw [hl, if_pos (by omega), whS, h]; simp
    · rw [if_neg h2]
      unfold midS
      by_cases h3 : lowS k j < i
      · rw [if_pos h3, if_pos (by omega)]
      · have : lowS k j ≠ i := by
          intro he
          unfold lowS at he
          by_cases hb : j.testBit k = true
          · rw [if_pos hb] at he; have := (bit_high hk hj hb).1; exact h1 (by omega)
          · rw [if_neg hb] at he; exact h2 he
        rw [if_neg h3, if_neg (by omega)]
/- what it counts -/
def agS (g : Nat → Nat) (k i : Nat) : Nat := ct (fun y => onesTo (y &&& i) k % 2 == g (i / 2 ^ k * 2 ^ k + y)) (2 ^ k)
theorem ag_step (g : Nat → Nat) (hg : ∀ x, g x < 2) (k i : Nat) : (agS g (k + 1) i : Int) = if i.testBit k then (agS g k (i - 2 ^ k) : Int) + 2 ^ k - agS g k i else (agS g k i : Int) + agS g k (i + 2 ^ k) := by
  have hp : 2 ^ (k + 1) = 2 ^ k + 2 ^ k := by rw [Nat.pow_succ]; omega
  have hpos := Nat.two_pow_pos k
  have lo : ∀ {x : Nat}, x < 2 ^ k → x.testBit k = false := fun hx => Nat.testBit_lt_two_pow hx
  have hdd : i / 2 ^ (k + 1) = i / 2 ^ k / 2 := by rw [Nat.pow_succ, Nat.div_div_eq_div_mul]
  have hbit : i.testBit k = decide (i / 2 ^ k % 2 = 1) := Nat.testBit_eq_decide_div_mod_eq
  have h1 : agS g (k + 1) i = ct (fun y => onesTo (y &&& i) k % 2 == g (i / 2 ^ k / 2 * 2 * 2 ^ k + y)) (2 ^ k) + ct (fun y => (onesTo (y &&& i) k + (i.testBit k).toNat) % 2 == g (i / 2 ^ k / 2 * 2 * 2 ^ k + 2 ^ k + y)) (2 ^ k) := by
    unfold agS
    rw [hp, ct_add]
    rw [show i / (2 ^ k + 2 ^ k) * (2 ^ k + 2 ^ k) = i / 2 ^ k / 2 * 2 * 2 ^ k by rw [← hp, hdd, Nat.pow_succ, Nat.mul_assoc, Nat.mul_comm 2]]
    congr 1
    · refine ct_congr fun x hx => ?_
      rw [onesTo, Nat.testBit_and, lo hx]; rfl
    · refine ct_congr fun x hx => ?_
      rw [onesTo, Nat.testBit_and, Nat.testBit_two_pow_add_eq, lo hx, Nat.add_assoc]
      rw [ones_congr (u := 2 ^ k + x &&& i) (v := x &&& i) k fun i hi => by rw [Nat.testBit_and, Nat.testBit_and, Nat.testBit_two_pow_add_gt hi]]
      rfl
  by_cases hb : i.testBit k = true
  · rw [if_pos hb]
    rw [hb] at hbit h1
    have hm : i / 2 ^ k % 2 = 1 := by simpa using hbit.symm
    have hge : 2 ^ k ≤ i := by
      refine Nat.le_of_not_lt fun h => ?_
      rw [Nat.div_eq_of_lt h] at hm; omega
    have hq : i / 2 ^ k / 2 * 2 = i / 2 ^ k - 1 := by omega
    have hs : (i - 2 ^ k) / 2 ^ k = i / 2 ^ k - 1 := by have := Nat.sub_mul_div i (2 ^ k) 1; rw [Nat.mul_one] at this; exact this
    have e1 : agS g k (i - 2 ^ k) = ct (fun y => onesTo (y &&& i) k % 2 == g (i / 2 ^ k / 2 * 2 * 2 ^ k + y)) (2 ^ k) := by
      unfold agS; rw [hs, ← hq]
      refine ct_congr fun x hx => ?_
      rw [ones_congr (u := x &&& (i - 2 ^ k)) (v := x &&& i) k fun j hj => by
        rw [Nat.testBit_and, Nat.testBit_and]
        have := Nat.testBit_two_pow_add_gt hj (i - 2 ^ k)
        rw [show 2 ^ k + (i - 2 ^ k) = i by omega] at this
        rw [this]]
    have e2 := ct_not (fun y => onesTo (y &&& i) k % 2 == g (i / 2 ^ k * 2 ^ k + y)) (2 ^ k)
    have e3 : ct (fun y => (onesTo (y &&& i) k + true.toNat) % 2 == g (i / 2 ^ k / 2 * 2 * 2 ^ k + 2 ^ k + y)) (2 ^ k) = ct (fun y => !(onesTo (y &&& i) k % 2 == g (i / 2 ^ k * 2 ^ k + y))) (2 ^ k) := by
      refine ct_congr fun x hx => ?_
      rw [show i / 2 ^ k / 2 * 2 * 2 ^ k + 2 ^ k = i / 2 ^ k * 2 ^ k by rw [hq]; have : 1 ≤ i / 2 ^ k := by omega
                                                                        rw [Nat.sub_mul, Nat.one_mul]; have := Nat.mul_le_mul_right (2 ^ k) this; omega]
      exact flip2 (n := 0) (hg _) (by omega)
    rw [h1, e3, ← e1]
    unfold agS at *
    rw [show ((2 : Int) ^ k) = ((2 ^ k : Nat) : Int) by simp]
    omega
  · rw [if_neg hb]
    have hb : i.testBit k = false := by simpa using hb
    rw [hb] at hbit h1
    have hm : i / 2 ^ k % 2 = 0 := by have : ¬ i / 2 ^ k % 2 = 1 := by simpa using hbit.symm
                                      omega
    have hq : i / 2 ^ k / 2 * 2 = i / 2 ^ k := by omega
    have hs : (i + 2 ^ k) / 2 ^ k = i / 2 ^ k + 1 := Nat.add_div_right i hpos
    have e1 : agS g k (i + 2 ^ k) = ct (fun y => (onesTo (y &&& i) k + false.toNat) % 2 == g (i / 2 ^ k / 2 * 2 * 2 ^ k + 2 ^ k + y)) (2 ^ k) := by
      unfold agS; rw [hs, hq]
      refine ct_congr fun x hx => ?_
      rw [ones_congr (u := x &&& (i + 2 ^ k)) (v := x &&& i) k fun j hj => by
        rw [Nat.testBit_and, Nat.testBit_and, Nat.add_comm i, Nat.testBit_two_pow_add_gt hj]]
      rw [Nat.add_mul, Nat.one_mul]; rfl
    rw [h1, ← e1, hq]
    unfold agS; omega
theorem wh_ag {f : Nat → Int} {g : Nat → Nat} (hg : ∀ x, g x < 2) (hf : ∀ x, f x = 1 - 2 * (g x : Int)) : ∀ k i, whS f k i = 2 * (agS g k i : Int) - 2 ^ k
  | 0, i => by
    rw [whS, hf]
    have : agS g 0 i = (0 == g i).toNat := by unfold agS; simp [ct, sm, onesTo]
    rw [this]
    have := hg i
    rcases (show g i = 0 ∨ g i = 1 by omega) with h | h <;> rw [h] <;> rfl
  | k + 1, i => by
    have hp : (2 ^ (k + 1) : Int) = 2 ^ k * 2 := Int.pow_succ 2 k
    rw [whS, ag_step g hg, wh_ag hg hf k, wh_ag hg hf k, wh_ag hg hf k, hp]
    generalize (2 ^ k : Int) = P
    split <;> omega
theorem wh_lin {t : Nat → Nat} {f : Nat → Int} {b a : Nat} (ha : a < 256) (hf : ∀ x, f x = 1 - 2 * (parS (t x &&& b) : Int)) : whS f 8 a = 2 * (linS t a b : Int) - 256 := by
  rw [wh_ag (g := fun x => parS (t x &&& b)) (fun x => par_lt _) hf 8 a]
  have : agS (fun x => parS (t x &&& b)) 8 a = linS t a b := by
    unfold agS linS
    rw [show a / 2 ^ 8 * 2 ^ 8 = 0 by omega]
    refine ct_congr fun x hx => ?_
    rw [Nat.zero_add]; rfl
  rw [this]; rfl
end Go.Proofs.Ytgefampdfhbmbaa
/- What the document's Linear answers. -/
namespace Go.Proofs.Ytgefampdfhbmbaa
open Go.RowKit
set_option linter.unusedVariables false

def sgS (t : Nat → Nat) (b x : Nat) : Int := 1 - 2 * (parS (t x &&& b) : Int)
theorem sg_bound (t : Nat → Nat) (b x : Nat) : -1 ≤ sgS t b x ∧ sgS t b x ≤ 1 := by have := par_lt (t x &&& b); unfold sgS; omega
def bestL (t : Nat → Nat) (j : Nat) : Nat := mx (fun b => mx (fun a => offS t a (b + 1)) 256) j
theorem off_le (t : Nat → Nat) (a b : Nat) : offS t a b ≤ 128 := by have := ct_le (fun x => parS (x &&& a) == parS (t x &&& b)) 256; unfold offS linS; omega
theorem bestL_le (t : Nat → Nat) (j : Nat) : bestL t j ≤ 128 := mx_le fun a _ => mx_le fun c _ => off_le _ _ _
theorem off_wh (t : Nat → Nat) {a b : Nat} (ha : a < 256) : (max (whS (sgS t b) 8 a) (-whS (sgS t b) 8 a)).tdiv 2 = (offS t a b : Int) := by
  rw [wh_lin (f := sgS t b) (t := t) (b := b) ha (fun x => rfl)]
  unfold offS
  rw [Int.tdiv_eq_ediv_of_nonneg (by omega)]
  omega
theorem pow_i {k : Nat} (hk : k < 8) : (2 ^ k : Nat) < 256 ∧ 0 < (2 ^ k : Nat) := ⟨Nat.lt_of_lt_of_le (Nat.pow_lt_pow_right (by omega) hk) (Nat.le_refl _), Nat.two_pow_pos k⟩
def andP (k i : Nat) : Bool := (i &&& 2 ^ k) == (i.testBit k).toNat * 2 ^ k
theorem and_tab : ((List.range 8).all fun k => (List.range 256).all fun i => andP k i) = true := by decide +kernel
theorem and_bit {i k : Nat} (hk : k < 8) (hi : i < 256) : i &&& 2 ^ k = (i.testBit k).toNat * 2 ^ k := eq_of_beq (List.all_eq_true.1 (List.all_eq_true.1 and_tab k (by simpa using hk)) i (by simpa using hi))
theorem drew_row {w : World} {g n : Nat} {kd : IntKind} {ty : TypeId} {f : Nat → Int} (h : RowZ w g kd n ty f) (m : Nat) : RowZ (w.drewN m) g kd n ty f := h

end Go.Proofs.Ytgefampdfhbmbaa
/- What the document's Degree answers. -/
namespace Go.Proofs.Ytgefampdfhbmbaa
open Go.RowKit
set_option linter.unusedVariables false

theorem tab_cell0 {w wr : World} {a : Option Addr} {n cap : Nat} {l : List UInt8} (h : ByAt w (.slice a n cap) l) (hl : l.length = 256) (hb : Below w.heap.size w wr) {x : Nat} (hx : x < 256) :
    ∃ g o, a = some ⟨g, o, none⟩ ∧ g < w.heap.size ∧ wr.cell? ⟨g, o + x, none⟩ = some (.int .u8 (tbN l x : Int)) := by
  obtain ⟨g, o, h1, h2, h3⟩ := tab_cells h hl hb hx
  exact ⟨g, o, h1, h2, h3 0⟩
/- the coefficient so far -/
def anTo (t : Nat → Nat) (bit m k : Nat) : Nat := ct (fun x => (x &&& m == x) && (t x).testBit bit) k % 2
theorem an_lt (t : Nat → Nat) (bit m k : Nat) : anTo t bit m k < 2 := Nat.mod_lt _ (by omega)
theorem an_skip {t : Nat → Nat} {bit m k : Nat} (h : k &&& m ≠ k) : anTo t bit m (k + 1) = anTo t bit m k := by
  unfold anTo; rw [ct_succ, show (k &&& m == k) = false by simpa using h]; simp
theorem an_take {t : Nat → Nat} {bit m k : Nat} (h : k &&& m = k) : anTo t bit m (k + 1) = anTo t bit m k ^^^ ((t k).testBit bit).toNat := by
  have : ct (fun x => (x &&& m == x) && (t x).testBit bit) (k + 1) = ct (fun x => (x &&& m == x) && (t x).testBit bit) k + ((t k).testBit bit).toNat := by
    rw [ct_succ, show (k &&& m == k) = true by simpa using h]; simp
  unfold anTo; rw [this]
  generalize ct (fun x => (x &&& m == x) && (t x).testBit bit) k = n
  have hx : ∀ a b : Nat, a < 2 → b < 2 → (a + b) % 2 = a ^^^ b := fun a b ha hb => by
    rcases (show a = 0 ∨ a = 1 by omega) with rfl | rfl <;> rcases (show b = 0 ∨ b = 1 by omega) with rfl | rfl <;> rfl
  rw [← hx _ _ (Nat.mod_lt _ (by omega)) (by have := Bool.toNat_le ((t k).testBit bit); omega)]; omega
def bestD (t : Nat → Nat) (bit j : Nat) : Nat := mx (fun m => if anfS t bit m = 1 then onesTo m 8 else 0) j
theorem bestD_le (t : Nat → Nat) (bit j : Nat) : bestD t bit j ≤ 8 := mx_le fun m _ => by have := ones_le m 8; split <;> omega
theorem anf_to (t : Nat → Nat) (bit m : Nat) : anTo t bit m 256 = anfS t bit m := rfl
theorem bestD_succ (t : Nat → Nat) (bit j : Nat) : bestD t bit (j + 1) = max (bestD t bit j) (if anfS t bit j = 1 then onesTo j 8 else 0) := rfl

end Go.Proofs.Ytgefampdfhbmbaa
/- A region that draws its order, all of whose operations but the last only read (or call what makes new memory alone), the last waiting for all the others: one walk, in the order of the text; the last one by the plain walk. -/
namespace Go.Proofs.Ytgefampdfhbmbaa
open Go.RowKit
set_option linter.unusedVariables false

/-- An operation that does nothing, in the place of this one. -/
def mute (o : Oper) : Oper := { o with op := .move (.const undef) }
theorem mute_at (l : List Oper) (o : Oper) (j : Nat) : (l ++ [mute o])[j]? = if j = l.length then some (mute o) else (l ++ [o])[j]? := by
  by_cases h : j < l.length
  · rw [if_neg (by omega), List.getElem?_append_left h, List.getElem?_append_left h]
  · by_cases h2 : j = l.length
    · subst h2; rw [if_pos rfl, List.getElem?_append_right (Nat.le_refl _)]; simp
    · rw [if_neg h2, List.getElem?_eq_none (by simp; omega), List.getElem?_eq_none (by simp; omega)]
theorem last_at (l : List Oper) (o : Oper) : (l ++ [o])[l.length]? = some o := by rw [List.getElem?_append_right (Nat.le_refl _)]; simp
theorem yielded_mute (l : List Oper) (o : Oper) : yielded (l ++ [mute o]).toArray = yielded (l ++ [o]).toArray := by
  funext t j
  unfold yielded
  rw [List.getElem?_toArray, List.getElem?_toArray, mute_at]
  by_cases h : j = l.length
  · subst h; rw [if_pos rfl, last_at]; rfl
  · rw [if_neg h]
theorem ready_mute (md : Region.Mode) (l : List Oper) (o : Oper) (listed : Array Bool) : Region.ready md (l ++ [mute o]).toArray listed = Region.ready md (l ++ [o]).toArray listed := by
  unfold Region.ready
  rw [show (l ++ [mute o]).toArray.size = (l ++ [o]).toArray.size by simp]
  congr 1
  funext i
  rw [List.getElem?_toArray, List.getElem?_toArray, mute_at]
  by_cases h : i = l.length
  · subst h; rw [if_pos rfl, last_at]; rfl
  · rw [if_neg h]
/-- The last one waits for all the others. -/
def lastB (n : Nat) (o : Oper) : Bool := (List.range n).all fun j => o.after.any fun e => Region.binds .any e && e.on == j
/-- None waits for a later one. -/
def topB (l : List Oper) : Bool := (List.range l.length).all fun i => ((l[i]?).map fun o => o.after.all fun e => !Region.binds .any e || Nat.blt e.on i).getD true
theorem ready_last {l : List Oper} {o : Oper} (hl : lastB l.length o = true) {listed : Array Bool} (h : l.length ∈ Region.ready .any (l ++ [o]).toArray listed) : Region.ready .any (l ++ [o]).toArray (listed.setIfInBounds l.length true) = [] := by
  obtain ⟨h1, o', ho', hall⟩ := mem_ready.1 h
  rw [List.getElem?_toArray, last_at] at ho'
  cases ho'
  apply List.eq_nil_iff_forall_not_mem.2
  intro i hi
  obtain ⟨h2, o2, ho2, _⟩ := mem_ready.1 hi
  rw [List.getElem?_toArray] at ho2
  have hil : i < (l ++ [o]).length := by
    have := List.getElem?_eq_some_iff.1 ho2; exact this.1
  rw [List.length_append, List.length_singleton] at hil
  by_cases he : i = l.length
  · subst he
    rcases Nat.lt_or_ge l.length listed.size with h' | h'
    · simp [h'] at h2
    · simp [Array.getElem?_eq_none h'] at h1
  · have hlt : i < l.length := by omega
    have := List.all_eq_true.1 hl i (by simpa using hlt)
    rw [Array.any_eq_true'] at this
    obtain ⟨e, hem, he2⟩ := this
    obtain ⟨hb, hon⟩ := Bool.and_eq_true_iff.1 he2
    have hon := eq_of_beq hon
    have h3 := hall e hem hb
    rw [hon] at h3
    rcases Nat.lt_or_ge i listed.size with h' | h'
    · have h4 : listed[i] = true := by simpa [h'] using h3
      rw [Array.getD_eq_getD_getElem?, Array.getElem?_setIfInBounds, if_neg (Ne.symm he)] at h2
      simp [h', h4] at h2
    · simp [Array.getElem?_eq_none h'] at h3
theorem ready_some {l : List Oper} (ht : topB l = true) {listed : Array Bool} (hs : listed.size = l.length) {n : Nat} (hn : n < l.length) (h : listed.getD n true = false) : Region.ready .any l.toArray listed ≠ [] := by
  induction n using Nat.strongRecOn with
  | _ n ih =>
    by_cases hall : ∀ j, j < n → listed.getD j true = true
    · intro he
      have : n ∈ Region.ready .any l.toArray listed := by
        refine mem_ready.2 ⟨h, l[n], by rw [List.getElem?_toArray, List.getElem?_eq_getElem hn], fun e hem hb => ?_⟩
        have h1 := List.all_eq_true.1 ht n (by simpa using hn)
        rw [List.getElem?_eq_getElem hn] at h1
        have h2 := Array.all_eq_true'.1 (show (l[n].after.all fun e => !Region.binds .any e || Nat.blt e.on n) = true from h1) e hem
        rw [hb, Bool.not_true, Bool.false_or] at h2
        have h3 : e.on < n := by simpa using h2
        have h4 := hall e.on h3
        have h5 : e.on < listed.size := by omega
        simpa [h5] using h4
      rw [he] at this; cases this
    · have : ∃ j, j < n ∧ listed.getD j true = false := by
        refine Classical.byContradiction fun hc => hall fun j hj => ?_
        cases hv : listed.getD j true with
        | true => rfl
        | false => exact absurd ⟨j, hj, hv⟩ hc
      obtain ⟨j, hj, hv⟩ := this
      exact ih j hj (by omega) hv
theorem wpAny_of_mute {P : Program} {C : World → Prop} {l : List Oper} {o : Oper} {Q : Exit → Act → World → Prop} {Qp : Act → Prop} (hd : o.dst = none) (hl : lastB l.length o = true) (ht : topB (l ++ [o]) = true)
    (hfin : ∀ a w, C w → Qp a → wpList P (l ++ [o]).toArray Q [o] a w) : ∀ (fuel : Nat) (listed : Array Bool) (a : Act) (w : World), listed.size = (l ++ [o]).length → listed.getD l.length true = false → C w →
      wpAnyQ P .any (l ++ [mute o]).toArray C Qp fuel listed a → wpAny P .any (l ++ [o]).toArray Q fuel listed a w
  | 0, listed, a, w, hs, hn, hC, h => by
    have := h.1
    rw [ready_mute] at this
    exact absurd this (ready_some ht hs (by simp) hn)
  | fuel + 1, listed, a, w, hs, hn, hC, h => by
    refine ⟨fun h0 => absurd h0 (ready_some ht hs (by simp) hn), fun i hi => ?_⟩
    have h2 := h.2 i (by rw [ready_mute]; exact hi)
    by_cases hin : i = l.length
    · subst hin
      have hQp : Qp a := by
        have hr := ready_last hl hi
        have key : ∀ a', wpAnyQ P .any (l ++ [mute o]).toArray C Qp fuel (listed.setIfInBounds l.length true) a' → Qp a' := fun a' hh => by
          cases fuel with
          | zero => exact hh.2
          | succ f => exact hh.1 (by rw [ready_mute]; exact hr)
        unfold qOp at h2
        rw [List.getElem?_toArray, mute_at, if_pos rfl] at h2
        have hp : ∀ v, a.put (mute o).dst v = a := fun v => by rw [show (mute o).dst = o.dst from rfl, hd]; rfl
        simp only at h2
        split at h2
        · obtain ⟨v, _, hv⟩ := h2
          rw [hp] at hv; exact key _ hv
        · rw [hp] at h2; exact key _ h2
      have hL := hfin a w hC hQp
      have hr := ready_last hl hi
      have hK : ∀ a' w', wpList P (l ++ [o]).toArray Q [] a' w' → wpAny P .any (l ++ [o]).toArray Q fuel (listed.setIfInBounds l.length true) a' w' := fun a' w' hh => by
        cases fuel with
        | zero => exact ⟨hr, hh⟩
        | succ f => exact ⟨fun _ => hh, fun i hi => by rw [hr] at hi; cases hi⟩
      unfold wpOp
      rw [List.getElem?_toArray, last_at]
      simp only
      unfold wpList at hL
      split at hL
      · rename_i hw
        rw [if_pos hw]
        rcases hL with hL | hL
        · exact .inl (Oper.wp_mono hK hL)
        · exact .inr hL
      · rename_i hw
        rw [if_neg hw]
        exact hK _ _ hL
    · have h3 : qOp P (l ++ [o]).toArray C i (wpAnyQ P .any (l ++ [mute o]).toArray C Qp fuel (listed.setIfInBounds i true)) a := by
        unfold qOp at *
        rw [List.getElem?_toArray, mute_at, if_neg hin, yielded_mute] at h2
        rw [List.getElem?_toArray]
        exact h2
      refine wpOp_of_qOp hC (fun a' w' hC' hK => wpAny_of_mute hd hl ht hfin fuel _ a' w' ?_ ?_ hC' hK) h3
      · simpa using hs
      · rw [Array.getD_eq_getD_getElem?, Array.getElem?_setIfInBounds, if_neg hin, ← Array.getD_eq_getD_getElem?]; exact hn
theorem wpQuiet_cons {P : Program} {ops : Array Oper} {C : World → Prop} {Q : Act → Prop} {o : Oper} {rest : List Oper} {a : Act} : wpQuiet P ops C Q (o :: rest) a = if Region.wanted o (yielded ops a.tmps) then o.quiet P a C (wpQuiet P ops C Q rest) else wpQuiet P ops C Q rest (a.put o.dst undef) := rfl
theorem wp_region_last {P : Program} {id : Nat} {C : World → Prop} {Q : Exit → Act → World → Prop} {a : Act} {w : World} {l : List Oper} {o : Oper} (hm : P.follows .mixedOrders = true) (hd : o.dst = none) (hB : Region.lexB .any (l ++ [mute o]).toArray = true)
    (hl : lastB l.length o = true) (ht : topB (l ++ [o]) = true) (hC : C { w with drawn := w.drawn + 1 })
    (h : wpQuiet P (l ++ [mute o]).toArray C (fun a' => ∀ w', C w' → wpList P (l ++ [o]).toArray Q [o] a' w') l a) : (Code.region id (l ++ [o]).toArray true).wp P Q a w := by
  simp only [Region.lexB, Bool.and_eq_true] at hB
  refine wp_region_any hm ?_
  have hq : wpQuiet P (l ++ [mute o]).toArray C (fun a' => ∀ w', C w' → wpList P (l ++ [o]).toArray Q [o] a' w') (l ++ [mute o]) a := by
    have go : ∀ (m : List Oper) a, wpQuiet P (l ++ [mute o]).toArray C (fun a' => ∀ w', C w' → wpList P (l ++ [o]).toArray Q [o] a' w') m a → wpQuiet P (l ++ [mute o]).toArray C (fun a' => ∀ w', C w' → wpList P (l ++ [o]).toArray Q [o] a' w') (m ++ [mute o]) a := by
      intro m
      induction m with
      | nil =>
        intro a h
        have hp : a.put (mute o).dst undef = a := by rw [show (mute o).dst = o.dst from rfl, hd]; rfl
        rw [List.nil_append, wpQuiet_cons]
        split
        · refine ⟨undef, fun w' _ => ?_, by rw [hp]; exact h⟩
          exact ⟨rfl, rfl⟩
        · rw [hp]; exact h
      | cons x m ih =>
        intro a h
        rw [List.cons_append, wpQuiet_cons]
        rw [wpQuiet_cons] at h
        split
        · rename_i hw
          rw [if_pos hw] at h
          exact Oper.quiet_mono (fun a' h' => ih a' h') h
        · rename_i hw
          rw [if_neg hw] at h
          exact ih _ h
    exact go l a h
  have := wpAnyQ_lex (C := C) (md := .any) hB.1 (l ++ [mute o]) 0 (Array.replicate (l ++ [mute o]).toArray.size false) a (by simp) (by simpa using hB.2) hq
  refine wpAny_of_mute (Qp := fun a' => ∀ w', C w' → wpList P (l ++ [o]).toArray Q [o] a' w') hd hl ht (fun a w hC hQ => hQ w hC) _ _ a _ (by simp) (by simp) hC ?_
  simpa using this
/-- The same for a region that is written out, at the class of worlds in which all blocks of w stand as they did. -/
theorem wp_region_put {P : Program} {id : Nat} {Q : Exit → Act → World → Prop} {a : Act} {w : World} {L : List Oper} (hne : L ≠ []) (hm : P.follows .mixedOrders = true) (hd : (L.getLast hne).dst = none) (hB : Region.lexB .any (L.dropLast ++ [mute (L.getLast hne)]).toArray = true)
    (hl : lastB L.dropLast.length (L.getLast hne) = true) (ht : topB L = true)
    (h : wpQuiet P (L.dropLast ++ [mute (L.getLast hne)]).toArray (fun w' => ∃ i : BW w, w' = i.v) (fun a' => ∀ i : BW w, wpList P L.toArray Q [L.getLast hne] a' i.v) L.dropLast a) : (Code.region id L.toArray true).wp P Q a w := by
  have e : L.dropLast ++ [L.getLast hne] = L := List.dropLast_concat_getLast hne
  rw [show (Code.region id L.toArray true) = Code.region id (L.dropLast ++ [L.getLast hne]).toArray true by rw [e]]
  refine wp_region_last (C := fun w' => ∃ i : BW w, w' = i.v) hm hd hB hl (by rw [e]; exact ht) ⟨⟨{ w with drawn := w.drawn + 1 }, ⟨rfl, rfl, rfl, Nat.le_refl _, fun _ _ => rfl⟩⟩, rfl⟩ ?_
  have e2 : (fun a' => ∀ w', (∃ i : BW w, w' = i.v) → wpList P (L.dropLast ++ [L.getLast hne]).toArray Q [L.getLast hne] a' w') = (fun a' => ∀ i : BW w, wpList P L.toArray Q [L.getLast hne] a' i.v) := by
    funext a'
    rw [e]
    refine propext ⟨fun h i => h _ ⟨i, rfl⟩, fun h w' hw => ?_⟩
    obtain ⟨i, rfl⟩ := hw
    exact h i
  rw [e2]
  exact h
end Go.Proofs.Ytgefampdfhbmbaa
/- What the document's mixed, Mix, Unmix and Column answer. -/
namespace Go.Proofs.Ytgefampdfhbmbaa
open Go.RowKit
set_option linter.unusedVariables false

/- a column -/
def colR (c : Nat → UInt8) : Array Value := rowZ .u8 4 (fun i => ((c i).toNat : Int))
def mixTo (c m : Nat → UInt8) (i : Nat) : Nat → UInt8
  | 0 => 0
  | k + 1 => mixTo c m i k ^^^ bm 27 (c ((i + k) % 4)) (m k)
def mixS (c m : Nat → UInt8) (i : Nat) : UInt8 := mixTo c m i 4
/- the rows so far -/
def mixAt (c m : Nat → UInt8) (j k i : Nat) : UInt8 := if i < j then mixS c m i else if i = j then mixTo c m i k else 0
theorem mixAt_zero (c m : Nat → UInt8) (i : Nat) : mixAt c m 0 0 i = 0 := by unfold mixAt; rw [if_neg (by omega)]; split <;> rfl
theorem mixAt_next (c m : Nat → UInt8) (j i : Nat) : mixAt c m j 4 i = mixAt c m (j + 1) 0 i := by
  unfold mixAt
  by_cases h : i < j
  · rw [if_pos h, if_pos (by omega)]
  · rw [if_neg h]
    by_cases h2 : i = j
    · subst h2; rw [if_pos rfl, if_pos (by omega)]; rfl
    · rw [if_neg h2, if_neg (by omega)]; split <;> rfl
theorem mixAt_step (c m : Nat → UInt8) (j k i : Nat) : (if i = j then mixTo c m j k ^^^ bm 27 (c ((j + k) % 4)) (m k) else mixAt c m j k i) = mixAt c m j (k + 1) i := by
  unfold mixAt
  by_cases h : i = j
  · subst h; rw [if_pos rfl, if_neg (by omega), if_pos rfl]; rfl
  · rw [if_neg h, if_neg h, if_neg h]
theorem mixAt_here (c m : Nat → UInt8) (j k : Nat) : mixAt c m j k j = mixTo c m j k := by unfold mixAt; rw [if_neg (by omega), if_pos rfl]
theorem mixAt_all (c m : Nat → UInt8) {i : Nat} (h : i < 4) : mixAt c m 4 0 i = mixS c m i := by unfold mixAt; rw [if_pos h]
theorem Try.zero64 : (Try.prog.info? 64).map (fun i => (i.zero, i.size)) = some (some (.agg (rowZ .u8 4 (fun _ => 0))), 4) := by kernel_rfl

theorem four_rows (w : World) (a b c d : Nat → Int) (ty : TypeId) : RowZ ((((w.alloc (.cells (rowZ .u8 4 a) ty)).alloc (.cells (rowZ .u8 4 b) ty)).alloc (.cells (rowZ .u8 4 c) ty)).alloc (.cells (rowZ .u8 4 d) ty)) w.heap.size .u8 4 ty a
    ∧ RowZ ((((w.alloc (.cells (rowZ .u8 4 a) ty)).alloc (.cells (rowZ .u8 4 b) ty)).alloc (.cells (rowZ .u8 4 c) ty)).alloc (.cells (rowZ .u8 4 d) ty)) (w.heap.size + 1) .u8 4 ty b
    ∧ RowZ ((((w.alloc (.cells (rowZ .u8 4 a) ty)).alloc (.cells (rowZ .u8 4 b) ty)).alloc (.cells (rowZ .u8 4 c) ty)).alloc (.cells (rowZ .u8 4 d) ty)) (w.heap.size + 2) .u8 4 ty c
    ∧ RowZ ((((w.alloc (.cells (rowZ .u8 4 a) ty)).alloc (.cells (rowZ .u8 4 b) ty)).alloc (.cells (rowZ .u8 4 c) ty)).alloc (.cells (rowZ .u8 4 d) ty)) (w.heap.size + 3) .u8 4 ty d
    ∧ Below w.heap.size w ((((w.alloc (.cells (rowZ .u8 4 a) ty)).alloc (.cells (rowZ .u8 4 b) ty)).alloc (.cells (rowZ .u8 4 c) ty)).alloc (.cells (rowZ .u8 4 d) ty)) := by
  have al : ∀ (w : World) o, Below w.heap.size w (w.alloc o) := fun w o => (Below.refl _ _).alloc (Nat.le_refl _) _
  have sz : ∀ (w : World) o, (w.alloc o).heap.size = w.heap.size + 1 := fun w o => by simp
  have h1 := RowZ.new w .u8 4 ty a
  have h2 := RowZ.new (w.alloc (.cells (rowZ .u8 4 a) ty)) .u8 4 ty b
  have h3 := RowZ.new ((w.alloc (.cells (rowZ .u8 4 a) ty)).alloc (.cells (rowZ .u8 4 b) ty)) .u8 4 ty c
  have h4 := RowZ.new (((w.alloc (.cells (rowZ .u8 4 a) ty)).alloc (.cells (rowZ .u8 4 b) ty)).alloc (.cells (rowZ .u8 4 c) ty)) .u8 4 ty d
  rw [sz] at h2
  rw [sz, sz] at h3
  rw [sz, sz, sz] at h4
  exact ⟨((h1.next (al _ _)).next (al _ _)).next (al _ _), (h2.next (al _ _)).next (al _ _), h3.next (al _ _), h4, ((((Below.refl _ _).alloc (Nat.le_refl _) _).alloc (by rw [sz]; omega) _).alloc (by rw [sz, sz]; omega) _).alloc (by rw [sz, sz, sz]; omega) _⟩
theorem below_setRow {B g : Nat} {a w : World} (h : Below B a w) (hg : B ≤ g) (cs : Array Value) : Below B a (w.setRow g cs) :=
  h.trans ⟨by simp, by simp, by simp, by simp, fun k hk => setRow_other _ _ _ _ (by omega)⟩
theorem wrap_small {n : Nat} (h : n < 9223372036854775808) : IntKind.i64.wrap (n : Int) = (n : Int) := by rw [IntKind.wrap_i64]; omega

set_option maxRecDepth 100000 in
set_option maxHeartbeats 1600000 in
theorem refMixed_any (c m : Nat → UInt8) (w : World) : Calls Try.prog 79 #[.agg (colR c), .agg (colR m)] w fun e w' => e = .returned (.agg (colR (mixS c m))) ∧ Below w.heap.size w w' := by
  have HC : Hid (∀ a b w, Calls Try.prog 76 #[.int .u8 (UInt8.toNat a : Int), .int .u8 (UInt8.toNat b : Int), .int .i64 283] w fun e w' => e = .returned (.int .u8 ((bm 27 a b).toNat : Int)) ∧ w' = w) := fun a b w => refCarry_in 27 a b 283 rfl w
  obtain ⟨hz, hsz⟩ := zero_of_info Try.zero64
  have hs1 : (colR c).size = 4 := rowZ_size _ _ _
  have hs2 : (colR m).size = 4 := rowZ_size _ _ _
  go_enter Try.func79, Try.ntmps79
  go_wp2_with fail
  have hfour := four_rows w (fun i => ((c i).toNat : Int)) (fun i => ((m i).toNat : Int)) (fun _ => 0) (fun _ => 0) 64
  generalize hW : World.alloc (World.alloc _ _) _ = W
  rw [show ((((w.alloc (.cells (rowZ .u8 4 (fun i => ((c i).toNat : Int))) (64 : TypeId))).alloc (.cells (rowZ .u8 4 (fun i => ((m i).toNat : Int))) (64 : TypeId))).alloc (.cells (rowZ .u8 4 (fun _ => 0)) (64 : TypeId))).alloc (.cells (rowZ .u8 4 (fun _ => 0)) (64 : TypeId))) = W from hW] at hfour
  clear hW
  obtain ⟨hra, hrb, hrc, hrd, hbw⟩ := hfour
  have HRA := hidD hra
  have HRB := hidD hrb
  have HRC := hidD hrc
  have HRD := hidD hrd
  have HBW := hidD hbw
  clear hra hrb hrc hrd hbw
  rw [show w.heap.size + 1 + 1 + 1 = w.heap.size + 3 from rfl, show w.heap.size + 1 + 1 = w.heap.size + 2 from rfl]
  have hg3 : w.heap.size < w.heap.size + 3 := by omega
  generalize hg : w.heap.size = g at *
  have HG := hidD hg
  clear hg
  go_loopw [6] (fun i wr => ∃ j : Nat, j ≤ 4 ∧ i = .int .i64 j ∧ RowZ wr (g + 3) .u8 4 64 (fun i => ((mixAt c m j 0 i).toNat : Int)) ∧ Below (g + 3) W wr) (fun i _ => 4 - (intOf i).toNat)
  case atStart => exact ⟨0, Nat.zero_le _, rfl, HRD.out.congr fun i _ => by rw [mixAt_zero]; rfl, Below.refl _ _⟩
  case round =>
    obtain ⟨j, hj, rfl, hrow, hbel⟩ := hrel
    have HBL := hidD hbel
    have HRW := hidD hrow
    clear hbel hrow
    by_cases hlt : j < 4
    · have hlti : (j : Int) < 4 := by omega
      go_wp2_with fail
      go_loopw [7] (fun i wr => ∃ k : Nat, k ≤ 4 ∧ i = .int .i64 k ∧ RowZ wr (g + 3) .u8 4 64 (fun i => ((mixAt c m j k i).toNat : Int)) ∧ Below (g + 3) W wr) (fun i _ => 4 - (intOf i).toNat)
      case atStart => exact ⟨0, Nat.zero_le _, rfl, HRW.out, HBL.out⟩
      case round =>
        obtain ⟨k, hk, rfl, hrow, hbel⟩ := hrel
        have HBL := hidD hbel
        have HRW := hidD hrow
        by_cases hlk : k < 4
        · have hlki : (k : Int) < 4 := by omega
          have hi4 : (j + k) % 4 < 4 := Nat.mod_lt _ (by omega)
          have hmod : ((j : Int) + k).tmod 4 = (((j + k) % 4 : Nat) : Int) := by rw [Int.tmod_eq_emod_of_nonneg (by omega)]; omega
          have hwr : IntKind.i64.wrap ((j : Int) + k) = (j : Int) + k := by rw [IntKind.wrap_i64]; omega
          have hca : ∀ i : BW wr, i.v.cell? ⟨g, (j + k) % 4, none⟩ = some (.int .u8 ((c ((j + k) % 4)).toNat : Int)) := fun i => (i.below.cell (p := ⟨g, (j + k) % 4, none⟩) (HRA.out.below hbel (by omega)).lt).trans ((HRA.out.below hbel (by omega)).cell hi4)
          have hcb : ∀ i : BW wr, i.v.cell? ⟨g + 1, k, none⟩ = some (.int .u8 ((m k).toNat : Int)) := fun i => (i.below.cell (p := ⟨g + 1, k, none⟩) (HRB.out.below hbel (by omega)).lt).trans ((HRB.out.below hbel (by omega)).cell hlk)
          have hcd : ∀ i : BW wr, i.v.cell? ⟨g + 3, j, none⟩ = some (.int .u8 ((mixTo c m j k).toNat : Int)) := fun i => by rw [← mixAt_here]; exact (i.below.cell (p := ⟨g + 3, j, none⟩) hrow.lt).trans (hrow.cell hlt)
          have hfd : ∀ i : BW wr, i.v.frozen? ⟨g + 3, j, none⟩ = false := fun i => (i.below.frozen (p := ⟨g + 3, j, none⟩) hrow.lt).trans (hrow.frozen j)
          have hxr := u8_xor_nat (mixTo c m j k).toNat (bm 27 (c ((j + k) % 4)) (m k)).toNat (u8_lt _) (u8_lt _)
          rw [← UInt8.toNat_xor] at hxr
          have HCK : Hid (∀ w, Calls Try.prog 76 #[.int .u8 ((c ((j + k) % 4)).toNat : Int), .int .u8 ((m k).toNat : Int), .int .i64 283] w fun e w' => e = .returned (.int .u8 ((bm 27 (c ((j + k) % 4)) (m k)).toNat : Int)) ∧ Below w.heap.size w w') := fun w => (HC.out (c ((j + k) % 4)) (m k) w).mono fun e w' h => ⟨h.1, by rw [h.2]; exact Below.refl _ _⟩
          have HST : Hid (∀ i : BW wr, RowZ (i.v.setCell ⟨g + 3, j, none⟩ (.int .u8 ((mixTo c m j k ^^^ bm 27 (c ((j + k) % 4)) (m k)).toNat : Int))) (g + 3) .u8 4 64 (fun i => ((mixAt c m j (k + 1) i).toNat : Int))) := fun i => by
            refine ((hrow.next i.below).set hlt _).congr fun i hi => ?_
            rw [← mixAt_step]; split <;> rfl
          have HSB : Hid (∀ (i : BW wr) v, Below (g + 3) W (i.v.setCell ⟨g + 3, j, none⟩ v)) := fun i v => below_setCell (hbel.trans (i.below.mono (Nat.le_of_lt hrow.lt))) (Nat.le_refl _) _ v
          generalize (mixTo c m j k ^^^ bm 27 (c ((j + k) % 4)) (m k)).toNat = V at *
          generalize (bm 27 (c ((j + k) % 4)) (m k)).toNat = X at *
          generalize (mixTo c m j k).toNat = Y at *
          generalize (c ((j + k) % 4)).toNat = ca at *
          generalize (m k).toNat = cb at *
          generalize (j + k) % 4 = d at *
          clear hbel hrow
          go_wp2_with fail
          refine wp_region_put (by simp) (by kernel_rfl) rfl (by kernel_rfl) (by kernel_rfl) (by kernel_rfl) ?_
          simp only [List.dropLast_cons_cons, List.dropLast_singleton, List.getLast_cons_cons, List.getLast_singleton, List.cons_append, List.nil_append, mute]
          repeat (go_big_quiet_step ((go_at_call 76; exact Calls.below_of (HCK.out _))))
          refine wpQuiet_nil ?_
          intro i
          go_wp2_with fail
          go_roundw
          case rel => exact ⟨k + 1, by omega, by go_num, HST.out _, HSB.out _ _⟩
          case measure => simp [intOf]; omega
        · obtain rfl : k = 4 := by omega
          have HRN : Hid (RowZ wr (g + 3) .u8 4 64 (fun i => ((mixAt c m (j + 1) 0 i).toNat : Int))) := hrow.congr fun i _ => by rw [mixAt_next]
          clear hrow hbel
          go_wp2_with fail
          go_roundw
          case rel => exact ⟨j + 1, by omega, by go_num, HRN.out, HBL.out⟩
          case measure => simp [intOf]; omega
    · obtain rfl : j = 4 := by omega
      have HRN : Hid (RowZ wr (g + 3) .u8 4 64 (fun i => ((mixS c m i).toNat : Int))) := HRW.out.congr fun i hi => by rw [mixAt_all c m hi]
      have HO : Hid (wr.heap[g + 2]? = some (.cells (rowZ .u8 4 (fun _ => 0)) (64 : TypeId) (0, 0))) := HRC.out.below HBL.out (by omega)
      have HL : Hid (wr.heap[g + 3]? = some (.cells (colR (mixS c m)) (64 : TypeId) (0, 0))) := HRN.out
      have HONE : Hid ((colR (mixS c m)).all (·.oneCell') = true) := rowZ_one _ _ _
      have h4 : (colR (mixS c m)).size = 4 := rowZ_size _ _ _
      have h0 : (rowZ .u8 4 (fun _ => 0)).size = 4 := rowZ_size _ _ _
      generalize hC : colR (mixS c m) = C at *
      have HCE := hidD hC
      clear hC
      generalize rowZ .u8 4 (fun _ => 0) = C0 at *
      have hi : (Try.prog.info? 64).map (·.size) = some C.size := by rw [hsz, h4]
      go_wp2_with (first | (refine wpList_load_row rfl 64 _ rfl (g + 3) rfl 64 C (0, 0) _ HL.out Try.underlying64 rfl hi ?_) | (refine wpList_store_row rfl 64 _ _ rfl (g + 2) C rfl rfl 64 C0 HO.out hi (by rw [h0, h4]) HONE.out ?_))
      refine bodyPost_ret (results_cell_row (P := Try.prog) (p := 4) (ty := 64) (by kernel_rfl) _ _ (g + 2) 64 C (0, 0) _ rfl (setRow_heap _ _ C0 C 64 (0, 0) HO.out) Try.underlying64 rfl hi) rfl ?_
      refine ⟨by rw [HCE.out], ?_⟩
      have hfin : Below g w (wr.setRow (g + 2) C) := below_setRow (HBW.out.trans (HBL.out.mono (by omega))) (by omega) _
      rw [HG.out]; exact hfin
end Go.Proofs.Ytgefampdfhbmbaa
/- What the document's Mix, Unmix and Column answer. -/
namespace Go.Proofs.Ytgefampdfhbmbaa
open Go.RowKit
set_option linter.unusedVariables false

def mixM (i : Nat) : UInt8 := [2, 3, 1, 1].getD i 0
def unmM (i : Nat) : UInt8 := [14, 11, 13, 9].getD i 0
theorem mixM_row : colR mixM = #[.int .u8 2, .int .u8 3, .int .u8 1, .int .u8 1] := rfl
theorem unmM_row : colR unmM = #[.int .u8 14, .int .u8 11, .int .u8 13, .int .u8 9] := rfl
theorem two_blocks (w : World) (C C0 : Array Value) (ty : TypeId) : ((w.alloc (.cells C ty)).alloc (.cells C0 ty)).heap[w.heap.size]? = some (.cells C ty (0, 0))
    ∧ ((w.alloc (.cells C ty)).alloc (.cells C0 ty)).heap[w.heap.size + 1]? = some (.cells C0 ty (0, 0)) ∧ Below w.heap.size w ((w.alloc (.cells C ty)).alloc (.cells C0 ty)) ∧ ((w.alloc (.cells C ty)).alloc (.cells C0 ty)).heap.size = w.heap.size + 2 := by
  have sz : ∀ (w : World) o, (w.alloc o).heap.size = w.heap.size + 1 := fun w o => by simp
  refine ⟨?_, ?_, (((Below.refl _ _).alloc (Nat.le_refl _) _).alloc (by rw [sz]; omega) _), by rw [sz, sz]⟩
  · rw [Below.heap_alloc _ _ _ (by rw [sz]; omega)]; exact heap_alloc_last _ _
  · have := heap_alloc_last (w.alloc (.cells C ty)) (.cells C0 ty); rw [sz] at this; exact this

theorem colR_lit (c : Nat → UInt8) : colR c = #[.int .u8 ((c 0).toNat : Int), .int .u8 ((c 1).toNat : Int), .int .u8 ((c 2).toNat : Int), .int .u8 ((c 3).toNat : Int)] := rfl
theorem Try.zero64' : (Try.prog.info? 64).map (fun i => (i.zero, i.size)) = some (some (.agg #[.int .u8 0, .int .u8 0, .int .u8 0, .int .u8 0]), 4) := by kernel_rfl
set_option maxRecDepth 100000 in
set_option maxHeartbeats 400000 in
theorem refMix_any (c : Nat → UInt8) (w : World) : Calls Try.prog 66 #[.agg (colR c)] w fun e w' => e = .returned (.agg (colR (mixS c mixM))) ∧ Below w.heap.size w w' := by
  have HM := hidD (fun w => refMixed_any c mixM w)
  rw [mixM_row, colR_lit c, colR_lit (mixS c mixM)] at HM
  have HONE : Hid ((colR (mixS c mixM)).all (·.oneCell') = true) := rowZ_one _ _ _
  rw [colR_lit (mixS c mixM)] at HONE
  rw [colR_lit c, colR_lit (mixS c mixM)]
  obtain ⟨hz, hsz⟩ := zero_of_info Try.zero64'
  generalize ((c 0).toNat : Int) = c0 at *
  generalize ((c 1).toNat : Int) = c1 at *
  generalize ((c 2).toNat : Int) = c2 at *
  generalize ((c 3).toNat : Int) = c3 at *
  generalize ((mixS c mixM 0).toNat : Int) = r0 at *
  generalize ((mixS c mixM 1).toNat : Int) = r1 at *
  generalize ((mixS c mixM 2).toNat : Int) = r2 at *
  generalize ((mixS c mixM 3).toNat : Int) = r3 at *
  obtain ⟨b1, b2, b3, b4⟩ := two_blocks w #[.int .u8 c0, .int .u8 c1, .int .u8 c2, .int .u8 c3] #[.int .u8 0, .int .u8 0, .int .u8 0, .int .u8 0] 64
  have B2 := hidD b2
  have B3 := hidD b3
  have B4 := hidD b4
  clear b1 b2 b3 b4
  go_enter Try.func66, Try.ntmps66
  go_wp2_with (first | (go_at_call 79; refine (HM.out _).mono ?_; rintro e w3 ⟨rfl, hb3⟩; have HB3 := hidD hb3; clear hb3; have HO : Hid (w3.heap[w.heap.size + 1]? = some (.cells #[.int .u8 0, .int .u8 0, .int .u8 0, .int .u8 0] (64 : TypeId) (0, 0))) := (HB3.out.block _ (by rw [B4.out]; omega)).trans B2.out) | (refine wpList_store_row rfl 64 _ _ rfl (w.heap.size + 1) #[.int .u8 r0, .int .u8 r1, .int .u8 r2, .int .u8 r3] rfl rfl 64 #[.int .u8 0, .int .u8 0, .int .u8 0, .int .u8 0] HO.out (by rw [hsz]; rfl) rfl HONE.out ?_))
  refine bodyPost_ret (results_cell_row (P := Try.prog) (p := 2) (ty := 64) (by kernel_rfl) _ _ (w.heap.size + 1) 64 #[.int .u8 r0, .int .u8 r1, .int .u8 r2, .int .u8 r3] (0, 0) _ rfl (setRow_heap _ _ #[.int .u8 0, .int .u8 0, .int .u8 0, .int .u8 0] #[.int .u8 r0, .int .u8 r1, .int .u8 r2, .int .u8 r3] 64 (0, 0) HO.out) Try.underlying64 rfl (by rw [hsz]; rfl)) rfl ?_
  exact ⟨rfl, below_setRow (B3.out.trans (HB3.out.mono (by rw [B4.out]; omega))) (by omega) _⟩
set_option maxRecDepth 100000 in
set_option maxHeartbeats 400000 in
theorem refUnmix_any (c : Nat → UInt8) (w : World) : Calls Try.prog 65 #[.agg (colR c)] w fun e w' => e = .returned (.agg (colR (mixS c unmM))) ∧ Below w.heap.size w w' := by
  have HM := hidD (fun w => refMixed_any c unmM w)
  rw [unmM_row, colR_lit c, colR_lit (mixS c unmM)] at HM
  have HONE : Hid ((colR (mixS c unmM)).all (·.oneCell') = true) := rowZ_one _ _ _
  rw [colR_lit (mixS c unmM)] at HONE
  rw [colR_lit c, colR_lit (mixS c unmM)]
  obtain ⟨hz, hsz⟩ := zero_of_info Try.zero64'
  generalize ((c 0).toNat : Int) = c0 at *
  generalize ((c 1).toNat : Int) = c1 at *
  generalize ((c 2).toNat : Int) = c2 at *
  generalize ((c 3).toNat : Int) = c3 at *
  generalize ((mixS c unmM 0).toNat : Int) = r0 at *
  generalize ((mixS c unmM 1).toNat : Int) = r1 at *
  generalize ((mixS c unmM 2).toNat : Int) = r2 at *
  generalize ((mixS c unmM 3).toNat : Int) = r3 at *
  obtain ⟨b1, b2, b3, b4⟩ := two_blocks w #[.int .u8 c0, .int .u8 c1, .int .u8 c2, .int .u8 c3] #[.int .u8 0, .int .u8 0, .int .u8 0, .int .u8 0] 64
  have B2 := hidD b2
  have B3 := hidD b3
  have B4 := hidD b4
  clear b1 b2 b3 b4
  go_enter Try.func65, Try.ntmps65
  go_wp2_with (first | (go_at_call 79; refine (HM.out _).mono ?_; rintro e w3 ⟨rfl, hb3⟩; have HB3 := hidD hb3; clear hb3; have HO : Hid (w3.heap[w.heap.size + 1]? = some (.cells #[.int .u8 0, .int .u8 0, .int .u8 0, .int .u8 0] (64 : TypeId) (0, 0))) := (HB3.out.block _ (by rw [B4.out]; omega)).trans B2.out) | (refine wpList_store_row rfl 64 _ _ rfl (w.heap.size + 1) #[.int .u8 r0, .int .u8 r1, .int .u8 r2, .int .u8 r3] rfl rfl 64 #[.int .u8 0, .int .u8 0, .int .u8 0, .int .u8 0] HO.out (by rw [hsz]; rfl) rfl HONE.out ?_))
  refine bodyPost_ret (results_cell_row (P := Try.prog) (p := 2) (ty := 64) (by kernel_rfl) _ _ (w.heap.size + 1) 64 #[.int .u8 r0, .int .u8 r1, .int .u8 r2, .int .u8 r3] (0, 0) _ rfl (setRow_heap _ _ #[.int .u8 0, .int .u8 0, .int .u8 0, .int .u8 0] #[.int .u8 r0, .int .u8 r1, .int .u8 r2, .int .u8 r3] 64 (0, 0) HO.out) Try.underlying64 rfl (by rw [hsz]; rfl)) rfl ?_
  exact ⟨rfl, below_setRow (B3.out.trans (HB3.out.mono (by rw [B4.out]; omega))) (by omega) _⟩
end Go.Proofs.Ytgefampdfhbmbaa
/- What the document's Column answers. -/
namespace Go.Proofs.Ytgefampdfhbmbaa
open Go.RowKit
set_option linter.unusedVariables false

theorem col_cells {w : World} {g : Nat} {a b c d : Value} {ty : TypeId} (h : w.heap[g]? = some (.cells #[a, b, c, d] ty (0, 0))) :
    w.cell? ⟨g, 0, none⟩ = some a ∧ w.cell? ⟨g, 1, none⟩ = some b ∧ w.cell? ⟨g, 2, none⟩ = some c ∧ w.cell? ⟨g, 3, none⟩ = some d := by
  refine ⟨?_, ?_, ?_, ?_⟩ <;> (rw [cell_of_row _ _ _ _ _ _ h]; rfl)
theorem or_lt32 {a b : Nat} (ha : a < 4294967296) (hb : b < 4294967296) : a ||| b < 4294967296 := Nat.or_lt_two_pow (n := 32) ha hb
def wordS (m : Nat → UInt8) : Nat := (m 0).toNat * 16777216 ||| (m 1).toNat * 65536 ||| (m 2).toNat * 256 ||| (m 3).toNat
def oneC (b : UInt8) (i : Nat) : UInt8 := if i = 0 then b else 0
def colS (b : UInt8) : Nat := wordS (mixS (oneC (subS b)) mixM)
end Go.Proofs.Ytgefampdfhbmbaa
/- Plain facts of columns: mixing is linear, Unmix is Mix's inverse, words are four bytes, and the columns' words are Mix of what Sub makes. -/
namespace Go.Proofs.Ytgefampdfhbmbaa
set_option linter.unusedVariables false

theorem mixTo_xor (c d m : Nat → UInt8) (i : Nat) : ∀ k, mixTo (fun j => c j ^^^ d j) m i k = mixTo c m i k ^^^ mixTo d m i k
  | 0 => by simp [mixTo]
  | k + 1 => by
    rw [mixTo, mixTo, mixTo, mixTo_xor c d m i k, bm_xor]
    ac_rfl
theorem mixS_xor (c d m : Nat → UInt8) (i : Nat) : mixS (fun j => c j ^^^ d j) m i = mixS c m i ^^^ mixS d m i := mixTo_xor c d m i 4
theorem mix_at0 (c m : Nat → UInt8) : mixS c m 0 = bm 27 (c 0) (m 0) ^^^ bm 27 (c 1) (m 1) ^^^ bm 27 (c 2) (m 2) ^^^ bm 27 (c 3) (m 3) := by
  show 0 ^^^ bm 27 (c 0) (m 0) ^^^ bm 27 (c 1) (m 1) ^^^ bm 27 (c 2) (m 2) ^^^ bm 27 (c 3) (m 3) = _; rw [UInt8.zero_xor]
theorem mix_at1 (c m : Nat → UInt8) : mixS c m 1 = bm 27 (c 1) (m 0) ^^^ bm 27 (c 2) (m 1) ^^^ bm 27 (c 3) (m 2) ^^^ bm 27 (c 0) (m 3) := by
  show 0 ^^^ bm 27 (c 1) (m 0) ^^^ bm 27 (c 2) (m 1) ^^^ bm 27 (c 3) (m 2) ^^^ bm 27 (c 0) (m 3) = _; rw [UInt8.zero_xor]
theorem mix_at2 (c m : Nat → UInt8) : mixS c m 2 = bm 27 (c 2) (m 0) ^^^ bm 27 (c 3) (m 1) ^^^ bm 27 (c 0) (m 2) ^^^ bm 27 (c 1) (m 3) := by
  show 0 ^^^ bm 27 (c 2) (m 0) ^^^ bm 27 (c 3) (m 1) ^^^ bm 27 (c 0) (m 2) ^^^ bm 27 (c 1) (m 3) = _; rw [UInt8.zero_xor]
theorem mix_at3 (c m : Nat → UInt8) : mixS c m 3 = bm 27 (c 3) (m 0) ^^^ bm 27 (c 0) (m 1) ^^^ bm 27 (c 1) (m 2) ^^^ bm 27 (c 2) (m 3) := by
  show 0 ^^^ bm 27 (c 3) (m 0) ^^^ bm 27 (c 0) (m 1) ^^^ bm 27 (c 1) (m 2) ^^^ bm 27 (c 2) (m 3) = _; rw [UInt8.zero_xor]
/- a sum of four such sums, by the bytes: whatever the factors, if their products come to 1, 0, 0, 0 -/
theorem circ (a b c d m0 m1 m2 m3 u0 u1 u2 u3 : UInt8)
    (ha : bm 27 m0 u0 ^^^ bm 27 m3 u1 ^^^ bm 27 m2 u2 ^^^ bm 27 m1 u3 = 1) (hb : bm 27 m1 u0 ^^^ bm 27 m0 u1 ^^^ bm 27 m3 u2 ^^^ bm 27 m2 u3 = 0)
    (hc : bm 27 m2 u0 ^^^ bm 27 m1 u1 ^^^ bm 27 m0 u2 ^^^ bm 27 m3 u3 = 0) (hd : bm 27 m3 u0 ^^^ bm 27 m2 u1 ^^^ bm 27 m1 u2 ^^^ bm 27 m0 u3 = 0) :
    bm 27 (bm 27 a m0 ^^^ bm 27 b m1 ^^^ bm 27 c m2 ^^^ bm 27 d m3) u0 ^^^ bm 27 (bm 27 b m0 ^^^ bm 27 c m1 ^^^ bm 27 d m2 ^^^ bm 27 a m3) u1
      ^^^ bm 27 (bm 27 c m0 ^^^ bm 27 d m1 ^^^ bm 27 a m2 ^^^ bm 27 b m3) u2 ^^^ bm 27 (bm 27 d m0 ^^^ bm 27 a m1 ^^^ bm 27 b m2 ^^^ bm 27 c m3) u3 = a := by
  have ga : bm 27 a (bm 27 m0 u0) ^^^ bm 27 a (bm 27 m3 u1) ^^^ bm 27 a (bm 27 m2 u2) ^^^ bm 27 a (bm 27 m1 u3) = a := by
    rw [← bm_xor', ← bm_xor', ← bm_xor', ha, bm_one]
  have gb : bm 27 b (bm 27 m1 u0) ^^^ bm 27 b (bm 27 m0 u1) ^^^ bm 27 b (bm 27 m3 u2) ^^^ bm 27 b (bm 27 m2 u3) = 0 := by
    rw [← bm_xor', ← bm_xor', ← bm_xor', hb, bm_zero]
  have gc : bm 27 c (bm 27 m2 u0) ^^^ bm 27 c (bm 27 m1 u1) ^^^ bm 27 c (bm 27 m0 u2) ^^^ bm 27 c (bm 27 m3 u3) = 0 := by
    rw [← bm_xor', ← bm_xor', ← bm_xor', hc, bm_zero]
  have gd : bm 27 d (bm 27 m3 u0) ^^^ bm 27 d (bm 27 m2 u1) ^^^ bm 27 d (bm 27 m1 u2) ^^^ bm 27 d (bm 27 m0 u3) = 0 := by
    rw [← bm_xor', ← bm_xor', ← bm_xor', hd, bm_zero]
  have e : ∀ p q r s u, bm 27 (p ^^^ q ^^^ r ^^^ s) u = bm 27 p u ^^^ bm 27 q u ^^^ bm 27 r u ^^^ bm 27 s u := fun p q r s u => by rw [bm_xor, bm_xor, bm_xor]
  rw [e, e, e, e]
  simp only [bm_assoc]
  have reg : ∀ a1 b1 c1 d1 b2 c2 d2 a2 c3 d3 a3 b3 d4 a4 b4 c4 : UInt8, a1 ^^^ b1 ^^^ c1 ^^^ d1 ^^^ (b2 ^^^ c2 ^^^ d2 ^^^ a2) ^^^ (c3 ^^^ d3 ^^^ a3 ^^^ b3) ^^^ (d4 ^^^ a4 ^^^ b4 ^^^ c4)
      = (a1 ^^^ a2 ^^^ a3 ^^^ a4) ^^^ (b1 ^^^ b2 ^^^ b3 ^^^ b4) ^^^ (c1 ^^^ c2 ^^^ c3 ^^^ c4) ^^^ (d1 ^^^ d2 ^^^ d3 ^^^ d4) := fun a1 b1 c1 d1 b2 c2 d2 a2 c3 d3 a3 b3 d4 a4 b4 c4 => by ac_rfl
  rw [reg, ga, gb, gc, gd, UInt8.xor_zero, UInt8.xor_zero, UInt8.xor_zero]
theorem circ_there : (bm 27 2 14 ^^^ bm 27 1 11 ^^^ bm 27 1 13 ^^^ bm 27 3 9 = 1 ∧ bm 27 3 14 ^^^ bm 27 2 11 ^^^ bm 27 1 13 ^^^ bm 27 1 9 = 0 ∧ bm 27 1 14 ^^^ bm 27 3 11 ^^^ bm 27 2 13 ^^^ bm 27 1 9 = 0 ∧ bm 27 1 14 ^^^ bm 27 1 11 ^^^ bm 27 3 13 ^^^ bm 27 2 9 = 0)
    ∧ (bm 27 14 2 ^^^ bm 27 9 3 ^^^ bm 27 13 1 ^^^ bm 27 11 1 = 1 ∧ bm 27 11 2 ^^^ bm 27 14 3 ^^^ bm 27 9 1 ^^^ bm 27 13 1 = 0 ∧ bm 27 13 2 ^^^ bm 27 11 3 ^^^ bm 27 14 1 ^^^ bm 27 9 1 = 0 ∧ bm 27 9 2 ^^^ bm 27 13 3 ^^^ bm 27 11 1 ^^^ bm 27 14 1 = 0) := by decide +kernel
theorem mixM0 : mixM 0 = 2 := rfl
theorem mixM1 : mixM 1 = 3 := rfl
theorem mixM2 : mixM 2 = 1 := rfl
theorem mixM3 : mixM 3 = 1 := rfl
theorem unmM0 : unmM 0 = 14 := rfl
theorem unmM1 : unmM 1 = 11 := rfl
theorem unmM2 : unmM 2 = 13 := rfl
theorem unmM3 : unmM 3 = 9 := rfl
theorem unmix_mix (c : Nat → UInt8) : mixS (mixS c mixM) unmM 0 = c 0 ∧ mixS (mixS c mixM) unmM 1 = c 1 ∧ mixS (mixS c mixM) unmM 2 = c 2 ∧ mixS (mixS c mixM) unmM 3 = c 3 := by
  obtain ⟨⟨h1, h2, h3, h4⟩, _⟩ := circ_there
  refine ⟨?_, ?_, ?_, ?_⟩
  · rw [mix_at0 (mixS c mixM), mix_at0, mix_at1, mix_at2, mix_at3]; exact circ (c 0) (c 1) (c 2) (c 3) 2 3 1 1 14 11 13 9 h1 h2 h3 h4
  · rw [mix_at1 (mixS c mixM), mix_at0, mix_at1, mix_at2, mix_at3]; exact circ (c 1) (c 2) (c 3) (c 0) 2 3 1 1 14 11 13 9 h1 h2 h3 h4
  · rw [mix_at2 (mixS c mixM), mix_at0, mix_at1, mix_at2, mix_at3]; exact circ (c 2) (c 3) (c 0) (c 1) 2 3 1 1 14 11 13 9 h1 h2 h3 h4
  · rw [mix_at3 (mixS c mixM), mix_at0, mix_at1, mix_at2, mix_at3]; exact circ (c 3) (c 0) (c 1) (c 2) 2 3 1 1 14 11 13 9 h1 h2 h3 h4
theorem mix_unmix (c : Nat → UInt8) : mixS (mixS c unmM) mixM 0 = c 0 ∧ mixS (mixS c unmM) mixM 1 = c 1 ∧ mixS (mixS c unmM) mixM 2 = c 2 ∧ mixS (mixS c unmM) mixM 3 = c 3 := by
  obtain ⟨_, h1, h2, h3, h4⟩ := circ_there
  refine ⟨?_, ?_, ?_, ?_⟩
  · rw [mix_at0 (mixS c unmM), mix_at0, mix_at1, mix_at2, mix_at3]; exact circ (c 0) (c 1) (c 2) (c 3) 14 11 13 9 2 3 1 1 h1 h2 h3 h4
  · rw [mix_at1 (mixS c unmM), mix_at0, mix_at1, mix_at2, mix_at3]; exact circ (c 1) (c 2) (c 3) (c 0) 14 11 13 9 2 3 1 1 h1 h2 h3 h4
  · rw [mix_at2 (mixS c unmM), mix_at0, mix_at1, mix_at2, mix_at3]; exact circ (c 2) (c 3) (c 0) (c 1) 14 11 13 9 2 3 1 1 h1 h2 h3 h4
  · rw [mix_at3 (mixS c unmM), mix_at0, mix_at1, mix_at2, mix_at3]; exact circ (c 3) (c 0) (c 1) (c 2) 14 11 13 9 2 3 1 1 h1 h2 h3 h4
end Go.Proofs.Ytgefampdfhbmbaa
/- What the document's Box answers. -/
namespace Go.Proofs.Ytgefampdfhbmbaa
open Go.RowKit
set_option linter.unusedVariables false

/-- A slice value of these bytes, with its place and its spare room. -/
structure SlAt (w : World) (v : Value) (l : List UInt8) : Prop where
  shape : ∃ a cap, v = .slice a l.length cap ∧ l.length ≤ cap ∧ cap ≤ 9223372036854775807
  by' : ByAt w v l
theorem SlAt.next {w w' : World} {v : Value} {l : List UInt8} (h : SlAt w v l) (hb : Below w.heap.size w w') : SlAt w' v l := ⟨h.shape, h.by'.next hb⟩
theorem SlAt.row {w : World} {g : Nat} {L : List UInt8} (h : RowAt w g L) {n : Nat} (hn : n = L.length) (hm : n ≤ 9223372036854775807) : SlAt w (.slice (some ⟨g, 0, none⟩) n n) L := by
  subst hn
  refine ⟨⟨_, _, rfl, Nat.le_refl _, hm⟩, ?_⟩
  have := h.by 0 L.length L.length (by omega)
  rwa [List.drop_zero, List.take_length] at this
theorem by_new (w : World) (b : UInt8) (x : Int) (hx : x = (b.toNat : Int)) : ByAt (w.alloc (.cells #[.int .u8 x] (5 : TypeId))) (.slice (some ⟨w.heap.size, 0, none⟩) 1 1) [b] := by
  have : RowAt (w.alloc (.cells ([b].map encB).toArray (5 : TypeId))) w.heap.size [b] := heap_alloc_last _ _
  subst hx
  exact (SlAt.row this (n := 1) rfl (by omega)).by'
def boxTo (k : Nat) : List UInt8 := (List.range k).map fun i => subS (UInt8.ofNat i)
theorem box_succ (k : Nat) : boxTo (k + 1) = boxTo k ++ [subS (UInt8.ofNat k)] := by unfold boxTo; rw [List.range_succ, List.map_append]; rfl
theorem box_len (k : Nat) : (boxTo k).length = k := by simp [boxTo]
theorem box_tb {x : Nat} (hx : x < 256) : tbN (boxTo 256) x = sbN x := by
  unfold tbN boxTo
  rw [List.getD_eq_getElem?_getD, List.getElem?_map, List.getElem?_range hx]
  show (subS (UInt8.ofNat x)).toNat = _
  rw [sub_sb, u8_nat hx]
set_option maxRecDepth 100000 in
set_option maxHeartbeats 400000 in
theorem refBox_any (w : World) : Calls Try.prog 61 #[] w fun e w' => ∃ v, e = .returned v ∧ w'.ownsRow w.heap.size 5 1 v 256 ((boxTo 256).map encB) ∧ Below w.heap.size w w' := by
  have HS : Hid (∀ x : Nat, x < 256 → ∀ w, Calls Try.prog 75 #[.int .u8 (x : Int)] w fun e w' => e = .returned (.int .u8 ((subS (UInt8.ofNat x)).toNat : Int)) ∧ Below w.heap.size w w') := fun x hx w => by
    have := refSub_any (UInt8.ofNat x) w
    rw [u8_nat hx] at this; exact this
  have HAL : Hid (∀ (w' : World) o, Below w'.heap.size w' (w'.alloc o)) := fun w' o => (Below.refl _ _).alloc (Nat.le_refl _) o
  go_enter Try.func61, Try.ntmps61
  go_wp2_with fail
  go_loopw [1, 2] (fun o i wr => ∃ k : Nat, k ≤ 256 ∧ i = .int .i64 k ∧ wr.ownsRow w.heap.size 5 1 o k ((boxTo k).map encB) ∧ Below w.heap.size w wr) (fun _ i _ => 256 - (intOf i).toNat)
  case atStart => exact ⟨0, Nat.zero_le _, rfl, World.ownsRow_nil _ _ _ _, Below.refl _ _⟩
  case round =>
    obtain ⟨k, hk, rfl, hown, hbel⟩ := hrel
    have HBL := hidD hbel
    have HOW := hidD hown
    by_cases hlt : k < 256
    · have hlti : (k : Int) < 256 := by omega
      have HE := hidD (HS.out k hlt)
      have HN := hidD (box_succ k)
      have HBS : Hid (∀ w' : World, ByAt (w'.alloc (.cells #[.int .u8 ((subS (UInt8.ofNat k)).toNat : Int)] (5 : TypeId))) (.slice (some ⟨w'.heap.size, 0, none⟩) 1 1) [subS (UInt8.ofNat k)]) := fun w' => by_new w' _ _ rfl
      generalize hb : subS (UInt8.ofNat k) = b at *
      generalize hX : (b.toNat : Int) = X at *
      generalize boxTo k = L at *
      clear hown hbel hb hX
      go_wp2_with (first
        | (go_at_call 75; refine (HE.out _).mono ?_; rintro e w3 ⟨rfl, hb3⟩; have HO3 := hidD (row_below HOW.out hb3); have HB3 := hidD (Below.next HBL.out hb3); clear hb3)
        | (at_builtin; refine wpList_append_by rfl _ _ rfl w.heap.size u1 k (L.map encB) rfl (HO3.out.alloc _) (.slice (some ⟨w3.heap.size, 0, none⟩) 1 1) [b] rfl (HBS.out w3) (by simp; omega) (by have := HB3.out.size; simp; omega) ?_; intro v8 w8 hown8 hg8; have HO8 := hidD hown8; have HB8 := hidD (row_grown (HO3.out.alloc _) (Below.next HB3.out (HAL.out _ _)) hg8 (by have := HB3.out.size; simp; omega)); clear hown8 hg8))
      go_roundw
      case rel => exact ⟨k + 1, by omega, by go_num, by rw [HN.out, List.map_append]; exact HO8.out, HB8.out⟩
      case measure => simp [intOf]; omega
    · obtain rfl : k = 256 := by omega
      clear hown hbel
      go_wp2_with fail
      go_ret
      exact ⟨_, rfl, HOW.out, HBL.out⟩
end Go.Proofs.Ytgefampdfhbmbaa
/- What the document's Rule answers. -/
namespace Go.Proofs.Ytgefampdfhbmbaa
open Go.RowKit
set_option linter.unusedVariables false

def dbS (j : Nat) : Nat := (bm 27 (UInt8.ofNat j) 2).toNat
def lowW (j : Nat) : Nat := sbN j ||| dbS j * 65536 ||| rndS (j : Int) * 16777216
def ruT (k j : Nat) : Nat := (if j < k then lowW j else 0) ||| (if usN j < k then usN j * 256 else 0)
theorem or_swap (x a b c : Nat) : x ||| a ||| b ||| c = a ||| b ||| c ||| x := by
  rw [Nat.or_comm (a ||| b ||| c) x, Nat.or_assoc, Nat.or_assoc, Nat.or_assoc]
theorem ru_step {k : Nat} (hk : k < 256) {j : Nat} (hj : j < 256) :
    (if j = sbN k then (if sbN k = k then ruT k k ||| sbN k ||| dbS k * 65536 ||| rndS (k : Int) * 16777216 else ruT k (sbN k)) ||| k * 256 else if j = k then ruT k k ||| sbN k ||| dbS k * 65536 ||| rndS (k : Int) * 16777216 else ruT k j) = ruT (k + 1) j := by
  have hu := us_sb hk
  have hv := us_sb hj
  rw [if_neg hu.2.2.2.1]
  by_cases h1 : j = sbN k
  · subst h1
    have hne := hu.2.2.2.1
    rw [if_pos rfl]
    unfold ruT
    rw [hu.1, if_neg (show ¬ k < k by omega), if_pos (show k < k + 1 by omega), Nat.or_zero]
    by_cases h2 : sbN k < k
    · rw [if_pos h2, if_pos (by omega)]
    · rw [if_neg h2, if_neg (by omega)]
  · rw [if_neg h1]
    have hnk : usN j ≠ k := fun h => h1 (by rw [← h, hv.2.1])
    have e : (if usN j < k then usN j * 256 else 0) = (if usN j < k + 1 then usN j * 256 else 0) := by
      by_cases h3 : usN j < k
      · rw [if_pos h3, if_pos (by omega)]
      · rw [if_neg h3, if_neg (by omega)]
    by_cases h2 : j = k
    · subst h2
      rw [if_pos rfl]
      unfold ruT
      rw [if_neg (show ¬ j < j by omega), if_pos (show j < j + 1 by omega), Nat.zero_or, e, or_swap]; rfl
    · rw [if_neg h2]
      unfold ruT
      rw [e]
      congr 1
      by_cases h3 : j < k
      · rw [if_pos h3, if_pos (by omega)]
      · rw [if_neg h3, if_neg (by omega)]
theorem rnd_lt (n : Int) : rndS n < 256 := by unfold rndS; split; omega; exact (pw 27 2 _).toNat_lt
theorem db_lt (j : Nat) : dbS j < 256 := (bm 27 (UInt8.ofNat j) 2).toNat_lt
theorem low_lt (j : Nat) : lowW j < 4294967296 := by
  have h1 := sbN_lt j; have h2 := db_lt j; have h3 := rnd_lt (j : Int)
  exact or_lt32 (or_lt32 (by omega) (by omega)) (by omega)
theorem ru_lt {k j : Nat} (hk : k ≤ 256) : ruT k j < 4294967296 := by
  unfold ruT; refine or_lt32 ?_ ?_
  · split; exact low_lt j; omega
  · split <;> omega
theorem Try.info101 : (Try.prog.info? 101).map (fun i => (i.zero, i.size, i.bytes)) = some (some (.int .u32 0), 1, 4) := by kernel_rfl
theorem map_same (n : Nat) (v : Value) : (List.range n).map (fun _ => v) = List.replicate n v := by rw [List.map_const', List.length_range]
theorem rowZ_of_made {w : World} {base g : Nat} (h : w.ownsRow base 101 1 (.slice (some ⟨g, 0, none⟩) 256 256) 256 (madeCells (Value.cells (.int .u32 0)) (256 * 1)).toList) : RowZ w g .u32 256 101 (fun _ => 0) := by
  have := row_full h
  rw [Nat.mul_one, show Value.cells (.int .u32 0) = #[.int .u32 0] from rfl, toList_madeCells_one] at this
  unfold RowZ rowZ
  rw [this, show (List.range 256).map (fun _ => Value.int .u32 0) = List.replicate 256 (Value.int .u32 0) from map_same 256 _]

end Go.Proofs.Ytgefampdfhbmbaa
