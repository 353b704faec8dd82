/- Plain: the chapter's first example of AES. -/
import Derived.Test.YtgefampdfhbmbaaMe
namespace Go.Proofs.Ytgefampdfhbmbaa
set_option linter.unusedVariables false

def exK : List UInt8 := [0, 1, 2, 3, 4, 5, 6, 7, 8, 9, 10, 11, 12, 13, 14, 15]
def exI : List UInt8 := [0, 17, 34, 51, 68, 85, 102, 119, 136, 153, 170, 187, 204, 221, 238, 255]
def exO : List UInt8 := [105, 196, 224, 216, 106, 123, 4, 48, 216, 205, 183, 128, 112, 180, 197, 90]
def exW : List UInt8 := [0, 1, 2, 3, 4, 5, 6, 7, 8, 9, 10, 11, 12, 13, 14, 15, 214, 170, 116, 253, 210, 175, 114, 250, 218, 166, 120, 241, 214, 171, 118, 254, 182, 146, 207, 11, 100, 61, 189, 241, 190, 155, 197, 0, 104, 48, 179, 254, 182, 255, 116, 78, 210, 194, 201, 191, 108, 89, 12, 191, 4, 105, 191, 65, 71, 247, 247, 188, 149, 53, 62, 3, 249, 108, 50, 188, 253, 5, 141, 253, 60, 170, 163, 232, 169, 159, 157, 235, 80, 243, 175, 87, 173, 246, 34, 170, 94, 57, 15, 125, 247, 166, 146, 150, 167, 85, 61, 193, 10, 163, 31, 107, 20, 249, 112, 26, 227, 95, 226, 140, 68, 10, 223, 77, 78, 169, 192, 38, 71, 67, 135, 53, 164, 28, 101, 185, 224, 22, 186, 244, 174, 191, 122, 210, 84, 153, 50, 209, 240, 133, 87, 104, 16, 147, 237, 156, 190, 44, 151, 78, 19, 17, 29, 127, 227, 148, 74, 23, 243, 7, 167, 139, 77, 43, 48, 197]
def exS : List UInt8 := [0, 16, 32, 48, 64, 80, 96, 112, 128, 144, 160, 176, 192, 208, 224, 240, 137, 216, 16, 232, 133, 90, 206, 104, 45, 24, 67, 216, 203, 18, 143, 228, 73, 21, 89, 143, 85, 229, 215, 160, 218, 202, 148, 250, 31, 10, 99, 247, 250, 99, 106, 40, 37, 179, 57, 201, 64, 102, 138, 49, 87, 36, 77, 23, 36, 114, 64, 35, 105, 102, 179, 250, 110, 210, 117, 50, 136, 66, 91, 108, 200, 22, 119, 188, 155, 122, 201, 59, 37, 2, 121, 146, 176, 38, 25, 150, 198, 47, 225, 9, 247, 94, 237, 195, 204, 121, 57, 93, 132, 249, 207, 93, 209, 135, 108, 15, 121, 196, 48, 10, 180, 85, 148, 173, 214, 111, 244, 31, 253, 227, 186, 210, 5, 229, 208, 215, 53, 71, 150, 78, 241, 254, 55, 241, 189, 110, 124, 61, 242, 181, 119, 158, 11, 97, 33, 110, 139, 16, 182, 137, 105, 196, 224, 216, 106, 123, 4, 48, 216, 205, 183, 128, 112, 180, 197, 90]
def exT (i k : Nat) : UInt8 := exW.getD (4 * i + k) 0
def exR (r j : Nat) : UInt8 := exT (4 * r + j / 4) (j % 4)
def exB (r i : Nat) : UInt8 := exS.getD (16 * r + i) 0
theorem nw_congr {n : Nat} {T T' : Nat → Nat → UInt8} {i : Nat} (hi : 0 < i) (hn : 0 < n) (h : ∀ j, j < i → ∀ k, k < 4 → T j k = T' j k) {k : Nat} (hk : k < 4) : nwS n T i k = nwS n T' i k := by
  unfold nwS
  rw [h (i - 1) (by omega) k hk, h (i - 1) (by omega) ((k + 1) % 4) (Nat.mod_lt _ (by omega)), h (i - n) (by omega) k hk]
theorem wk_old {n : Nat} {key : Nat → UInt8} {m i k : Nat} (h : i < n + m) : wkTo n key (m + 1) i k = wkTo n key m i k := by
  show (if i = n + m then _ else _) = _
  rw [if_neg (by omega)]
theorem wk_new {n : Nat} {key : Nat → UInt8} {m k : Nat} : wkTo n key (m + 1) (n + m) k = nwS n (wkTo n key m) (n + m) k := by
  show (if n + m = n + m then _ else _) = _
  rw [if_pos rfl]
def fsub (x : UInt8) : UInt8 := UInt8.ofNat (sbN x.toNat)
theorem fsub_eq (x : UInt8) : fsub x = subS x := by
  apply UInt8.toNat.inj
  unfold fsub
  rw [← sub_sb, UInt8.ofNat_toNat]
def nwF (n : Nat) (T : Nat → Nat → UInt8) (i k : Nat) : UInt8 :=
  (if i % n = 0 then fsub (T (i - 1) ((k + 1) % 4)) ^^^ (if k = 0 then UInt8.ofNat (rndS ((i / n : Nat) : Int)) else 0) else if n = 8 ∧ i % 8 = 4 then fsub (T (i - 1) k) else T (i - 1) k) ^^^ T (i - n) k
theorem nwF_eq (n : Nat) (T : Nat → Nat → UInt8) (i k : Nat) : nwF n T i k = nwS n T i k := by
  unfold nwF nwS
  rw [fsub_eq, fsub_eq]
def fsB (s : Nat → UInt8) (i : Nat) : UInt8 := fsub (s i)
theorem fsB_eq (s : Nat → UInt8) : fsB s = sbB s := by funext i; exact fsub_eq _
def rdF (R : Nat) (rk : Nat → Nat → UInt8) (s : Nat → UInt8) (r : Nat) : Nat → UInt8 := xoB (midB R r (shB (fsB s))) (rk r)
theorem rdF_eq (R : Nat) (rk : Nat → Nat → UInt8) (s : Nat → UInt8) (r : Nat) : rdF R rk s r = rdE R rk s r := by unfold rdF rdE; rw [fsB_eq]
theorem ex_w : ((List.range 40).all fun i => (List.range 4).all fun k => nwF 4 exT (4 + i) k == exT (4 + i) k) = true := by decide +kernel
theorem ex_r : ((List.range 10).all fun r => (List.range 16).all fun i => rdF 10 exR (exB r) (r + 1) i == exB (r + 1) i) = true := by decide +kernel
theorem ex_words (i : Nat) (hi : i < 40) (k : Nat) (hk : k < 4) : nwS 4 exT (4 + i) k = exT (4 + i) k := by
  have := List.all_eq_true.1 (List.all_eq_true.1 ex_w i (by simpa using hi)) k (by simpa using hk)
  rw [← nwF_eq]; simpa using this
theorem ex_rounds (r : Nat) (hr : r < 10) (i : Nat) (hi : i < 16) : rdE 10 exR (exB r) (r + 1) i = exB (r + 1) i := by
  have := List.all_eq_true.1 (List.all_eq_true.1 ex_r r (by simpa using hr)) i (by simpa using hi)
  rw [← rdF_eq]; simpa using this
theorem ex_first : ∀ i, i < 16 → xoB (blk exI) (exR 0) i = exB 0 i := by decide +kernel
theorem ex_last : ∀ i, i < 16 → exB 10 i = blk exO i := by decide +kernel
theorem ex_key : ∀ i, i < 4 → ∀ k, k < 4 → blk exK (4 * i + k) = exT i k := by decide +kernel
theorem ex_to : ∀ m, m ≤ 40 → ∀ i, i < 4 + m → ∀ k, k < 4 → wkTo 4 (blk exK) m i k = exT i k
  | 0, _ => fun i hi k hk => ex_key i hi k hk
  | m + 1, hm => fun i hi k hk => by
    by_cases h : i = 4 + m
    · subst h
      rw [wk_new, nw_congr (by omega) (by omega) (fun j hj k hk => ex_to m (by omega) j hj k hk) hk]
      exact ex_words m (by omega) k hk
    · rw [wk_old (by omega)]; exact ex_to m (by omega) i (by omega) k hk
theorem ex_rk {r : Nat} (hr : r ≤ 10) : Same16 (rkS 4 (blk exK) r) (exR r) := fun j hj => ex_to 40 (Nat.le_refl _) _ (by omega) _ (Nat.mod_lt _ (by omega))
theorem ex_en : ∀ r, r ≤ 10 → Same16 (enTo 10 (rkS 4 (blk exK)) (blk exI) r) (exB r)
  | 0, _ => (xo_same (Same16.rfl' _) (ex_rk (by omega))).trans fun i hi => ex_first i hi
  | r + 1, hr => by
    have h1 : Same16 (rdE 10 (rkS 4 (blk exK)) (enTo 10 (rkS 4 (blk exK)) (blk exI) r) (r + 1)) (rdE 10 exR (exB r) (r + 1)) := xo_same (mid_same (sh_same (sb_same (ex_en r (by omega))))) (ex_rk hr)
    exact h1.trans fun i hi => ex_rounds r (by omega) i hi
/-- The first example. -/
theorem ex_all : toL (enS 10 (rkS 4 (blk exK)) (blk exI)) = exO := by
  show toL (enTo 10 (rkS 4 (blk exK)) (blk exI) 10) = exO
  rw [toL_congr ((ex_en 10 (Nat.le_refl _)).trans fun i hi => ex_last i hi)]
  exact toL_blk rfl
theorem ex_back : toL (deS 10 (rkS 4 (blk exK)) (blk exO)) = exI := by
  have h1 : Same16 (blk exO) (enS 10 (rkS 4 (blk exK)) (blk exI)) := by
    have := blk_same (enS 10 (rkS 4 (blk exK)) (blk exI))
    rw [ex_all] at this
    exact this
  show toL (xoB (deTo 10 (rkS 4 (blk exK)) (blk exO) 10) (rkS 4 (blk exK) 0)) = exI
  rw [toL_congr (Same16.trans (xo_same (de_same (R := 10) (rk := rkS 4 (blk exK)) h1 10) (Same16.rfl' _)) (de_en 10 _ _))]
  exact toL_blk rfl
end Go.Proofs.Ytgefampdfhbmbaa
