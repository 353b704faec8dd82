/- Texts of one proof, one behind the other. -/
import Derived.Test.YtnldpofljeodiaaSh5
import Derived.Test.YtnldpofljeodiaaShb
import Derived.Test.YtnldpofljeodiaaShc
/- Plain: numbers of eight words of 32 bits; a product, word by word. -/
namespace Go.Proofs.Ytnldpofljeodiaa
open Go.RowKit
set_option linter.unusedVariables false

def B32 : Nat := 4294967296
/- the value of the first n words -/
def vaW (a : Nat → Nat) : Nat → Nat
  | 0 => 0
  | n + 1 => vaW a n + a n * B32 ^ n
/- word j of a number -/
def dgW (N j : Nat) : Nat := N / B32 ^ j % B32
theorem b32_pos (j : Nat) : 0 < B32 ^ j := Nat.pow_pos (by decide)
theorem dgW_lt (N j : Nat) : dgW N j < B32 := Nat.mod_lt _ (by decide)
theorem vaW_lt (a : Nat → Nat) (h : ∀ j, a j < B32) : ∀ n, vaW a n < B32 ^ n
  | 0 => Nat.one_pos
  | n + 1 => by
    have ih := vaW_lt a h n
    have h1 : a n * B32 ^ n ≤ (B32 - 1) * B32 ^ n := Nat.mul_le_mul_right _ (by have := h n; unfold B32 at *; omega)
    have h2 : (B32 - 1) * B32 ^ n + B32 ^ n = B32 ^ (n + 1) := by
      rw [Nat.pow_succ, Nat.mul_comm (B32 ^ n) B32, ← Nat.succ_mul]; rfl
    show vaW a n + a n * B32 ^ n < _
    omega
theorem vaW_congr (a b : Nat → Nat) : ∀ n, (∀ j, j < n → a j = b j) → vaW a n = vaW b n
  | 0, _ => rfl
  | n + 1, h => by
    show vaW a n + a n * B32 ^ n = vaW b n + b n * B32 ^ n
    rw [vaW_congr a b n (fun j hj => h j (by omega)), h n (by omega)]
/- the words of a number below are its value -/
theorem vaW_dg (N : Nat) : ∀ n, vaW (dgW N) n = N % B32 ^ n
  | 0 => by rw [Nat.pow_zero, Nat.mod_one]; rfl
  | n + 1 => by
    show vaW (dgW N) n + dgW N n * B32 ^ n = _
    rw [vaW_dg N n]
    unfold dgW
    rw [Nat.pow_succ, Nat.mod_mul, Nat.mul_comm (N / B32 ^ n % B32)]
/- a word of a value -/
theorem dgW_va (a : Nat → Nat) (h : ∀ j, a j < B32) : ∀ n j, j < n → dgW (vaW a n) j = a j
  | 0, j, hj => absurd hj (Nat.not_lt_zero _)
  | n + 1, j, hj => by
    have hl := vaW_lt a h n
    have hp := b32_pos n
    show (vaW a n + a n * B32 ^ n) / B32 ^ j % B32 = a j
    by_cases hjn : j = n
    · subst hjn
      rw [Nat.add_mul_div_right _ _ hp, Nat.div_eq_of_lt hl, Nat.zero_add, Nat.mod_eq_of_lt (h j)]
    · have hlt : j < n := by omega
      have e : a n * B32 ^ n = (a n * B32 ^ (n - j - 1) * B32) * B32 ^ j := by
        rw [Nat.mul_assoc, Nat.mul_assoc, ← Nat.pow_succ', ← Nat.pow_add]; congr 2; omega
      rw [e, Nat.add_mul_div_right _ _ (b32_pos j), Nat.add_mul_mod_self_right]
      exact dgW_va a h n j hlt
theorem dg_mod (N n j : Nat) (h : j < n) : dgW (N % B32 ^ n) j = dgW N j := by
  rw [← vaW_dg N n, dgW_va _ (dgW_lt N) n j h]
/- one step of a row of the product: N has been reached below M = B32^q, the rest is R's -/
theorem wd_row_step (N R ab q : Nat) (c : Nat) (hc : N / B32 ^ q = c + R / B32 ^ q) :
    (N + ab * B32 ^ q) / B32 ^ q = c + ab + R / B32 ^ q ∧ dgW (N + ab * B32 ^ q) q = (c + ab + dgW R q) % B32 ∧ (N + ab * B32 ^ q) / B32 ^ (q + 1) = (c + ab + dgW R q) / B32 + R / B32 ^ (q + 1) ∧ ∀ j, j < q → dgW (N + ab * B32 ^ q) j = dgW N j := by
  have h1 : (N + ab * B32 ^ q) / B32 ^ q = c + ab + R / B32 ^ q := by rw [Nat.add_mul_div_right _ _ (b32_pos q), hc]; omega
  have hR : R / B32 ^ q = R / B32 ^ (q + 1) * B32 + dgW R q := by
    unfold dgW
    rw [Nat.pow_succ, ← Nat.div_div_eq_div_mul]
    have := Nat.div_add_mod (R / B32 ^ q) B32
    rw [Nat.mul_comm] at this; omega
  refine ⟨h1, ?_, ?_, fun j hj => ?_⟩
  · show (N + ab * B32 ^ q) / B32 ^ q % B32 = _
    rw [h1, hR, show c + ab + (R / B32 ^ (q + 1) * B32 + dgW R q) = c + ab + dgW R q + R / B32 ^ (q + 1) * B32 by omega, Nat.add_mul_mod_self_right]
  · rw [Nat.pow_succ, ← Nat.div_div_eq_div_mul, h1, hR, show c + ab + (R / B32 ^ (q + 1) * B32 + dgW R q) = c + ab + dgW R q + R / B32 ^ (q + 1) * B32 by omega, Nat.add_mul_div_right _ _ (by decide), Nat.pow_succ]
  · unfold dgW
    have e : ab * B32 ^ q = (ab * B32 ^ (q - j - 1) * B32) * B32 ^ j := by
      rw [Nat.mul_assoc, Nat.mul_assoc, ← Nat.pow_succ', ← Nat.pow_add]; congr 2; omega
    rw [e, Nat.add_mul_div_right _ _ (b32_pos j), Nat.add_mul_mod_self_right]
/- a row's product: the words of a below i by all of b, and word i by the words of b below k -/
def nkW (A Bv i k : Nat) : Nat := A % B32 ^ i * Bv + dgW A i * (Bv % B32 ^ k) * B32 ^ i
theorem nk_zero (A Bv i : Nat) : nkW A Bv i 0 = A % B32 ^ i * Bv := by
  unfold nkW; rw [Nat.pow_zero, Nat.mod_one, Nat.mul_zero, Nat.zero_mul, Nat.add_zero]
theorem nk_succ (A Bv i k : Nat) : nkW A Bv i (k + 1) = nkW A Bv i k + dgW A i * dgW Bv k * B32 ^ (i + k) := by
  have e : Bv % B32 ^ (k + 1) = Bv % B32 ^ k + B32 ^ k * dgW Bv k := by rw [Nat.pow_succ, Nat.mod_mul]; rfl
  unfold nkW
  rw [e, Nat.mul_add, Nat.add_mul, ← Nat.add_assoc, Nat.pow_add]
  congr 1
  rw [Nat.mul_comm (B32 ^ k) (dgW Bv k), ← Nat.mul_assoc, Nat.mul_assoc, Nat.mul_comm (B32 ^ k)]
theorem mod_succW (A i : Nat) : A % B32 ^ (i + 1) = A % B32 ^ i + dgW A i * B32 ^ i := by
  rw [Nat.pow_succ, Nat.mod_mul, Nat.mul_comm]; rfl
theorem dg_add_mul (N x j : Nat) (hj : j < 8) : dgW (N + x * B32 ^ 8) j = dgW N j := by
  rw [← dg_mod (N + x * B32 ^ 8) 8 j hj, Nat.add_mul_mod_self_right, dg_mod N 8 j hj]
theorem nk_end (A Bv i j : Nat) (hi : i ≤ 8) (hj : j < 8) : dgW (nkW A Bv i (8 - i)) j = dgW (A % B32 ^ (i + 1) * Bv) j := by
  have e : A % B32 ^ (i + 1) * Bv = nkW A Bv i (8 - i) + dgW A i * (Bv / B32 ^ (8 - i)) * B32 ^ 8 := by
    have hB : Bv = Bv % B32 ^ (8 - i) + Bv / B32 ^ (8 - i) * B32 ^ (8 - i) := by
      rw [Nat.mul_comm]; exact (Nat.mod_add_div _ _).symm
    have h8 : B32 ^ 8 = B32 ^ (8 - i) * B32 ^ i := by rw [← Nat.pow_add]; congr 1; omega
    unfold nkW
    rw [mod_succW, Nat.add_mul, Nat.add_assoc]
    congr 1
    rw [h8]
    generalize B32 ^ (8 - i) = M at *
    generalize B32 ^ i = K at *
    generalize hq : Bv / M = q at *
    generalize hr : Bv % M = r at *
    rw [hB]
    generalize dgW A i = a at *
    rw [Nat.mul_add, Nat.mul_assoc a K r, Nat.mul_assoc a r K, Nat.mul_comm K r]
    congr 1
    rw [Nat.mul_assoc a K, Nat.mul_assoc a q, Nat.mul_comm K (q * M), Nat.mul_assoc q M K]
  rw [e, dg_add_mul _ _ _ hj]
/- the row while k words of b are through -/
def rmW (A Bv i k j : Nat) : Nat := if j < i + k then dgW (nkW A Bv i k) j else dgW (A % B32 ^ i * Bv) j
theorem wd_rm_lt (A Bv i k j : Nat) : rmW A Bv i k j < B32 := by unfold rmW; split <;> exact dgW_lt _ _
theorem wd_rm_start (A Bv i j : Nat) : rmW A Bv i 0 j = dgW (A % B32 ^ i * Bv) j := by unfold rmW; rw [nk_zero]; split <;> rfl
theorem wd_rm_end (A Bv i j : Nat) (hi : i ≤ 8) (hj : j < 8) : rmW A Bv i (8 - i) j = rmW A Bv (i + 1) 0 j := by
  rw [wd_rm_start, ← nk_end A Bv i j hi hj]
  unfold rmW; rw [if_pos (by omega)]
def cyW (A Bv i k c : Nat) : Prop := nkW A Bv i k / B32 ^ (i + k) = c + A % B32 ^ i * Bv / B32 ^ (i + k)
theorem cy_start (A Bv i : Nat) : cyW A Bv i 0 0 := by unfold cyW; rw [nk_zero, Nat.zero_add]
theorem wd_rm_step (A Bv i k c : Nat) (h : cyW A Bv i k c) :
    cyW A Bv i (k + 1) ((c + dgW A i * dgW Bv k + rmW A Bv i k (i + k)) / B32) ∧ ∀ j, rmW A Bv i (k + 1) j = if j = i + k then (c + dgW A i * dgW Bv k + rmW A Bv i k (i + k)) % B32 else rmW A Bv i k j := by
  have hq : rmW A Bv i k (i + k) = dgW (A % B32 ^ i * Bv) (i + k) := by unfold rmW; rw [if_neg (by omega)]
  obtain ⟨h1, h2, h3, h4⟩ := wd_row_step (nkW A Bv i k) (A % B32 ^ i * Bv) (dgW A i * dgW Bv k) (i + k) c h
  rw [hq]
  refine ⟨?_, fun j => ?_⟩
  · unfold cyW
    rw [nk_succ, ← Nat.add_assoc, h3]
  · unfold rmW
    rw [nk_succ]
    by_cases hj : j = i + k
    · subst hj
      rw [if_pos rfl, if_pos (by omega), h2]
    · rw [if_neg hj]
      by_cases hl : j < i + k
      · rw [if_pos hl, if_pos (by omega), h4 j hl]
      · rw [if_neg hl, if_neg (by omega)]
theorem wd_v_lt (a b c r : Nat) (ha : a < B32) (hb : b < B32) (hc : c < B32) (hr : r < B32) : c + a * b + r < 18446744073709551616 := by
  have h : a * b ≤ (B32 - 1) * (B32 - 1) := Nat.mul_le_mul (by omega) (by omega)
  unfold B32 at *
  omega
theorem wd_rm_last (A Bv j : Nat) (hj : j < 8) (hA : A < B32 ^ 8) : rmW A Bv 8 0 j = dgW (A * Bv) j := by
  rw [wd_rm_start, Nat.mod_eq_of_lt hA]
end Go.Proofs.Ytnldpofljeodiaa
/- What Is and Words of the document answer. -/
namespace Go.Proofs.Ytnldpofljeodiaa
open Go.RowKit
set_option linter.unusedVariables false

theorem Try.info85c : (Try.prog.info? 85).map (fun i => (i.zero, i.size, i.bytes)) = some (some (.int .u32 0), 1, 4) := by kernel_rfl
theorem Try.info41c : (Try.prog.info? 41).map (fun i => (i.zero, i.size, i.bytes)) = some (some (.int .u64 0), 1, 8) := by kernel_rfl
def rangeC (kd : IntKind) (f : Nat → Nat) (k : Nat) : List Value := (List.range k).map fun i => .int kd (f i : Int)
theorem rangeC_next (kd : IntKind) (f : Nat → Nat) (k : Nat) : rangeC kd f (k + 1) = rangeC kd f k ++ [.int kd (f k : Int)] := by simp [rangeC, List.range_succ]
theorem rangeC_congr (kd : IntKind) (f h : Nat → Nat) (k : Nat) (e : ∀ j, j < k → f j = h j) : rangeC kd f k = rangeC kd h k := by
  unfold rangeC
  exact List.map_congr_left fun j hj => by rw [e j (List.mem_range.mp hj)]
/- a slice value reads as these numbers -/
def NsAt (w : World) (kd : IntKind) (sl : Value) (n : Nat) (f : Nat → Nat) : Prop := ∃ a cap, sl = .slice a n cap ∧ n ≤ cap ∧ ∀ k, k < n → ∃ g off, a = some ⟨g, off, none⟩ ∧ g < w.heap.size ∧ w.cell? ⟨g, off + k, none⟩ = some (.int kd (f k : Int))
theorem NsAt.below {w w' : World} {kd : IntKind} {sl : Value} {n : Nat} {f : Nat → Nat} (h : NsAt w kd sl n f) (hb : Below w.heap.size w w') : NsAt w' kd sl n f := by
  obtain ⟨a, cap, rfl, hn, hc⟩ := h
  refine ⟨a, cap, rfl, hn, fun k hk => ?_⟩
  obtain ⟨g, off, rfl, hg, hcl⟩ := hc k hk
  exact ⟨g, off, rfl, Nat.lt_of_lt_of_le hg hb.size, by rw [hb.cell (p := ⟨g, off + k, none⟩) hg]; exact hcl⟩
theorem NsAt.congr {w : World} {kd : IntKind} {sl : Value} {n : Nat} {f h : Nat → Nat} (hs : NsAt w kd sl n f) (e : ∀ j, j < n → f j = h j) : NsAt w kd sl n h := by
  obtain ⟨a, cap, rfl, hn, hc⟩ := hs
  refine ⟨a, cap, rfl, hn, fun k hk => ?_⟩
  obtain ⟨g, off, rfl, hg, hcl⟩ := hc k hk
  exact ⟨g, off, rfl, hg, by rw [← e k hk]; exact hcl⟩
theorem NsAt.nil (w : World) (kd : IntKind) (f : Nat → Nat) : NsAt w kd (.slice none 0 0) 0 f := ⟨none, 0, rfl, Nat.le_refl _, fun k hk => by omega⟩
def riGo (n : Nat) : Nat → Nat → Bool
  | 0, d => true
  | m + 1, d => if d * d ≤ n then (if n % d = 0 then false else riGo n m (d + 1)) else true
theorem ri_is : ∀ n : Fin 410, 2 ≤ n.val → riGo n.val 64 2 = isS n.val := by decide +kernel
set_option maxRecDepth 100000 in
set_option maxHeartbeats 1600000 in
theorem refIs_any (n : Nat) (h2 : 2 ≤ n) (hn : n < 410) (w : World) : Calls Try.prog 78 #[.int .u32 (n : Int)] w fun e w' => e = .returned (.bool (isS n)) ∧ w' = w := by
  have HLF : Hid (riGo n 64 2 = isS n) := ri_is ⟨n, hn⟩ h2
  have hn2 : ¬ (n : Int) < 2 := by omega
  generalize isS n = L at *
  go_enter Try.func78, Try.ntmps78
  go_wp2_with fail
  go_loopw [3] (fun v wr => ∃ m d : Nat, m + d = 66 ∧ 2 ≤ d ∧ v = .int .u64 (d : Int) ∧ riGo n m d = L ∧ wr = w) (fun v _ => 70 - (intOf v).toNat)
  case atStart => exact ⟨64, 2, rfl, by omega, rfl, HLF.out, rfl⟩
  case round =>
    obtain ⟨m, d, hmd, hd2, rfl, hgo, hwr⟩ := hrel
    subst hwr
    have HGO := hidD hgo
    have HMD := hidD hmd
    have hd66 : d ≤ 66 := by omega
    clear hgo hmd
    have hdz : (d : Int) ≠ 0 := by omega
    obtain ⟨D, hD⟩ : ∃ D : Nat, d * d = D := ⟨_, rfl⟩
    have hDl : D ≤ 4356 := by rw [← hD]; exact Nat.mul_le_mul hd66 hd66
    have hdd : (d : Int) * (d : Int) = (D : Int) := by rw [← hD]; exact (Int.natCast_mul d d).symm
    have HD := hidD hD
    clear hD
    have hnr : n % d < 4096 := Nat.lt_of_le_of_lt (Nat.mod_le _ _) (by omega)
    have hr : (n : Int) % (d : Int) = ((n % d : Nat) : Int) := by simp
    by_cases hle : D ≤ n
    · have hlei : (D : Int) ≤ (n : Int) := by omega
      obtain ⟨m', hm'⟩ : ∃ m', m = m' + 1 := by
        cases m with
        | zero =>
          have h1 := HMD.out
          have h2 := HD.out
          rw [show d = 66 by omega] at h2
          omega
        | succ m' => exact ⟨m', rfl⟩
      have HG2 : Hid ((if n % d = 0 then false else riGo n m' (d + 1)) = L) := by
        have h := HGO.out
        subst hm'
        unfold riGo at h
        rw [HD.out, if_pos hle] at h
        exact h
      by_cases hz : n % d = 0
      · have hzi : (((n % d : Nat) : Int) == 0) = true := by simp; omega
        have HR : Hid (false = L) := by have h := HG2.out; rw [if_pos hz] at h; exact h
        clear hz HG2 hdz
        generalize n % d = NR at *
        go_wp2_with fail
        go_ret
        exact ⟨by rw [← HR.out]; rfl, rfl⟩
      · have hzi : (((n % d : Nat) : Int) == 0) = false := by simp; omega
        have HR : Hid (riGo n m' (d + 1) = L) := by have h := HG2.out; rw [if_neg hz] at h; exact h
        clear hz HG2
        generalize n % d = NR at *
        go_wp2_with fail
        go_roundw
        case rel =>
          first
          | exact ⟨m', d + 1, by have := HMD.out; omega, by omega, by go_num, HR.out, by first | rfl | trivial⟩
          | ((repeat apply Exists.intro); refine And.intro ?_ rfl; exact ⟨m', d + 1, by have := HMD.out; omega, by omega, by go_num, HR.out, by first | rfl | trivial⟩)
        case measure => simp [intOf]; omega
    · have hlei : ¬ (D : Int) ≤ (n : Int) := by omega
      have HR : Hid (true = L) := by
        have h := HGO.out
        cases m with
        | zero => exact h
        | succ m' => unfold riGo at h; rw [HD.out, if_neg hle] at h; exact h
      clear hle
      go_wp2_with fail
      go_ret
      exact ⟨by rw [← HR.out]; rfl, rfl⟩
theorem NsAt.row {w : World} {kd : IntKind} {base e n : Nat} {v : Value} {f : Nat → Nat} (h : w.ownsRow base e 1 v n (rangeC kd f n)) : NsAt w kd v n f := by
  rcases h.2 with ⟨rfl, h0⟩ | ⟨g, cap, cur, rfl, hb, hg, hc, _⟩
  · subst h0; exact NsAt.nil _ _ _
  · refine ⟨_, _, rfl, hc, fun k hk => ⟨g, 0, rfl, row_lt hg, ?_⟩⟩
    · have := h.cells (g := g) rfl k (.int kd (f k : Int)) (by unfold rangeC; rw [List.getElem?_map, List.getElem?_range hk]; rfl)
      rwa [show (⟨g, 0, none⟩ : Addr).add k = ⟨g, 0 + k, none⟩ from Addr.add_lit ..] at this
set_option maxRecDepth 100000 in
set_option maxHeartbeats 1000000 in
theorem refWords6_any (w : World) : Calls Try.prog 68 #[] w fun e w' => ∃ v, e = .returned v ∧ w'.ownsRow w.heap.size 85 1 v 80 (rangeC .u32 prS 80) ∧ Below w.heap.size w w' := by
  have HIS : Hid (∀ n : Nat, 2 ≤ n → n < 410 → ∀ w, Calls Try.prog 78 #[.int .u32 (n : Int)] w fun e w' => e = .returned (.bool (isS n)) ∧ w' = w) := fun n h2 hn w => refIs_any n h2 hn w
  obtain ⟨i0, hi, hz0, hz1, hz2⟩ := info_parts Try.info85c
  go_enter Try.func68, Try.ntmps68
  go_wp2_with fail
  go_loopw [1, 2] (fun o nv wr => ∃ n c : Nat, 2 ≤ n ∧ n ≤ 410 ∧ nv = .int .u32 (n : Int) ∧ cntS n = c ∧ c ≤ 80 ∧ wr.ownsRow w.heap.size 85 1 o c (rangeC .u32 prS c) ∧ Below w.heap.size w wr) (fun _ nv _ => 410 - (intOf nv).toNat)
  case atStart => exact ⟨2, 0, by omega, by omega, rfl, cnt_two, by omega, World.ownsRow_nil _ _ _ _, Below.refl _ _⟩
  case round =>
    obtain ⟨n, c, hn2, hn4, rfl, hcn', hcc, hown, hbel⟩ := hrel
    have HC := hidD hcn'
    obtain ⟨ad, cd, hde⟩ := row_shape hown
    subst hde
    have HOW := hidD hown
    have HBL := hidD hbel
    have hwz := hbel.size
    clear hcn' hown
    by_cases hlt : c < 80
    · have hlti : (c : Int) < 80 := by omega
      have hn410 : n < 410 := by
        rcases Nat.lt_or_ge n 410 with h | h
        · exact h
        · have h1 := HC.out
          rw [show n = 410 by omega, cnt_end] at h1; omega
      have hf := pr_facts ⟨n, hn410⟩
      have HFA : Hid ((isS n = true → prS c = n ∧ cntS (n + 1) = c + 1) ∧ (isS n = false → cntS (n + 1) = c)) := by
        have h := HC.out
        subst h
        exact hf
      clear hf
      have HII := hidD (HIS.out n hn2 hn410)
      cases hb : isS n with
      | false =>
        rw [hb] at HII HFA
        have HN := hidD (HFA.out.2 rfl)
        clear HFA hb hbel
        go_wp2_with (go_at_call 78; refine (HII.out _).mono ?_; rintro e wz ⟨rfl, hwz⟩; subst wz)
        go_roundw
        case rel =>
          first
          | exact ⟨n + 1, c, by omega, by omega, by go_num, HN.out, hcc, HOW.out, HBL.out⟩
          | ((repeat apply Exists.intro); refine And.intro ?_ rfl; exact ⟨n + 1, c, by omega, by omega, by go_num, HN.out, hcc, HOW.out, HBL.out⟩)
        case measure => simp [intOf]; omega
      | true =>
        rw [hb] at HII HFA
        have HPN := hidD (HFA.out.1 rfl)
        have HRN : Hid (rangeC .u32 prS (c + 1) = rangeC .u32 prS c ++ [.int .u32 (n : Int)]) := by
          show _ = _
          rw [rangeC_next, HPN.out.1]
        clear HFA hb hbel
        go_wp2_with (first
          | (go_at_call 78; refine (HII.out _).mono ?_; rintro e wz ⟨rfl, hwz⟩; subst wz)
          | (at_builtin; refine wpList_append_own _ rfl _ _ 118 rfl w.heap.size 85 i0 (.int .u32 0) 1 4 Try.underlying118 hi hz0 hz1 hz2 rfl (by decide) (.slice ad c cd) c (rangeC .u32 prS c) rfl (row_below HOW.out ((Below.refl _ _).alloc (Nat.le_refl _) _)) ⟨wr.heap.size, 0, none⟩ 1 1 [.int .u32 (n : Int)] rfl rfl (new_cell1 wr _ _) (by simp [Value.oneCell']) (by unfold maxLen; omega) (by omega) (by simp; omega) ?_; intro v4 w4 hown4 hg4 hnil4; have HB4 := hidD (row_grown (row_below HOW.out ((Below.refl _ _).alloc (Nat.le_refl _) _)) (HBL.out.alloc hwz _) hg4 (by simp; omega)); clear hg4 hnil4))
        go_roundw
        case rel =>
          first
          | exact ⟨n + 1, c + 1, by omega, by omega, by go_num, HPN.out.2, by omega, by rw [HRN.out]; exact hown4, HB4.out⟩
          | ((repeat apply Exists.intro); refine And.intro ?_ rfl; exact ⟨n + 1, c + 1, by omega, by omega, by go_num, HPN.out.2, by omega, by rw [HRN.out]; exact hown4, HB4.out⟩)
        case measure => simp [intOf]; omega
    · obtain rfl : c = 80 := by omega
      go_wp2_with fail
      refine bodyPost_ret (v := .slice ad 80 cd) (by simp [results, Try.results68, go_sem]) rfl ⟨_, rfl, HOW.out, HBL.out⟩
end Go.Proofs.Ytnldpofljeodiaa
/- What times of the document answers: the product of two numbers of eight words, without what has no room. -/
namespace Go.Proofs.Ytnldpofljeodiaa
open Go.RowKit
set_option linter.unusedVariables false

def wdR (N : Nat) : Array Value := rowZ .u32 8 (fun j => (dgW N j : Int))
theorem Try.zero136z : (Try.prog.info? 136).map (fun i => (i.zero, i.size)) = some (some (.agg (rowZ .u32 8 (fun _ => 0))), 8) := by kernel_rfl
theorem rm_zero (A B j : Nat) : rmW A B 0 0 j = 0 := by rw [wd_rm_start, Nat.pow_zero, Nat.mod_one, Nat.zero_mul]; unfold dgW; rw [Nat.zero_div]; rfl
set_option maxRecDepth 100000 in
set_option maxHeartbeats 3200000 in
theorem times6_any (A B : Nat) (hA : A < B32 ^ 8) (w : World) : Calls Try.prog 88 #[.agg (wdR A), .agg (wdR B)] w fun e w' => e = .returned (.agg (wdR (A * B))) ∧ Below w.heap.size w w' := by
  obtain ⟨hz, hsz⟩ := zero_of_info Try.zero136z
  have HSZ := hidD hsz
  have HAL := hidD hA
  obtain ⟨b1, b2, b3, b5, b4⟩ := four_blocks w (rowZ .u32 8 (fun j => (dgW A j : Int))) (rowZ .u32 8 (fun j => (dgW B j : Int))) (rowZ .u32 8 (fun _ => 0)) (rowZ .u32 8 (fun _ => 0)) 136 136 136 136
  have W1 := hidD b1
  have W2 := hidD b2
  have W3 := hidD b3
  have W5 := hidD b5
  have W4 := hidD b4
  clear b1 b2 b3 b4 b5 hsz hA
  unfold wdR
  generalize hW : (((w.alloc (.cells (rowZ .u32 8 (fun j => (dgW A j : Int))) (136 : TypeId))).alloc (.cells (rowZ .u32 8 (fun j => (dgW B j : Int))) (136 : TypeId))).alloc (.cells (rowZ .u32 8 (fun _ => 0)) (136 : TypeId))).alloc (.cells (rowZ .u32 8 (fun _ => 0)) (136 : TypeId)) = W at *
  have V1 : Hid (RowZ W w.heap.size .u32 8 136 (fun j => (dgW A j : Int))) := W1.out
  have V2 : Hid (RowZ W (w.heap.size + 1) .u32 8 136 (fun j => (dgW B j : Int))) := W2.out
  have V3 : Hid (RowZ W (w.heap.size + 2) .u32 8 136 (fun _ => 0)) := W3.out
  have V5 : Hid (RowZ W (w.heap.size + 3) .u32 8 136 (fun j => (rmW A B 0 0 j : Int))) := (show RowZ W (w.heap.size + 3) .u32 8 136 (fun _ => 0) from W5.out).congr fun j _ => by rw [rm_zero]; rfl
  have HLP : Hid (∀ wA : World, But (w.heap.size + 3) W wA → RowZ wA w.heap.size .u32 8 136 (fun j => (dgW A j : Int)) ∧ RowZ wA (w.heap.size + 1) .u32 8 136 (fun j => (dgW B j : Int)) ∧ RowZ wA (w.heap.size + 2) .u32 8 136 (fun _ => 0) ∧ Below w.heap.size w wA) := fun wA h => ⟨(h.rest _ (row_lt V1.out) (by omega)).trans V1.out, (h.rest _ (row_lt V2.out) (by omega)).trans V2.out, (h.rest _ (row_lt V3.out) (by omega)).trans V3.out, W4.out.trans (h.bel.mono (by omega))⟩
  generalize hRA : rowZ .u32 8 (fun j => (dgW A j : Int)) = RA at *
  generalize hRB : rowZ .u32 8 (fun j => (dgW B j : Int)) = RB at *
  clear hRA hRB
  go_enter Try.func88, Try.ntmps88
  go_wp2_with fail
  clear hW W1 W2 W3 W4 W5 hz V1 V2 V3
  generalize hg : w.heap.size = g at *
  have HG := hidD hg
  clear hg
  go_loopw [6] (fun iv wr => ∃ i : Nat, i ≤ 8 ∧ iv = .int .i64 (i : Int) ∧ RowZ wr (g + 3) .u32 8 136 (fun j => (rmW A B i 0 j : Int)) ∧ But (g + 3) W wr) (fun iv _ => 8 - (intOf iv).toNat)
  case atStart => exact ⟨0, by omega, rfl, V5.out, But.refl _ _⟩
  case round =>
    clear V5
    obtain ⟨i, hi, rfl, hrow, hbut⟩ := hrel
    by_cases hlt : i < 8
    · have hlti : (i : Int) < 8 := by omega
      have HR0 := hidD hrow
      have HB0 := hidD hbut
      clear hrow hbut
      obtain ⟨wl, hwl⟩ : ∃ wl : World, wl = wr := ⟨_, rfl⟩
      subst hwl
      go_wp2_with fail
      go_loopw [7, 8] (fun cv kv wr => ∃ k c : Nat, i + k ≤ 8 ∧ kv = .int .i64 (k : Int) ∧ cv = .int .u64 (c : Int) ∧ c < 4294967296 ∧ cyW A B i k c ∧ RowZ wr (g + 3) .u32 8 136 (fun j => (rmW A B i k j : Int)) ∧ But (g + 3) W wr) (fun _ kv _ => 8 - (intOf kv).toNat)
      case atStart => exact ⟨0, 0, by omega, rfl, rfl, by omega, cy_start A B i, HR0.out, HB0.out⟩
      case round =>
        clear HR0 HB0
        obtain ⟨k, c, hk, rfl, rfl, hc, hcy, hrow, hbut⟩ := hrel
        by_cases hkl : i + k < 8
        · have hkli : (i : Int) + (k : Int) < 8 := by omega
          obtain ⟨k1, k2, k3, k4⟩ := HLP.out _ hbut
          have q8 : k < 8 := by omega
          obtain ⟨q, hq⟩ : ∃ q : Nat, i + k = q := ⟨_, rfl⟩
          have hqi : (i : Int) + (k : Int) = (q : Int) := by omega
          have hq8 : q < 8 := by omega
          have hst := wd_rm_step A B i k c hcy
          rw [hq] at hst
          have ca : ∀ x : BW wr, x.v.cell? ⟨g, i, none⟩ = some (.int .u32 (dgW A i : Int)) := fun x => (k1.next x.below).cell hlt
          have cb : ∀ x : BW wr, x.v.cell? ⟨g + 1, k, none⟩ = some (.int .u32 (dgW B k : Int)) := fun x => (k2.next x.below).cell q8
          have cr : ∀ x : BW wr, x.v.cell? ⟨g + 3, q, none⟩ = some (.int .u32 (rmW A B i k q : Int)) := fun x => (hrow.next x.below).cell hq8
          have CR := hidD cr
          have FR : Hid (∀ x : BW wr, x.v.frozen? ⟨g + 3, q, none⟩ = false) := fun x => (hrow.next x.below).frozen _
          have la := dgW_lt A i
          have lb := dgW_lt B k
          have lr := wd_rm_lt A B i k q
          have HV := wd_v_lt _ _ _ _ la lb (show c < B32 from hc) lr
          have HST : Hid (∀ (x : BW wr) (v : Int), v = (((c + dgW A i * dgW B k + rmW A B i k q) % B32 : Nat) : Int) → RowZ (x.v.setCell ⟨g + 3, q, none⟩ (.int .u32 v)) (g + 3) .u32 8 136 (fun j => (rmW A B i (k + 1) j : Int))) := fun x v hv => ((hrow.next x.below).set (k := q) hq8 _).congr fun j hj => by
            rw [hst.2 j, hv]; split <;> rfl
          have HSB : Hid (∀ (x : BW wr) v, But (g + 3) W (x.v.setCell ⟨g + 3, q, none⟩ v)) := fun x v => (hbut.trans (But.of x.below (Nat.le_of_lt hrow.lt))).put q v
          have HCN := hidD hst.1
          clear hst hcy hrow hbut k1 k2 k3 k4
          have hab : (dgW A i : Int) * (dgW B k : Int) = ((dgW A i * dgW B k : Nat) : Int) := (Int.natCast_mul _ _).symm
          generalize dgW A i * dgW B k = P at *
          generalize dgW A i = a at *
          generalize dgW B k = b at *
          generalize rmW A B i k q = r at *
          unfold B32 at la lb lr
          obtain ⟨V, hV⟩ : ∃ V : Nat, c + P + r = V := ⟨_, rfl⟩
          have hVi : (c : Int) + (P : Int) + (r : Int) = (V : Int) := by omega
          rw [hV] at HST HCN HV
          have hP : P < 18446744073709551616 := by omega
          have hcP : c + P < 18446744073709551616 := by omega
          have HQ := hidD hq
          clear hV hq
          go_wp2_with fail
          refine wp_region_below (by kernel_rfl) (by kernel_rfl) ?_
          repeat (go_big_quiet_step (fail))
          refine wpQuiet_nil ?_
          intro x
          have d1 := CR.out x
          have f1 := FR.out x
          clear ca cb cr
          go_wp2_with fail
          go_roundw
          case rel =>
            first
            | exact ⟨k + 1, V / 4294967296, by omega, by go_num, by simp, by omega, HCN.out, HST.out _ _ (by simp [B32]), HSB.out _ _⟩
            | ((repeat apply Exists.intro); refine And.intro ?_ rfl; exact ⟨k + 1, V / 4294967296, by omega, by go_num, by simp, by omega, HCN.out, HST.out _ _ (by simp [B32]), HSB.out _ _⟩)
          case measure => simp [intOf]; omega
        · have hkli : ¬ (i : Int) + (k : Int) < 8 := by omega
          have HN : Hid (RowZ wr (g + 3) .u32 8 136 (fun j => (rmW A B (i + 1) 0 j : Int))) := hrow.congr fun j hj => by
            rw [show k = 8 - i by omega, wd_rm_end A B i j (by omega) hj]
          have HB1 := hidD hbut
          clear hrow hbut hcy
          go_wp2_with fail
          go_roundw
          case rel =>
            first
            | exact ⟨i + 1, by omega, by go_num, HN.out, HB1.out⟩
            | ((repeat apply Exists.intro); refine And.intro ?_ rfl; exact ⟨i + 1, by omega, by go_num, HN.out, HB1.out⟩)
          case measure => simp [intOf]; omega
    · obtain rfl : i = 8 := by omega
      obtain ⟨k1, k2, k3, k4⟩ := HLP.out _ hbut
      have HL : Hid (wr.heap[g + 3]? = some (.cells (rowZ .u32 8 (fun j => (dgW (A * B) j : Int))) (136 : TypeId) (0, 0))) := hrow.congr fun j hj => by rw [wd_rm_last A B j hj HAL.out]
      have HO : Hid (wr.heap[g + 2]? = some (.cells (rowZ .u32 8 (fun _ => 0)) (136 : TypeId) (0, 0))) := k3
      have HBL := hidD k4
      have HONE : Hid ((rowZ .u32 8 (fun j => (dgW (A * B) j : Int))).all (·.oneCell') = true) := rowZ_one _ _ _
      have h4 : (rowZ .u32 8 (fun j => (dgW (A * B) j : Int))).size = 8 := rowZ_size _ _ _
      have h0 : (rowZ .u32 8 (fun _ => 0)).size = 8 := rowZ_size _ _ _
      clear hrow hbut k1 k2 k3 k4
      generalize hC : rowZ .u32 8 (fun j => (dgW (A * B) j : Int)) = C at *
      have HCE := hidD hC
      clear hC
      generalize rowZ .u32 8 (fun _ => 0) = C0 at *
      have hi : Hid ((Try.prog.info? 136).map (·.size) = some C.size) := by show _ = _; rw [HSZ.out, h4]
      have HSS : Hid (C0.size = C.size) := by show _ = _; rw [h0, h4]
      clear h0 h4
      go_wp2_with (first | (refine wpList_load_row rfl 136 _ rfl (g + 3) rfl 136 C (0, 0) _ HL.out Try.underlying136 rfl hi.out ?_) | (refine wpList_store_row rfl 136 _ _ rfl (g + 2) C rfl rfl 136 C0 HO.out hi.out HSS.out HONE.out ?_))
      refine bodyPost_ret (results_cell_row (P := Try.prog) (p := 4) (ty := 136) (by kernel_rfl) _ _ (g + 2) 136 C (0, 0) _ rfl (setRow_heap _ _ C0 C 136 (0, 0) HO.out) Try.underlying136 rfl hi.out) rfl ?_
      refine ⟨by rw [HCE.out], ?_⟩
      have hfin : Below g w (wr.setRow (g + 2) C) := below_setRow HBL.out (by omega) _
      rw [HG.out]; exact hfin
end Go.Proofs.Ytnldpofljeodiaa
/- What above and shifted of the document answer. -/
namespace Go.Proofs.Ytnldpofljeodiaa
open Go.RowKit
set_option linter.unusedVariables false

theorem b32_two (j : Nat) : B32 ^ j = 2 ^ (32 * j) := by rw [Nat.pow_mul]; rfl
theorem dg_bit (N j t : Nat) : (dgW N j).testBit t = (decide (t < 32) && N.testBit (32 * j + t)) := by
  unfold dgW
  rw [b32_two, show B32 = 2 ^ 32 from rfl, Nat.testBit_mod_two_pow, Nat.testBit_div_two_pow, Nat.add_comm t]
theorem dg_or (X i j : Nat) : dgW (X ||| 2 ^ i) j = if j = i / 32 then dgW X j ||| 2 ^ (i % 32) else dgW X j := by
  apply Nat.eq_of_testBit_eq
  intro t
  split
  · rename_i h
    rw [dg_bit, Nat.testBit_or, Nat.testBit_or, dg_bit, Nat.testBit_two_pow, Nat.testBit_two_pow]
    by_cases ht : t < 32
    · have : (i = 32 * j + t) ↔ (i % 32 = t) := by omega
      simp only [ht, decide_true, Bool.true_and, this]
    · have : ¬ i % 32 = t := by omega
      simp only [ht, this, decide_false, Bool.false_and, Bool.or_false]
  · rename_i h
    rw [dg_bit, dg_bit, Nat.testBit_or, Nat.testBit_two_pow]
    by_cases ht : t < 32
    · have : ¬ i = 32 * j + t := by omega
      simp only [this, decide_false, Bool.or_false]
    · simp only [ht, decide_false, Bool.false_and]
theorem dg_split (A i : Nat) : A / B32 ^ i = A / B32 ^ (i + 1) * B32 + dgW A i := by
  unfold dgW
  rw [Nat.pow_succ, ← Nat.div_div_eq_div_mul, Nat.mul_comm]
  exact (Nat.div_add_mod _ _).symm
/- the words from i on are the same -/
def eqF (A B i : Nat) : Prop := A / B32 ^ i = B / B32 ^ i
theorem eqF_top (A B : Nat) (hA : A < B32 ^ 8) (hB : B < B32 ^ 8) : eqF A B 8 := by
  unfold eqF; rw [Nat.div_eq_of_lt hA, Nat.div_eq_of_lt hB]
theorem eqF_down (A B i : Nat) (h : eqF A B (i + 1)) (hd : dgW A i = dgW B i) : eqF A B i := by
  unfold eqF at *; rw [dg_split A, dg_split B, h, hd]
theorem eqF_ne (A B i : Nat) (h : eqF A B (i + 1)) (hd : dgW A i ≠ dgW B i) : (dgW B i < dgW A i) ↔ B < A := by
  unfold eqF at h
  have ha := dg_split A i
  have hb := dg_split B i
  rw [h] at ha
  constructor
  · intro hl
    rcases Nat.lt_or_ge B A with h' | h'
    · exact h'
    · have := Nat.div_le_div_right (c := B32 ^ i) h'
      omega
  · intro hl
    have := Nat.div_le_div_right (c := B32 ^ i) (Nat.le_of_lt hl)
    omega
theorem eqF_zero (A B : Nat) (h : eqF A B 0) : A = B := by
  unfold eqF at h; rw [Nat.pow_zero, Nat.div_one, Nat.div_one] at h; exact h
/- p, n bits up -/
def shG (p n : Nat) : Nat → Nat
  | 0 => 0
  | i + 1 => if p / 2 ^ i % 2 = 1 then shG p n i ||| 2 ^ (n + i) else shG p n i
theorem sh_lt (p n : Nat) : ∀ i, n + i ≤ 256 → shG p n i < B32 ^ 8
  | 0, _ => (by decide : 0 < B32 ^ 8)
  | i + 1, h => by
    have ih := sh_lt p n i (by omega)
    rw [b32_two] at *
    unfold shG
    split
    · exact Nat.or_lt_two_pow ih (Nat.pow_lt_pow_right (by decide) (by omega))
    · exact ih
def zzS (y k : Nat) : Nat := if k = 3 then (y * y % B32 ^ 8) * y % B32 ^ 8 else y * y % B32 ^ 8
def rtG (p k b : Nat) : Nat → Nat
  | 0 => 0
  | t + 1 => if zzS (rtG p k b t ||| 2 ^ (16 + b - t)) k ≤ shG p (k * b) 32 then rtG p k b t ||| 2 ^ (16 + b - t) else rtG p k b t
theorem rt_lt (p k b : Nat) (hb : b ≤ 64) : ∀ t, rtG p k b t < B32 ^ 8
  | 0 => (by decide : 0 < B32 ^ 8)
  | t + 1 => by
    have ih := rt_lt p k b hb t
    rw [b32_two] at *
    unfold rtG
    split
    · exact Nat.or_lt_two_pow ih (Nat.pow_lt_pow_right (by decide) (by omega))
    · exact ih
def ptG (X : Nat) : Nat → Nat
  | 0 => 0
  | i + 1 => ptG X i ||| (dgW X (i / 32) / 2 ^ (i % 32) % 2) * 2 ^ i
def fpS (p k b : Nat) : Nat := ptG (rtG p k b (17 + b)) b
theorem pt_lt (X : Nat) : ∀ i, ptG X i < 2 ^ i
  | 0 => (by decide : 0 < 2 ^ 0)
  | i + 1 => by
    have ih := pt_lt X i
    unfold ptG
    refine Nat.or_lt_two_pow (Nat.lt_trans ih (Nat.pow_lt_pow_right (by decide) (by omega))) ?_
    have h : dgW X (i / 32) / 2 ^ (i % 32) % 2 < 2 := Nat.mod_lt _ (by decide)
    have : dgW X (i / 32) / 2 ^ (i % 32) % 2 * 2 ^ i ≤ 1 * 2 ^ i := Nat.mul_le_mul_right _ (by omega)
    rw [Nat.pow_succ]
    have := Nat.two_pow_pos i
    omega

theorem wdR_mod (N : Nat) : wdR (N % B32 ^ 8) = wdR N := rowZ_congr _ fun j hj => by rw [dg_mod N 8 j hj]
set_option maxRecDepth 100000 in
set_option maxHeartbeats 1600000 in
theorem above6_any (A B : Nat) (hA : A < B32 ^ 8) (hB : B < B32 ^ 8) (w : World) : Calls Try.prog 89 #[.agg (wdR A), .agg (wdR B)] w fun e w' => e = .returned (.bool (decide (B < A))) ∧ Below w.heap.size w w' := by
  have HTP := hidD (eqF_top A B hA hB)
  obtain ⟨b1, b2, b3, b4⟩ := two_blocks2 w (rowZ .u32 8 (fun j => (dgW A j : Int))) (rowZ .u32 8 (fun j => (dgW B j : Int))) 136 136
  have W1 := hidD b1
  have W2 := hidD b2
  have W3 := hidD b3
  clear b1 b2 b3 b4 hA hB
  unfold wdR
  obtain ⟨D, hD⟩ : ∃ D : Bool, decide (B < A) = D := ⟨_, rfl⟩
  rw [hD]
  have HDD := hidD hD
  clear hD
  generalize hW : (w.alloc (.cells (rowZ .u32 8 (fun j => (dgW A j : Int))) (136 : TypeId))).alloc (.cells (rowZ .u32 8 (fun j => (dgW B j : Int))) (136 : TypeId)) = W at *
  have V1 : Hid (RowZ W w.heap.size .u32 8 136 (fun j => (dgW A j : Int))) := W1.out
  have V2 : Hid (RowZ W (w.heap.size + 1) .u32 8 136 (fun j => (dgW B j : Int))) := W2.out
  generalize hRA : rowZ .u32 8 (fun j => (dgW A j : Int)) = RA at *
  generalize hRB : rowZ .u32 8 (fun j => (dgW B j : Int)) = RB at *
  clear hRA hRB
  go_enter Try.func89, Try.ntmps89
  go_wp2_with fail
  clear hW W1 W2
  generalize hg : w.heap.size = g at *
  have HG := hidD hg
  clear hg
  go_loopw [5] (fun iv wr => ∃ t : Nat, t ≤ 8 ∧ iv = .int .i64 ((t : Int) - 1) ∧ eqF A B t ∧ Below W.heap.size W wr) (fun iv _ => (intOf iv + 1).toNat)
  case atStart => exact ⟨8, by omega, rfl, HTP.out, Below.refl _ _⟩
  case round =>
    clear HTP
    obtain ⟨t, ht, rfl, heq, hbel⟩ := hrel
    have HBL : Hid (∀ x : World, Below wr.heap.size wr x → Below g w x) := fun x hx => (W3.out.trans (hbel.mono (by have := V2.out.lt; omega))).trans (hx.mono (by have := V2.out.lt; have := hbel.size; omega))
    cases t with
    | zero =>
      have HF : Hid (D = false) := by show _ = _; rw [← HDD.out, eqF_zero A B heq]; simp
      have HBB := hidD (HBL.out wr (Below.refl _ _))
      clear hbel heq HBL
      have hm : ((0 : Nat) : Int) - 1 = -1 := rfl
      rw [hm]
      go_wp2_with fail
      go_ret
      exact ⟨by rw [HF.out]; rfl, by rw [HG.out]; exact HBB.out⟩
    | succ s =>
      have hsi : ((s + 1 : Nat) : Int) - 1 = (s : Int) := by omega
      rw [hsi]
      have hs8 : s < 8 := by omega
      have hsg : (0 : Int) ≤ (s : Int) := by omega
      have ca : ∀ x : BW wr, x.v.cell? ⟨g, s, none⟩ = some (.int .u32 (dgW A s : Int)) := fun x => (V1.out.next (Below.next hbel x.below)).cell hs8
      have cb : ∀ x : BW wr, x.v.cell? ⟨g + 1, s, none⟩ = some (.int .u32 (dgW B s : Int)) := fun x => (V2.out.next (Below.next hbel x.below)).cell hs8
      have CA : Hid (∀ x : World, Below wr.heap.size wr x → x.cell? ⟨g, s, none⟩ = some (.int .u32 (dgW A s : Int))) := fun x hx => (V1.out.next (Below.next hbel hx)).cell hs8
      have CB : Hid (∀ x : World, Below wr.heap.size wr x → x.cell? ⟨g + 1, s, none⟩ = some (.int .u32 (dgW B s : Int))) := fun x hx => (V2.out.next (Below.next hbel hx)).cell hs8
      have la := dgW_lt A s
      have lb := dgW_lt B s
      have HDN := hidD (eqF_down A B s heq)
      have HNE := hidD (eqF_ne A B s heq)
      have HV := hidD (fun x : World => fun hx : Below wr.heap.size wr x => (⟨V1.out.next (Below.next hbel hx), V2.out.next (Below.next hbel hx), Below.next hbel hx⟩ : RowZ x g .u32 8 136 (fun j => (dgW A j : Int)) ∧ RowZ x (g + 1) .u32 8 136 (fun j => (dgW B j : Int)) ∧ Below W.heap.size W x))
      clear hbel heq
      by_cases hne : dgW A s = dgW B s
      · have hnb : ((dgW A s : Int) != (dgW B s : Int)) = false := by rw [hne]; simp
        have HEQ := hidD (HDN.out hne)
        clear HDN HNE hne
        generalize dgW A s = a at *
        generalize dgW B s = b at *
        go_wp2_with fail
        refine wp_region_below (by kernel_rfl) (by kernel_rfl) ?_
        repeat (go_big_quiet_step (fail))
        refine wpQuiet_nil ?_
        intro x
        have HX := hidD (HV.out _ x.below).2.2
        clear ca cb
        go_wp2_with fail
        go_roundw
        case rel =>
          first
          | exact ⟨s, by omega, by go_num, HEQ.out, HX.out⟩
          | ((repeat apply Exists.intro); refine And.intro ?_ rfl; exact ⟨s, by omega, by go_num, HEQ.out, HX.out⟩)
        case measure => simp [intOf]
      · have hnb : ((dgW A s : Int) != (dgW B s : Int)) = true := by simp; omega
        have HF : Hid (D = decide (dgW B s < dgW A s)) := by
          show _ = _
          rw [← HDD.out, decide_eq_decide, ← HNE.out hne]
        clear HDN HNE hne HDD
        generalize dgW A s = a at *
        generalize dgW B s = b at *
        go_wp2_with fail
        refine wp_region_below (by kernel_rfl) (by kernel_rfl) ?_
        repeat (go_big_quiet_step (fail))
        refine wpQuiet_nil ?_
        intro x
        clear ca cb
        have HXW := hidD x.below
        generalize x.v = v1 at *
        have ca : ∀ y : BW v1, y.v.cell? ⟨g, s, none⟩ = some (.int .u32 (a : Int)) := fun y => CA.out _ (Below.next HXW.out y.below)
        have cb : ∀ y : BW v1, y.v.cell? ⟨g + 1, s, none⟩ = some (.int .u32 (b : Int)) := fun y => CB.out _ (Below.next HXW.out y.below)
        have HBB := hidD (fun y : World => fun hy : Below v1.heap.size v1 y => HBL.out y (Below.next HXW.out hy))
        clear HBL
        go_wp2_with fail
        refine wp_region_below (by kernel_rfl) (by kernel_rfl) ?_
        repeat (go_big_quiet_step (fail))
        refine wpQuiet_nil ?_
        intro y
        have HYB := hidD (HBB.out _ y.below)
        clear ca cb
        go_wp2_with fail
        go_ret
        exact ⟨by rw [HF.out]; rfl, by rw [HG.out]; exact HYB.out⟩
end Go.Proofs.Ytnldpofljeodiaa
/- What shifted of the document answers. -/
namespace Go.Proofs.Ytnldpofljeodiaa
open Go.RowKit
set_option linter.unusedVariables false

theorem dg_zero (j : Nat) : dgW 0 j = 0 := by unfold dgW; rw [Nat.zero_div]; rfl
theorem and_one32 (x : Nat) (h : x < 4294967296) : bits .and .u32 (x : Int) 1 = ((x % 2 : Nat) : Int) := by
  have e := u32_and_nat x 1 h (by omega)
  rw [Nat.and_one_is_mod] at e
  exact e
theorem pow32 {r : Nat} (h : r < 32) : 2 ^ r < 4294967296 := Nat.pow_lt_pow_right (m := r) (n := 32) (by omega) h
set_option maxRecDepth 100000 in
set_option maxHeartbeats 1600000 in
theorem shifted6_any (p n : Nat) (hp : p < 4294967296) (hn : n + 32 ≤ 256) (w : World) : Calls Try.prog 87 #[.int .u32 (p : Int), .int .i64 (n : Int)] w fun e w' => e = .returned (.agg (wdR (shG p n 32))) ∧ Below w.heap.size w w' := by
  obtain ⟨hz, hsz⟩ := zero_of_info Try.zero136z
  have HSZ := hidD hsz
  obtain ⟨b1, b2, b3, b4⟩ := two_blocks w (rowZ .u32 8 (fun _ => 0)) (rowZ .u32 8 (fun _ => 0)) 136
  have W1 := hidD b1
  have W2 := hidD b2
  have W3 := hidD b3
  clear b1 b2 b3 b4 hsz
  unfold wdR
  go_enter Try.func87, Try.ntmps87
  go_wp2_with fail
  generalize hW : World.alloc _ (Obj.cells (rowZ .u32 8 (fun _ => 0)) (136 : TypeId)) = W
  have V1 : Hid (RowZ W (w.heap.size + 1) .u32 8 136 (fun j => (dgW (shG p n 0) j : Int))) := by
    have h : RowZ W (w.heap.size + 1) .u32 8 136 (fun _ => 0) := by rw [← hW]; exact W2.out
    exact h.congr fun j _ => by rw [show shG p n 0 = 0 from rfl, dg_zero]; rfl
  have V3 : Hid (RowZ W w.heap.size .u32 8 136 (fun _ => 0)) := by rw [← hW]; exact W1.out
  have V4 : Hid (Below w.heap.size w W) := by rw [← hW]; exact W3.out
  clear hW W1 W2 W3 hz
  generalize hg : w.heap.size = g at *
  have HG := hidD hg
  clear hg
  go_loopw [6] (fun iv wr => ∃ i : Nat, i ≤ 32 ∧ iv = .int .i64 (i : Int) ∧ RowZ wr (g + 1) .u32 8 136 (fun j => (dgW (shG p n i) j : Int)) ∧ RowZ wr g .u32 8 136 (fun _ => 0) ∧ Below g w wr) (fun iv _ => 32 - (intOf iv).toNat)
  case atStart => exact ⟨0, by omega, rfl, V1.out, V3.out, V4.out⟩
  case round =>
    clear V1 V3 V4
    obtain ⟨i, hi, rfl, hr1, hr0, hbel⟩ := hrel
    by_cases hlt : i < 32
    · have hlti : (i : Int) < 32 := by omega
      have hdv : (p : Int) / 2 ^ i = ((p / 2 ^ i : Nat) : Int) := by simp
      have hpl : p / 2 ^ i < 4294967296 := Nat.lt_of_le_of_lt (Nat.div_le_self _ _) hp
      have han := and_one32 (p / 2 ^ i) hpl
      have HS : Hid (shG p n (i + 1) = if p / 2 ^ i % 2 = 1 then shG p n i ||| 2 ^ (n + i) else shG p n i) := rfl
      have HR1 := hidD hr1
      have HR0 := hidD hr0
      have HBL := hidD hbel
      by_cases hb : p / 2 ^ i % 2 = 1
      · have hbi : (((p / 2 ^ i % 2 : Nat) : Int) == 1) = true := by rw [hb]; rfl
        have HSN : Hid (shG p n (i + 1) = shG p n i ||| 2 ^ (n + i)) := by show _ = _; rw [HS.out, if_pos hb]
        clear hb HS
        generalize p / 2 ^ i % 2 = pb at *
        generalize p / 2 ^ i = pd at *
        obtain ⟨m, hm⟩ : ∃ m : Nat, n + i = m := ⟨_, rfl⟩
        have hmi : (n : Int) + (i : Int) = (m : Int) := by omega
        rw [hm] at HSN
        have hm256 : m < 256 := by omega
        clear hm
        have hq1 : (m : Int).tdiv 32 = ((m / 32 : Nat) : Int) := by rw [Int.tdiv_eq_ediv_of_nonneg (by omega)]; omega
        have hr1' : (m : Int).tmod 32 = ((m % 32 : Nat) : Int) := by rw [Int.tmod_eq_emod_of_nonneg (by omega)]; omega
        have hq8 : m / 32 < 8 := by omega
        have hrl : m % 32 < 32 := by omega
        have hT := pow32 hrl
        have hsh : IntKind.u32.wrap ((2 : Int) ^ (m % 32)) = ((2 ^ (m % 32) : Nat) : Int) := by
          rw [show (2 : Int) ^ (m % 32) = ((2 ^ (m % 32) : Nat) : Int) by simp, IntKind.wrap_u32]
          generalize 2 ^ (m % 32) = T at hT
          omega
        have hor := u32_or_nat (dgW (shG p n i) (m / 32)) (2 ^ (m % 32)) (dgW_lt _ _) hT
        have HST : Hid (∀ v : Int, v = ((dgW (shG p n i) (m / 32) ||| 2 ^ (m % 32) : Nat) : Int) → RowZ (wr.setCell ⟨g + 1, m / 32, none⟩ (.int .u32 v)) (g + 1) .u32 8 136 (fun j => (dgW (shG p n (i + 1)) j : Int))) := fun v hv => (hr1.set (k := m / 32) hq8 _).congr fun j hj => by
          rw [HSN.out, dg_or, hv]
          by_cases h : j = m / 32
          · rw [if_pos h, if_pos h, h]
          · rw [if_neg h, if_neg h]
        have hct := hr1.cell hq8
        have hft := hr1.frozen (m / 32)
        clear hr1 hr0 hbel HSN
        have hdl := dgW_lt (shG p n i) (m / 32)
        generalize hO : dgW (shG p n i) (m / 32) ||| 2 ^ (m % 32) = O at *
        clear hO
        generalize dgW (shG p n i) (m / 32) = X at *
        generalize hTT : 2 ^ (m % 32) = T at *
        generalize m / 32 = Q at *
        generalize m % 32 = R at *
        go_wp2_with fail
        go_roundw
        case rel =>
          first
          | exact ⟨i + 1, by omega, by go_num, HST.out _ (by simp), HR0.out.other (by omega) _ _, below_setCell HBL.out (by omega) _ _⟩
          | ((repeat apply Exists.intro); refine And.intro ?_ rfl; exact ⟨i + 1, by omega, by go_num, HST.out _ (by simp), HR0.out.other (by omega) _ _, below_setCell HBL.out (by omega) _ _⟩)
        case measure => simp [intOf]; omega
      · have hbi : (((p / 2 ^ i % 2 : Nat) : Int) == 1) = false := by simp; omega
        have HSN : Hid (shG p n (i + 1) = shG p n i) := by show _ = _; rw [HS.out, if_neg hb]
        clear hb HS hr1 hr0 hbel
        generalize p / 2 ^ i % 2 = pb at *
        generalize p / 2 ^ i = pd at *
        go_wp2_with fail
        go_roundw
        case rel =>
          first
          | exact ⟨i + 1, by omega, by go_num, by rw [HSN.out]; exact HR1.out, HR0.out, HBL.out⟩
          | ((repeat apply Exists.intro); refine And.intro ?_ rfl; exact ⟨i + 1, by omega, by go_num, by rw [HSN.out]; exact HR1.out, HR0.out, HBL.out⟩)
        case measure => simp [intOf]; omega
    · obtain rfl : i = 32 := by omega
      have HL : Hid (wr.heap[g + 1]? = some (.cells (rowZ .u32 8 (fun j => (dgW (shG p n 32) j : Int))) (136 : TypeId) (0, 0))) := hr1
      have HO : Hid (wr.heap[g]? = some (.cells (rowZ .u32 8 (fun _ => 0)) (136 : TypeId) (0, 0))) := hr0
      have HBL := hidD hbel
      have HONE : Hid ((rowZ .u32 8 (fun j => (dgW (shG p n 32) j : Int))).all (·.oneCell') = true) := rowZ_one _ _ _
      have h4 : (rowZ .u32 8 (fun j => (dgW (shG p n 32) j : Int))).size = 8 := rowZ_size _ _ _
      have h0 : (rowZ .u32 8 (fun _ => 0)).size = 8 := rowZ_size _ _ _
      clear hr1 hr0 hbel
      generalize hC : rowZ .u32 8 (fun j => (dgW (shG p n 32) j : Int)) = C at *
      have HCE := hidD hC
      clear hC
      generalize rowZ .u32 8 (fun _ => 0) = C0 at *
      have hi : Hid ((Try.prog.info? 136).map (·.size) = some C.size) := by show _ = _; rw [HSZ.out, h4]
      have HSS : Hid (C0.size = C.size) := by show _ = _; rw [h0, h4]
      clear h0 h4
      go_wp2_with (first | (refine wpList_load_row rfl 136 _ rfl (g + 1) rfl 136 C (0, 0) _ HL.out Try.underlying136 rfl hi.out ?_) | (refine wpList_store_row rfl 136 _ _ rfl g C rfl rfl 136 C0 HO.out hi.out HSS.out HONE.out ?_))
      refine bodyPost_ret (results_cell_row (P := Try.prog) (p := 4) (ty := 136) (by kernel_rfl) _ _ g 136 C (0, 0) _ rfl (setRow_heap _ _ C0 C 136 (0, 0) HO.out) Try.underlying136 rfl hi.out) rfl ?_
      refine ⟨by rw [HCE.out], ?_⟩
      have hfin : Below g w (wr.setRow g C) := below_setRow HBL.out (Nat.le_refl _) _
      rw [HG.out]; exact hfin
end Go.Proofs.Ytnldpofljeodiaa
