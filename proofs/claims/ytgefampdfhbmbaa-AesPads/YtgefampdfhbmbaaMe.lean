/- Texts of one proof, one behind the other. -/
import Derived.Test.YtgefampdfhbmbaaMd
import Derived.Deep.RegionHeldLaw
import Derived.Laws.Pointers
/- Plain: AES: the words of a key, a block there and back. -/
namespace Go.Proofs.Ytgefampdfhbmbaa
set_option linter.unusedVariables false

/- the words of a key of n words: byte k of word i; after m further words -/
def nwS (n : Nat) (T : Nat → Nat → UInt8) (i k : Nat) : UInt8 :=
  (if i % n = 0 then subS (T (i - 1) ((k + 1) % 4)) ^^^ (if k = 0 then UInt8.ofNat (rndS ((i / n : Nat) : Int)) else 0) else if n = 8 ∧ i % 8 = 4 then subS (T (i - 1) k) else T (i - 1) k) ^^^ T (i - n) k
def wkTo (n : Nat) (key : Nat → UInt8) : Nat → Nat → Nat → UInt8
  | 0 => fun i k => key (4 * i + k)
  | m + 1 => fun i k => if i = n + m then nwS n (wkTo n key m) i k else wkTo n key m i k
def wkS (n : Nat) (key : Nat → UInt8) : Nat → Nat → UInt8 := wkTo n key (3 * n + 28)
def rkS (n : Nat) (key : Nat → UInt8) (r j : Nat) : UInt8 := wkS n key (4 * r + j / 4) (j % 4)
/- blocks -/
def Same16 (a b : Nat → UInt8) : Prop := ∀ i, i < 16 → a i = b i
theorem Same16.rfl' (a : Nat → UInt8) : Same16 a a := fun _ _ => rfl
theorem Same16.trans {a b c : Nat → UInt8} (h : Same16 a b) (k : Same16 b c) : Same16 a c := fun i hi => (h i hi).trans (k i hi)
theorem Same16.symm {a b : Nat → UInt8} (h : Same16 a b) : Same16 b a := fun i hi => (h i hi).symm
def xoB (a b : Nat → UInt8) (i : Nat) : UInt8 := a i ^^^ b i
def sbB (b : Nat → UInt8) (i : Nat) : UInt8 := subS (b i)
def ubB (b : Nat → UInt8) (i : Nat) : UInt8 := UInt8.ofNat (unsS (b i))
def shB (b : Nat → UInt8) (i : Nat) : UInt8 := b (4 * ((i / 4 + i % 4) % 4) + i % 4)
def usB (b : Nat → UInt8) (i : Nat) : UInt8 := b (4 * ((i / 4 + 4 - i % 4) % 4) + i % 4)
def mcB (m : Nat → UInt8) (b : Nat → UInt8) (i : Nat) : UInt8 := mixS (fun k => b (4 * (i / 4) + k)) m (i % 4)
theorem xo_same {a b c d : Nat → UInt8} (h : Same16 a b) (k : Same16 c d) : Same16 (xoB a c) (xoB b d) := fun i hi => by unfold xoB; rw [h i hi, k i hi]
theorem sb_same {a b : Nat → UInt8} (h : Same16 a b) : Same16 (sbB a) (sbB b) := fun i hi => by unfold sbB; rw [h i hi]
theorem ub_same {a b : Nat → UInt8} (h : Same16 a b) : Same16 (ubB a) (ubB b) := fun i hi => by unfold ubB; rw [h i hi]
theorem sh_same {a b : Nat → UInt8} (h : Same16 a b) : Same16 (shB a) (shB b) := fun i hi => h _ (by omega)
theorem us_same {a b : Nat → UInt8} (h : Same16 a b) : Same16 (usB a) (usB b) := fun i hi => h _ (by omega)
theorem mixTo_congr {c d m : Nat → UInt8} (h : ∀ k, k < 4 → c k = d k) (i : Nat) : ∀ k, mixTo c m i k = mixTo d m i k
  | 0 => rfl
  | k + 1 => by rw [mixTo, mixTo, mixTo_congr h i k, h _ (Nat.mod_lt _ (by omega))]
theorem mc_same {m a b : Nat → UInt8} (h : Same16 a b) : Same16 (mcB m a) (mcB m b) := fun i hi => mixTo_congr (fun k hk => h _ (by omega)) _ 4
theorem xo_xo (a k : Nat → UInt8) : xoB (xoB a k) k = a := by
  funext i
  unfold xoB
  rw [UInt8.xor_assoc, UInt8.xor_self, UInt8.xor_zero]
def shI (i : Nat) : Nat := 4 * ((i / 4 + i % 4) % 4) + i % 4
def usI (i : Nat) : Nat := 4 * ((i / 4 + 4 - i % 4) % 4) + i % 4
theorem sh_us_at : ∀ i, i < 16 → shI (usI i) = i ∧ usI (shI i) = i := by decide
theorem us_sh (b : Nat → UInt8) : Same16 (usB (shB b)) b := fun i hi => congrArg b (sh_us_at i hi).1
theorem sh_us (b : Nat → UInt8) : Same16 (shB (usB b)) b := fun i hi => congrArg b (sh_us_at i hi).2
theorem ub_sb (b : Nat → UInt8) : ubB (sbB b) = b := by
  funext i
  unfold ubB sbB unsS
  rw [sub_sb, (us_sb (b i).toNat_lt).1, UInt8.ofNat_toNat]
theorem sb_ub (b : Nat → UInt8) : sbB (ubB b) = b := by
  funext i
  unfold ubB sbB unsS
  have h := us_sb (b i).toNat_lt
  apply UInt8.toNat.inj
  rw [sub_sb, u8_nat h.2.2.1, h.2.1]
theorem mix4 {c : Nat → UInt8} {m u : Nat → UInt8} (h : mixS (mixS c m) u 0 = c 0 ∧ mixS (mixS c m) u 1 = c 1 ∧ mixS (mixS c m) u 2 = c 2 ∧ mixS (mixS c m) u 3 = c 3) {i : Nat} (hi : i < 4) : mixS (mixS c m) u i = c i := by
  obtain ⟨h0, h1, h2, h3⟩ := h
  rcases (show i = 0 ∨ i = 1 ∨ i = 2 ∨ i = 3 by omega) with h | h | h | h <;> rw [h] <;> assumption
theorem mc_mc {m u : Nat → UInt8} (h : ∀ c : Nat → UInt8, mixS (mixS c m) u 0 = c 0 ∧ mixS (mixS c m) u 1 = c 1 ∧ mixS (mixS c m) u 2 = c 2 ∧ mixS (mixS c m) u 3 = c 3) (b : Nat → UInt8) : Same16 (mcB u (mcB m b)) b := fun i hi => by
  have e : mcB u (mcB m b) i = mixS (mixS (fun k => b (4 * (i / 4) + k)) m) u (i % 4) := by
    unfold mcB
    refine mixTo_congr (fun k hk => ?_) _ 4
    have h1 : (4 * (i / 4) + k) / 4 = i / 4 := by omega
    have h2 : (4 * (i / 4) + k) % 4 = k := by omega
    rw [h1, h2]
  rw [e, mix4 (h _) (Nat.mod_lt _ (by omega))]
  show b (4 * (i / 4) + i % 4) = b i
  congr 1; omega
/- rounds -/
def midB (R r : Nat) (s : Nat → UInt8) : Nat → UInt8 := if r < R then mcB mixM s else s
def udB (R r : Nat) (s : Nat → UInt8) : Nat → UInt8 := if r < R then mcB unmM s else s
def rdE (R : Nat) (rk : Nat → Nat → UInt8) (s : Nat → UInt8) (r : Nat) : Nat → UInt8 := xoB (midB R r (shB (sbB s))) (rk r)
def rdD (R : Nat) (rk : Nat → Nat → UInt8) (s : Nat → UInt8) (r : Nat) : Nat → UInt8 := ubB (usB (udB R r (xoB s (rk r))))
theorem mid_same {R r : Nat} {a b : Nat → UInt8} (h : Same16 a b) : Same16 (midB R r a) (midB R r b) := by unfold midB; split; exact mc_same h; exact h
theorem ud_same {R r : Nat} {a b : Nat → UInt8} (h : Same16 a b) : Same16 (udB R r a) (udB R r b) := by unfold udB; split; exact mc_same h; exact h
theorem rdE_same {R r : Nat} {rk : Nat → Nat → UInt8} {a b : Nat → UInt8} (h : Same16 a b) : Same16 (rdE R rk a r) (rdE R rk b r) := xo_same (mid_same (sh_same (sb_same h))) (Same16.rfl' _)
theorem rdD_same {R r : Nat} {rk : Nat → Nat → UInt8} {a b : Nat → UInt8} (h : Same16 a b) : Same16 (rdD R rk a r) (rdD R rk b r) := ub_same (us_same (ud_same (xo_same h (Same16.rfl' _))))
theorem ud_mid (R r : Nat) (s : Nat → UInt8) : Same16 (udB R r (midB R r s)) s := by
  unfold udB midB
  split
  · exact mc_mc unmix_mix s
  · exact Same16.rfl' _
theorem mid_ud (R r : Nat) (s : Nat → UInt8) : Same16 (midB R r (udB R r s)) s := by
  unfold udB midB
  split
  · exact mc_mc mix_unmix s
  · exact Same16.rfl' _
theorem rdD_rdE (R : Nat) (rk : Nat → Nat → UInt8) (s : Nat → UInt8) (r : Nat) : Same16 (rdD R rk (rdE R rk s r) r) s := by
  unfold rdD rdE
  rw [xo_xo]
  have h := ub_same (us_same (ud_mid R r (shB (sbB s))))
  refine h.trans ?_
  have h2 := ub_same (us_sh (sbB s))
  rw [ub_sb] at h2
  exact h2
theorem rdE_rdD (R : Nat) (rk : Nat → Nat → UInt8) (s : Nat → UInt8) (r : Nat) : Same16 (rdE R rk (rdD R rk s r) r) s := by
  unfold rdD rdE
  rw [sb_ub]
  have h := xo_same (mid_same (R := R) (r := r) (sh_us (udB R r (xoB s (rk r))))) (Same16.rfl' (rk r))
  refine h.trans ?_
  have h2 := xo_same (mid_ud R r (xoB s (rk r))) (Same16.rfl' (rk r))
  rw [xo_xo] at h2
  exact h2
def enTo (R : Nat) (rk : Nat → Nat → UInt8) (b : Nat → UInt8) : Nat → Nat → UInt8
  | 0 => xoB b (rk 0)
  | r + 1 => rdE R rk (enTo R rk b r) (r + 1)
def enS (R : Nat) (rk : Nat → Nat → UInt8) (b : Nat → UInt8) : Nat → UInt8 := enTo R rk b R
def deTo (R : Nat) (rk : Nat → Nat → UInt8) (b : Nat → UInt8) : Nat → Nat → UInt8
  | 0 => b
  | m + 1 => rdD R rk (deTo R rk b m) (R - m)
def deS (R : Nat) (rk : Nat → Nat → UInt8) (b : Nat → UInt8) : Nat → UInt8 := xoB (deTo R rk b R) (rk 0)
theorem en_same {R : Nat} {rk : Nat → Nat → UInt8} {a b : Nat → UInt8} (h : Same16 a b) : ∀ r, Same16 (enTo R rk a r) (enTo R rk b r)
  | 0 => xo_same h (Same16.rfl' _)
  | r + 1 => rdE_same (en_same h r)
theorem de_same {R : Nat} {rk : Nat → Nat → UInt8} {a b : Nat → UInt8} (h : Same16 a b) : ∀ m, Same16 (deTo R rk a m) (deTo R rk b m)
  | 0 => h
  | m + 1 => rdD_same (de_same h m)
theorem de_en_at (R : Nat) (rk : Nat → Nat → UInt8) (b : Nat → UInt8) : ∀ m, m ≤ R → Same16 (deTo R rk (enS R rk b) m) (enTo R rk b (R - m))
  | 0, _ => Same16.rfl' _
  | m + 1, hm => by
    have h := rdD_same (R := R) (r := R - m) (rk := rk) (de_en_at R rk b m (by omega))
    refine h.trans ?_
    rw [show R - m = (R - (m + 1)) + 1 by omega]
    exact rdD_rdE R rk _ _
theorem de_en (R : Nat) (rk : Nat → Nat → UInt8) (b : Nat → UInt8) : Same16 (deS R rk (enS R rk b)) b := by
  have h := xo_same (de_en_at R rk b R (Nat.le_refl _)) (Same16.rfl' (rk 0))
  rw [Nat.sub_self] at h
  refine h.trans ?_
  show Same16 (xoB (xoB b (rk 0)) (rk 0)) b
  rw [xo_xo]; exact Same16.rfl' _
theorem en_de_at (R : Nat) (rk : Nat → Nat → UInt8) (b : Nat → UInt8) : ∀ r, r ≤ R → Same16 (enTo R rk (deS R rk b) r) (deTo R rk b (R - r))
  | 0, _ => by
    show Same16 (xoB (xoB (deTo R rk b R) (rk 0)) (rk 0)) _
    rw [xo_xo]; exact Same16.rfl' _
  | r + 1, hr => by
    have h := rdE_same (R := R) (r := r + 1) (rk := rk) (en_de_at R rk b r (by omega))
    refine h.trans ?_
    have e : R - r = (R - (r + 1)) + 1 := by omega
    rw [e, deTo]
    rw [show R - (R - (r + 1)) = r + 1 by omega]
    exact rdE_rdD R rk _ _
theorem en_de (R : Nat) (rk : Nat → Nat → UInt8) (b : Nat → UInt8) : Same16 (enS R rk (deS R rk b)) b := by
  have h := en_de_at R rk b R (Nat.le_refl _)
  rw [Nat.sub_self] at h
  exact h
theorem en_one {R : Nat} {rk : Nat → Nat → UInt8} {a b : Nat → UInt8} (h : Same16 (enS R rk a) (enS R rk b)) : Same16 a b := by
  have h1 := xo_same (de_same (R := R) (rk := rk) h R) (Same16.rfl' (rk 0))
  exact (de_en R rk a).symm.trans (Same16.trans h1 (de_en R rk b))
end Go.Proofs.Ytgefampdfhbmbaa
/- Plain: AES: blocks as lists, counters, chains, pads. -/
namespace Go.Proofs.Ytgefampdfhbmbaa
set_option linter.unusedVariables false

def blk (l : List UInt8) (i : Nat) : UInt8 := l.getD i 0
def toL (b : Nat → UInt8) : List UInt8 := (List.range 16).map b
theorem toL_len (b : Nat → UInt8) : (toL b).length = 16 := by simp [toL]
theorem blk_toL {b : Nat → UInt8} {i : Nat} (hi : i < 16) : blk (toL b) i = b i := by
  unfold blk toL
  rw [List.getD_eq_getElem?_getD, List.getElem?_map, List.getElem?_range hi]; rfl
theorem blk_same (b : Nat → UInt8) : Same16 (blk (toL b)) b := fun i hi => blk_toL hi
theorem toL_congr {a b : Nat → UInt8} (h : Same16 a b) : toL a = toL b := List.map_congr_left fun i hi => h i (by simpa using hi)
theorem toL_blk {l : List UInt8} (h : l.length = 16) : toL (blk l) = l := by
  apply List.ext_getElem?
  intro i
  unfold toL
  rw [List.getElem?_map]
  by_cases hi : i < 16
  · rw [List.getElem?_range hi]
    show some (blk l i) = l[i]?
    unfold blk
    rw [List.getD_eq_getElem?_getD, List.getElem?_eq_getElem (by omega)]; rfl
  · rw [List.getElem?_eq_none (by simp; omega), List.getElem?_eq_none (by omega)]; rfl
theorem toL_inj {a b : Nat → UInt8} (h : toL a = toL b) : Same16 a b := fun i hi => by rw [← blk_toL (b := a) hi, h, blk_toL hi]
/- counters -/
def putB (b : Nat → UInt8) (j : Nat) (v : UInt8) (i : Nat) : UInt8 := if i = j then v else b i
def incTo : Nat → (Nat → UInt8) → Nat → UInt8
  | 0, b => b
  | j + 1, b => if b j + 1 ≠ 0 then putB b j (b j + 1) else incTo j (putB b j (b j + 1))
def incS (b : Nat → UInt8) : Nat → UInt8 := incTo 16 b
def ctrS (start : Nat → UInt8) : Nat → Nat → UInt8
  | 0 => start
  | i + 1 => incS (ctrS start i)
def ksS (E : (Nat → UInt8) → Nat → UInt8) (start : Nat → UInt8) (j : Nat) : UInt8 := E (ctrS start (j / 16)) (j % 16)
def cntS (E : (Nat → UInt8) → Nat → UInt8) (start : Nat → UInt8) (l : List UInt8) : List UInt8 := (List.range l.length).map fun j => l.getD j 0 ^^^ ksS E start j
theorem cnt_len (E : (Nat → UInt8) → Nat → UInt8) (start : Nat → UInt8) (l : List UInt8) : (cntS E start l).length = l.length := by simp [cntS]
theorem map_at {f : Nat → UInt8} {n j : Nat} (h : j < n) : ((List.range n).map f).getD j 0 = f j := by
  rw [List.getD_eq_getElem?_getD, List.getElem?_map, List.getElem?_range h]; rfl
theorem list_eq {l : List UInt8} {f : Nat → UInt8} {n : Nat} (hn : l.length = n) (h : ∀ j, j < n → f j = l.getD j 0) : (List.range n).map f = l := by
  apply List.ext_getElem?
  intro i
  rw [List.getElem?_map]
  by_cases hi : i < n
  · rw [List.getElem?_range hi]
    show some (f i) = l[i]?
    rw [h i hi, List.getD_eq_getElem?_getD, List.getElem?_eq_getElem (by omega)]; rfl
  · rw [List.getElem?_eq_none (by simp; omega), List.getElem?_eq_none (by omega)]; rfl
theorem cnt_cnt (E : (Nat → UInt8) → Nat → UInt8) (start : Nat → UInt8) (l : List UInt8) : cntS E start (cntS E start l) = l := by
  show (List.range (cntS E start l).length).map (fun j => (cntS E start l).getD j 0 ^^^ ksS E start j) = l
  rw [cnt_len]
  refine list_eq rfl fun j hj => ?_
  unfold cntS
  rw [map_at hj, UInt8.xor_assoc, UInt8.xor_self, UInt8.xor_zero]
theorem cnt_take (E : (Nat → UInt8) → Nat → UInt8) (start : Nat → UInt8) (l : List UInt8) {n : Nat} (hn : n ≤ l.length) : cntS E start (l.take n) = (cntS E start l).take n := by
  unfold cntS
  rw [List.length_take, Nat.min_eq_left hn]
  refine list_eq (by simp; omega) fun j hj => ?_
  rw [List.getD_eq_getElem?_getD, List.getD_eq_getElem?_getD, List.getElem?_take, if_pos hj, List.getElem?_take, if_pos hj, List.getElem?_map, List.getElem?_range (by omega)]
  rw [← List.getD_eq_getElem?_getD]; rfl
/- chains -/
def bkA (d : List UInt8) (i k : Nat) : UInt8 := d.getD (16 * i + k) 0
def chTo (E : (Nat → UInt8) → Nat → UInt8) (first : Nat → UInt8) (d : List UInt8) : Nat → Nat → UInt8
  | 0 => first
  | i + 1 => E (xoB (bkA d i) (chTo E first d i))
def chS (E : (Nat → UInt8) → Nat → UInt8) (first : Nat → UInt8) (d : List UInt8) : List UInt8 := (List.range d.length).map fun j => chTo E first d (j / 16 + 1) (j % 16)
def ahA (first : Nat → UInt8) (d : List UInt8) : Nat → Nat → UInt8
  | 0 => first
  | i + 1 => bkA d i
def unchS (D : (Nat → UInt8) → Nat → UInt8) (first : Nat → UInt8) (d : List UInt8) : List UInt8 := (List.range d.length).map fun j => D (bkA d (j / 16)) (j % 16) ^^^ ahA first d (j / 16) (j % 16)
theorem ch_len (E : (Nat → UInt8) → Nat → UInt8) (first : Nat → UInt8) (d : List UInt8) : (chS E first d).length = d.length := by simp [chS]
theorem ch_bk {E : (Nat → UInt8) → Nat → UInt8} {first : Nat → UInt8} {d : List UInt8} {i : Nat} (h : 16 * i + 16 ≤ d.length) : Same16 (bkA (chS E first d) i) (chTo E first d (i + 1)) := fun k hk => by
  unfold bkA chS
  rw [map_at (by omega), show (16 * i + k) / 16 = i by omega, show (16 * i + k) % 16 = k by omega]
theorem ch_ah {E : (Nat → UInt8) → Nat → UInt8} {first : Nat → UInt8} {d : List UInt8} : ∀ {i : Nat}, 16 * i ≤ d.length → Same16 (ahA first (chS E first d) i) (chTo E first d i)
  | 0, _ => Same16.rfl' _
  | i + 1, h => ch_bk (by omega)
theorem unch_ch {E D : (Nat → UInt8) → Nat → UInt8} (hD : ∀ {a b}, Same16 a b → Same16 (D a) (D b)) (hDE : ∀ b, Same16 (D (E b)) b) (first : Nat → UInt8) (d : List UInt8) (h16 : d.length % 16 = 0) : unchS D first (chS E first d) = d := by
  unfold unchS
  rw [ch_len]
  refine list_eq rfl fun j hj => ?_
  have hk : j % 16 < 16 := Nat.mod_lt _ (by omega)
  have h1 := hD (ch_bk (E := E) (first := first) (d := d) (i := j / 16) (by omega)) (j % 16) hk
  have h2 := ch_ah (E := E) (first := first) (d := d) (i := j / 16) (by omega) (j % 16) hk
  rw [h1, h2, chTo, hDE _ (j % 16) hk]
  unfold xoB bkA
  rw [UInt8.xor_assoc, UInt8.xor_self, UInt8.xor_zero, show 16 * (j / 16) + j % 16 = j by omega]
/-- Chains are alike as long as the data are. -/
theorem ch_alike {E : (Nat → UInt8) → Nat → UInt8} (hE : ∀ {a b}, Same16 a b → Same16 (E a) (E b)) {first : Nat → UInt8} {d e : List UInt8} : ∀ {m : Nat}, (∀ i, i < m → Same16 (bkA d i) (bkA e i)) → Same16 (chTo E first d m) (chTo E first e m)
  | 0, _ => Same16.rfl' _
  | m + 1, h => hE (xo_same (h m (by omega)) (ch_alike hE fun i hi => h i (by omega)))
theorem xo_can {a b c d : Nat → UInt8} (h : Same16 (xoB a c) (xoB b d)) (hc : Same16 c d) : Same16 a b := fun i hi => by
  have := h i hi
  unfold xoB at this
  rw [hc i hi] at this
  have h2 := congrArg (· ^^^ d i) this
  simp only [UInt8.xor_assoc, UInt8.xor_self, UInt8.xor_zero] at h2
  exact h2
/-- Where a block parts, the chains part in it; and in the next one. -/
theorem ch_part {E : (Nat → UInt8) → Nat → UInt8} (hE : ∀ {a b}, Same16 a b → Same16 (E a) (E b)) (h1 : ∀ {a b}, Same16 (E a) (E b) → Same16 a b) {first : Nat → UInt8} {d e : List UInt8} {m : Nat} (h : ∀ i, i < m → Same16 (bkA d i) (bkA e i)) : Same16 (chTo E first d (m + 1)) (chTo E first e (m + 1)) ↔ Same16 (bkA d m) (bkA e m) :=
  ⟨fun hh => xo_can (h1 hh) (ch_alike hE h), fun hh => ch_alike hE fun i hi => by
    by_cases hm : i = m
    · subst hm; exact hh
    · exact h i (by omega)⟩
theorem ch_next {E : (Nat → UInt8) → Nat → UInt8} (hE : ∀ {a b}, Same16 a b → Same16 (E a) (E b)) (h1 : ∀ {a b}, Same16 (E a) (E b) → Same16 a b) {first : Nat → UInt8} {d e : List UInt8} {m : Nat} (hn : Same16 (bkA d (m + 1)) (bkA e (m + 1))) : Same16 (chTo E first d (m + 2)) (chTo E first e (m + 2)) ↔ Same16 (chTo E first d (m + 1)) (chTo E first e (m + 1)) :=
  ⟨fun hh => fun i hi => by
    have := h1 hh i hi
    unfold xoB at this
    rw [hn i hi] at this
    have h2 := congrArg (fun v => bkA e (m + 1) i ^^^ v) this
    simp only [← UInt8.xor_assoc, UInt8.xor_self, UInt8.zero_xor] at h2
    exact h2, fun hh => hE (xo_same hn hh)⟩
/- pads -/
def padN (n : Nat) : Nat := 16 - n % 16
def padS (l : List UInt8) : List UInt8 := l ++ List.replicate (padN l.length) (UInt8.ofNat (padN l.length))
theorem pad_len (l : List UInt8) : (padS l).length = l.length + padN l.length := by simp [padS]
theorem pad_whole (l : List UInt8) : (padS l).length % 16 = 0 ∧ 0 < (padS l).length := by rw [pad_len]; unfold padN; omega
def unpN (l : List UInt8) : Nat := (l.getD (l.length - 1) 0).toNat
/-- 0: these bytes are left; 91: no whole blocks; 1: they do not end so. -/
def unpE (l : List UInt8) : Nat := if l.length = 0 ∨ l.length % 16 ≠ 0 then 91 else if unpN l < 1 ∨ 16 < unpN l then 1 else if (List.range (unpN l)).all (fun i => (l.getD (l.length - unpN l + i) 0).toNat == unpN l) then 0 else 1
def unpS (l : List UInt8) : List UInt8 := if unpE l = 0 then l.take (l.length - unpN l) else []
theorem unp_pad (l : List UInt8) : unpE (padS l) = 0 ∧ unpS (padS l) = l := by
  have hw := pad_whole l
  have hl := pad_len l
  have hp : 1 ≤ padN l.length ∧ padN l.length ≤ 16 := by unfold padN; omega
  have hv : (UInt8.ofNat (padN l.length)).toNat = padN l.length := u8_nat (by omega)
  have ha : ∀ i, i < padN l.length → (padS l).getD (l.length + i) 0 = UInt8.ofNat (padN l.length) := fun i hi => by
    unfold padS
    rw [List.getD_eq_getElem?_getD, List.getElem?_append_right (by omega), show l.length + i - l.length = i by omega, List.getElem?_replicate, if_pos hi]; rfl
  have hn : unpN (padS l) = padN l.length := by
    unfold unpN
    rw [hl, show l.length + padN l.length - 1 = l.length + (padN l.length - 1) by omega, ha _ (by omega), hv]
  have he : unpE (padS l) = 0 := by
    unfold unpE
    rw [if_neg (by omega), hn, if_neg (by omega), if_pos]
    refine List.all_eq_true.2 fun i hi => ?_
    have hi : i < padN l.length := by simpa using hi
    rw [hl, show l.length + padN l.length - padN l.length + i = l.length + i by omega, ha i hi, hv]
    simp
  refine ⟨he, ?_⟩
  unfold unpS
  rw [if_pos he, hn, hl, show l.length + padN l.length - padN l.length = l.length by omega]
  unfold padS
  rw [List.take_left]
end Go.Proofs.Ytgefampdfhbmbaa
/- What the document's Shift and block answer. -/
namespace Go.Proofs.Ytgefampdfhbmbaa
open Go.RowKit
set_option linter.unusedVariables false

def bR (b : Nat → UInt8) : Array Value := rowZ .u8 16 (fun i => ((b i).toNat : Int))
theorem bR_congr {a b : Nat → UInt8} (h : Same16 a b) : bR a = bR b := rowZ_congr .u8 fun i hi => by rw [h i hi]
theorem Try.zero50 : (Try.prog.info? 50).map (fun i => (i.zero, i.size)) = some (some (.agg (rowZ .u8 16 (fun _ => 0))), 16) := by kernel_rfl
theorem three_blocks (w : World) (A B C : Array Value) (ty : TypeId) : (((w.alloc (.cells A ty)).alloc (.cells B ty)).alloc (.cells C ty)).heap[w.heap.size]? = some (.cells A ty (0, 0)) ∧ (((w.alloc (.cells A ty)).alloc (.cells B ty)).alloc (.cells C ty)).heap[w.heap.size + 1]? = some (.cells B ty (0, 0))
    ∧ (((w.alloc (.cells A ty)).alloc (.cells B ty)).alloc (.cells C ty)).heap[w.heap.size + 1 + 1]? = some (.cells C ty (0, 0)) ∧ Below w.heap.size w (((w.alloc (.cells A ty)).alloc (.cells B ty)).alloc (.cells C ty)) ∧ (((w.alloc (.cells A ty)).alloc (.cells B ty)).alloc (.cells C ty)).heap.size = w.heap.size + 3 := by
  have sz : ∀ (w : World) o, (w.alloc o).heap.size = w.heap.size + 1 := fun w o => by simp
  refine ⟨?_, ?_, ?_, ((((Below.refl _ _).alloc (Nat.le_refl _) _).alloc (by rw [sz]; omega) _).alloc (by rw [sz, sz]; omega) _), by rw [sz, sz, sz]⟩
  · rw [Below.heap_alloc _ _ _ (by rw [sz, sz]; omega), Below.heap_alloc _ _ _ (by rw [sz]; omega)]; exact heap_alloc_last _ _
  · rw [Below.heap_alloc _ _ _ (by rw [sz, sz]; omega)]
    have := heap_alloc_last (w.alloc (.cells A ty)) (.cells B ty); rw [sz] at this; exact this
  · have := heap_alloc_last ((w.alloc (.cells A ty)).alloc (.cells B ty)) (.cells C ty); rw [sz, sz] at this; exact this
set_option maxRecDepth 100000 in
set_option maxHeartbeats 800000 in
theorem refShift_any (b : Nat → UInt8) (w : World) : Calls Try.prog 36 #[.agg (bR b), .int .i64 1] w fun e w' => e = .returned (.agg (bR (shB b))) ∧ Below w.heap.size w w' := by
  obtain ⟨hz, hsz⟩ := zero_of_info Try.zero50
  have hs1 : (bR b).size = 16 := rowZ_size _ _ _
  obtain ⟨b1, b2, b3, b4, b5⟩ := three_blocks w (bR b) (rowZ .u8 16 (fun _ => 0)) (rowZ .u8 16 (fun _ => 0)) 50
  have W1 := hidD b1
  have W2 := hidD b2
  have W3 := hidD b3
  have W4 := hidD b4
  clear b1 b2 b3 b4 b5
  go_enter Try.func36, Try.ntmps36
  go_wp2_with fail
  generalize hW : World.alloc _ (Obj.cells (rowZ .u8 16 (fun _ => 0)) (50 : TypeId)) = W
  have V1 : Hid (RowZ W w.heap.size .u8 16 50 (fun i => ((b i).toNat : Int))) := by rw [← hW]; exact W1.out
  have V2 : Hid (RowZ W (w.heap.size + 1) .u8 16 50 (fun _ => 0)) := by rw [← hW]; exact W2.out
  have V3 : Hid (RowZ W (w.heap.size + 2) .u8 16 50 (fun _ => 0)) := by rw [← hW]; exact W3.out
  have V4 : Hid (Below w.heap.size w W) := by rw [← hW]; exact W4.out
  clear hW W1 W2 W3 W4
  rw [show w.heap.size + 1 + 1 = w.heap.size + 2 from rfl]
  generalize hg : w.heap.size = g at *
  have HG := hidD hg
  clear hg
  go_loopw [6] (fun i wr => ∃ k : Nat, k ≤ 16 ∧ i = .int .i64 k ∧ RowZ wr (g + 2) .u8 16 50 (fun i => ((if i < k then shB b i else 0 : UInt8).toNat : Int)) ∧ Below (g + 2) W wr) (fun i _ => 16 - (intOf i).toNat)
  case atStart => exact ⟨0, Nat.zero_le _, rfl, V3.out, Below.refl _ _⟩
  case round =>
    obtain ⟨k, hk, rfl, hrow, hbel⟩ := hrel
    have HBL := hidD hbel
    by_cases hlt : k < 16
    · have hlti : (k : Int) < 16 := by omega
      have hq : (k : Int).tdiv 4 = ((k / 4 : Nat) : Int) := by rw [Int.tdiv_eq_ediv_of_nonneg (by omega)]; omega
      have hr : (k : Int).tmod 4 = ((k % 4 : Nat) : Int) := by rw [Int.tmod_eq_emod_of_nonneg (by omega)]; omega
      have hs : (((k / 4 : Nat) : Int) + ((k % 4 : Nat) : Int) + 16).tmod 4 = (((k / 4 + k % 4) % 4 : Nat) : Int) := by rw [Int.tmod_eq_emod_of_nonneg (by omega)]; omega
      have hj : 4 * ((k / 4 + k % 4) % 4) + k % 4 < 16 := by omega
      have hca : wr.cell? ⟨g, 4 * ((k / 4 + k % 4) % 4) + k % 4, none⟩ = some (.int .u8 ((shB b k).toNat : Int)) := (V1.out.below hbel (by omega)).cell hj
      have hcc := hrow.cell hlt
      have hfr := hrow.frozen k
      have HST : Hid (RowZ (wr.setCell ⟨g + 2, k, none⟩ (.int .u8 ((shB b k).toNat : Int))) (g + 2) .u8 16 50 (fun i => ((if i < k + 1 then shB b i else 0 : UInt8).toNat : Int))) := by
        refine (hrow.set hlt _).congr fun i hi => ?_
        by_cases he : i = k
        · subst he; rw [if_pos rfl, if_pos (by omega)]
        · rw [if_neg he]
          by_cases h2 : i < k
          · rw [if_pos h2, if_pos (by omega)]
          · rw [if_neg h2, if_neg (by omega)]
      have HSB : Hid (∀ v, Below (g + 2) W (wr.setCell ⟨g + 2, k, none⟩ v)) := fun v => below_setCell hbel (Nat.le_refl _) _ v
      have hrb : k % 4 < 4 := Nat.mod_lt _ (by omega)
      have hqb : k / 4 < 4 := by omega
      have hxb : (k / 4 + k % 4) % 4 < 4 := Nat.mod_lt _ (by omega)
      generalize (shB b k).toNat = X at *
      generalize hxe : (k / 4 + k % 4) % 4 = x at *
      generalize hqe : k / 4 = q at *
      generalize hre : k % 4 = r at *
      clear hbel hrow hxe hqe hre
      go_wp2_with fail
      go_roundw
      case rel => exact ⟨k + 1, by omega, by go_num, HST.out, HSB.out _⟩
      case measure => simp [intOf]; omega
    · obtain rfl : k = 16 := by omega
      have HL : Hid (wr.heap[g + 2]? = some (.cells (bR (shB b)) (50 : TypeId) (0, 0))) := hrow.congr fun i hi => by rw [if_pos hi]
      have HO : Hid (wr.heap[g + 1]? = some (.cells (rowZ .u8 16 (fun _ => 0)) (50 : TypeId) (0, 0))) := V2.out.below hbel (by omega)
      have HONE : Hid ((bR (shB b)).all (·.oneCell') = true) := rowZ_one _ _ _
      have h4 : (bR (shB b)).size = 16 := rowZ_size _ _ _
      have h0 : (rowZ .u8 16 (fun _ => 0)).size = 16 := rowZ_size _ _ _
      have HBG : Hid (Below g w wr) := V4.out.trans (hbel.mono (by omega))
      clear hrow hbel
      generalize hC : bR (shB b) = C at *
      have HCE := hidD hC
      clear hC
      generalize rowZ .u8 16 (fun _ => 0) = C0 at *
      have hi : (Try.prog.info? 50).map (·.size) = some C.size := by rw [hsz, h4]
      go_wp2_with (first | (refine wpList_load_row rfl 50 _ rfl (g + 2) rfl 50 C (0, 0) _ HL.out Try.underlying50 rfl hi ?_) | (refine wpList_store_row rfl 50 _ _ rfl (g + 1) C rfl rfl 50 C0 HO.out hi (by rw [h0, h4]) HONE.out ?_))
      refine bodyPost_ret (results_cell_row (P := Try.prog) (p := 4) (ty := 50) (by kernel_rfl) _ _ (g + 1) 50 C (0, 0) _ rfl (setRow_heap _ _ C0 C 50 (0, 0) HO.out) Try.underlying50 rfl hi) rfl ?_
      refine ⟨by rw [HCE.out], ?_⟩
      have hfin : Below g w (wr.setRow (g + 1) C) := below_setRow HBG.out (by omega) _
      rw [HG.out]; exact hfin
set_option maxRecDepth 100000 in
set_option maxHeartbeats 800000 in
theorem refUnshift_any (b : Nat → UInt8) (w : World) : Calls Try.prog 36 #[.agg (bR b), .int .i64 (-1)] w fun e w' => e = .returned (.agg (bR (usB b))) ∧ Below w.heap.size w w' := by
  obtain ⟨hz, hsz⟩ := zero_of_info Try.zero50
  have hs1 : (bR b).size = 16 := rowZ_size _ _ _
  obtain ⟨b1, b2, b3, b4, b5⟩ := three_blocks w (bR b) (rowZ .u8 16 (fun _ => 0)) (rowZ .u8 16 (fun _ => 0)) 50
  have W1 := hidD b1
  have W2 := hidD b2
  have W3 := hidD b3
  have W4 := hidD b4
  clear b1 b2 b3 b4 b5
  go_enter Try.func36, Try.ntmps36
  go_wp2_with fail
  generalize hW : World.alloc _ (Obj.cells (rowZ .u8 16 (fun _ => 0)) (50 : TypeId)) = W
  have V1 : Hid (RowZ W w.heap.size .u8 16 50 (fun i => ((b i).toNat : Int))) := by rw [← hW]; exact W1.out
  have V2 : Hid (RowZ W (w.heap.size + 1) .u8 16 50 (fun _ => 0)) := by rw [← hW]; exact W2.out
  have V3 : Hid (RowZ W (w.heap.size + 2) .u8 16 50 (fun _ => 0)) := by rw [← hW]; exact W3.out
  have V4 : Hid (Below w.heap.size w W) := by rw [← hW]; exact W4.out
  clear hW W1 W2 W3 W4
  rw [show w.heap.size + 1 + 1 = w.heap.size + 2 from rfl]
  generalize hg : w.heap.size = g at *
  have HG := hidD hg
  clear hg
  go_loopw [6] (fun i wr => ∃ k : Nat, k ≤ 16 ∧ i = .int .i64 k ∧ RowZ wr (g + 2) .u8 16 50 (fun i => ((if i < k then usB b i else 0 : UInt8).toNat : Int)) ∧ Below (g + 2) W wr) (fun i _ => 16 - (intOf i).toNat)
  case atStart => exact ⟨0, Nat.zero_le _, rfl, V3.out, Below.refl _ _⟩
  case round =>
    obtain ⟨k, hk, rfl, hrow, hbel⟩ := hrel
    have HBL := hidD hbel
    by_cases hlt : k < 16
    · have hlti : (k : Int) < 16 := by omega
      have hq : (k : Int).tdiv 4 = ((k / 4 : Nat) : Int) := by rw [Int.tdiv_eq_ediv_of_nonneg (by omega)]; omega
      have hr : (k : Int).tmod 4 = ((k % 4 : Nat) : Int) := by rw [Int.tmod_eq_emod_of_nonneg (by omega)]; omega
      have hs : (((k / 4 : Nat) : Int) - ((k % 4 : Nat) : Int) + 16).tmod 4 = (((k / 4 + 4 - k % 4) % 4 : Nat) : Int) := by rw [Int.tmod_eq_emod_of_nonneg (by omega)]; omega
      have hs2 : (((k / 4 : Nat) : Int) + -((k % 4 : Nat) : Int) + 16) % 4 = (((k / 4 + 4 - k % 4) % 4 : Nat) : Int) := by omega
      have hj : 4 * ((k / 4 + 4 - k % 4) % 4) + k % 4 < 16 := by omega
      have hca : wr.cell? ⟨g, 4 * ((k / 4 + 4 - k % 4) % 4) + k % 4, none⟩ = some (.int .u8 ((usB b k).toNat : Int)) := (V1.out.below hbel (by omega)).cell hj
      have hcc := hrow.cell hlt
      have hfr := hrow.frozen k
      have HST : Hid (RowZ (wr.setCell ⟨g + 2, k, none⟩ (.int .u8 ((usB b k).toNat : Int))) (g + 2) .u8 16 50 (fun i => ((if i < k + 1 then usB b i else 0 : UInt8).toNat : Int))) := by
        refine (hrow.set hlt _).congr fun i hi => ?_
        by_cases he : i = k
        · subst he; rw [if_pos rfl, if_pos (by omega)]
        · rw [if_neg he]
          by_cases h2 : i < k
          · rw [if_pos h2, if_pos (by omega)]
          · rw [if_neg h2, if_neg (by omega)]
      have HSB : Hid (∀ v, Below (g + 2) W (wr.setCell ⟨g + 2, k, none⟩ v)) := fun v => below_setCell hbel (Nat.le_refl _) _ v
      have hrb : k % 4 < 4 := Nat.mod_lt _ (by omega)
      have hqb : k / 4 < 4 := by omega
      have hxb : (k / 4 + 4 - k % 4) % 4 < 4 := Nat.mod_lt _ (by omega)
      generalize (usB b k).toNat = X at *
      generalize hxe : (k / 4 + 4 - k % 4) % 4 = x at *
      generalize hqe : k / 4 = q at *
      generalize hre : k % 4 = r at *
      clear hbel hrow hxe hqe hre
      go_wp2_with fail
      go_roundw
      case rel => exact ⟨k + 1, by omega, by go_num, HST.out, HSB.out _⟩
      case measure => simp [intOf]; omega
    · obtain rfl : k = 16 := by omega
      have HL : Hid (wr.heap[g + 2]? = some (.cells (bR (usB b)) (50 : TypeId) (0, 0))) := hrow.congr fun i hi => by rw [if_pos hi]
      have HO : Hid (wr.heap[g + 1]? = some (.cells (rowZ .u8 16 (fun _ => 0)) (50 : TypeId) (0, 0))) := V2.out.below hbel (by omega)
      have HONE : Hid ((bR (usB b)).all (·.oneCell') = true) := rowZ_one _ _ _
      have h4 : (bR (usB b)).size = 16 := rowZ_size _ _ _
      have h0 : (rowZ .u8 16 (fun _ => 0)).size = 16 := rowZ_size _ _ _
      have HBG : Hid (Below g w wr) := V4.out.trans (hbel.mono (by omega))
      clear hrow hbel
      generalize hC : bR (usB b) = C at *
      have HCE := hidD hC
      clear hC
      generalize rowZ .u8 16 (fun _ => 0) = C0 at *
      have hi : (Try.prog.info? 50).map (·.size) = some C.size := by rw [hsz, h4]
      go_wp2_with (first | (refine wpList_load_row rfl 50 _ rfl (g + 2) rfl 50 C (0, 0) _ HL.out Try.underlying50 rfl hi ?_) | (refine wpList_store_row rfl 50 _ _ rfl (g + 1) C rfl rfl 50 C0 HO.out hi (by rw [h0, h4]) HONE.out ?_))
      refine bodyPost_ret (results_cell_row (P := Try.prog) (p := 4) (ty := 50) (by kernel_rfl) _ _ (g + 1) 50 C (0, 0) _ rfl (setRow_heap _ _ C0 C 50 (0, 0) HO.out) Try.underlying50 rfl hi) rfl ?_
      refine ⟨by rw [HCE.out], ?_⟩
      have hfin : Below g w (wr.setRow (g + 1) C) := below_setRow HBG.out (by omega) _
      rw [HG.out]; exact hfin
set_option maxRecDepth 100000 in
set_option maxHeartbeats 800000 in
theorem refBlock_any (l : List UInt8) (hl : l.length = 16) (v : Value) (w : World) (hv : ByAt w v l) : Calls Try.prog 45 #[v] w fun e w' => e = .returned (.agg (bR (blk l))) ∧ Below w.heap.size w w' := by
  obtain ⟨a', cap, rfl, hsh⟩ := hv.shape
  have HSH := hidD hsh
  clear hsh
  have HC : Hid (∀ k, k < 16 → ∀ wr, Below w.heap.size w wr → ∃ g o, a' = some ⟨g, o, none⟩ ∧ wr.cell? ⟨g, o + k, none⟩ = some (.int .u8 ((blk l k).toNat : Int))) := fun k hk wr hb => by
    obtain ⟨g, o, h1, h2, h3⟩ := HSH.out k (by omega)
    exact ⟨g, o, h1, (hb.cell (p := ⟨g, o + k, none⟩) h2).trans h3⟩
  clear HSH
  rw [hl] at *
  obtain ⟨hz, hsz⟩ := zero_of_info Try.zero50
  obtain ⟨b1, b2, b3, b4⟩ := two_blocks w (rowZ .u8 16 (fun _ => 0)) (rowZ .u8 16 (fun _ => 0)) 50
  have W1 := hidD b1
  have W2 := hidD b2
  have W3 := hidD b3
  clear b1 b2 b3 b4 hv hl
  go_enter Try.func45, Try.ntmps45
  go_wp2_with fail
  generalize hW : World.alloc _ (Obj.cells (rowZ .u8 16 (fun _ => 0)) (50 : TypeId)) = W
  have V1 : Hid (RowZ W w.heap.size .u8 16 50 (fun _ => 0)) := by rw [← hW]; exact W1.out
  have V2 : Hid (RowZ W (w.heap.size + 1) .u8 16 50 (fun _ => 0)) := by rw [← hW]; exact W2.out
  have V3 : Hid (Below w.heap.size w W) := by rw [← hW]; exact W3.out
  clear hW W1 W2 W3
  generalize hg : w.heap.size = g at *
  have HG := hidD hg
  clear hg
  go_loopw [4] (fun i wr => ∃ k : Nat, k ≤ 16 ∧ i = .int .i64 k ∧ RowZ wr (g + 1) .u8 16 50 (fun i => ((if i < k then blk l i else 0 : UInt8).toNat : Int)) ∧ Below (g + 1) W wr) (fun i _ => 16 - (intOf i).toNat)
  case atStart => exact ⟨0, Nat.zero_le _, rfl, V2.out, Below.refl _ _⟩
  case round =>
    obtain ⟨k, hk, rfl, hrow, hbel⟩ := hrel
    have HBL := hidD hbel
    have hbg : Below g w wr := V3.out.trans (hbel.mono (by omega))
    by_cases hlt : k < 16
    · have hlti : (k : Int) < 16 := by omega
      obtain ⟨g', o, rfl, hc1⟩ := HC.out k hlt wr hbg
      have hcc := hrow.cell hlt
      have hfr := hrow.frozen k
      have HST : Hid (RowZ (wr.setCell ⟨g + 1, k, none⟩ (.int .u8 ((blk l k).toNat : Int))) (g + 1) .u8 16 50 (fun i => ((if i < k + 1 then blk l i else 0 : UInt8).toNat : Int))) := by
        refine (hrow.set hlt _).congr fun i hi => ?_
        by_cases he : i = k
        · subst he; rw [if_pos rfl, if_pos (by omega)]
        · rw [if_neg he]
          by_cases h2 : i < k
          · rw [if_pos h2, if_pos (by omega)]
          · rw [if_neg h2, if_neg (by omega)]
      have HSB : Hid (∀ v, Below (g + 1) W (wr.setCell ⟨g + 1, k, none⟩ v)) := fun v => below_setCell hbel (Nat.le_refl _) _ v
      generalize ((blk l k).toNat : Int) = X at *
      clear hbel hrow hbg
      go_wp2_with fail
      go_roundw
      case rel => exact ⟨k + 1, by omega, by go_num, HST.out, HSB.out _⟩
      case measure => simp [intOf]; omega
    · obtain rfl : k = 16 := by omega
      have HL : Hid (wr.heap[g + 1]? = some (.cells (bR (blk l)) (50 : TypeId) (0, 0))) := hrow.congr fun i hi => by rw [if_pos hi]
      have HO : Hid (wr.heap[g]? = some (.cells (rowZ .u8 16 (fun _ => 0)) (50 : TypeId) (0, 0))) := V1.out.below hbel (by omega)
      have HONE : Hid ((bR (blk l)).all (·.oneCell') = true) := rowZ_one _ _ _
      have h4 : (bR (blk l)).size = 16 := rowZ_size _ _ _
      have h0 : (rowZ .u8 16 (fun _ => 0)).size = 16 := rowZ_size _ _ _
      have HBG := hidD hbg
      clear hrow hbel hbg
      generalize hC : bR (blk l) = C at *
      have HCE := hidD hC
      clear hC
      generalize rowZ .u8 16 (fun _ => 0) = C0 at *
      have hi : (Try.prog.info? 50).map (·.size) = some C.size := by rw [hsz, h4]
      go_wp2_with (first | (refine wpList_load_row rfl 50 _ rfl (g + 1) rfl 50 C (0, 0) _ HL.out Try.underlying50 rfl hi ?_) | (refine wpList_store_row rfl 50 _ _ rfl g C rfl rfl 50 C0 HO.out hi (by rw [h0, h4]) HONE.out ?_))
      refine bodyPost_ret (results_cell_row (P := Try.prog) (p := 2) (ty := 50) (by kernel_rfl) _ _ g 50 C (0, 0) _ rfl (setRow_heap _ _ C0 C 50 (0, 0) HO.out) Try.underlying50 rfl hi) rfl ?_
      refine ⟨by rw [HCE.out], ?_⟩
      have hfin : Below g w (wr.setRow g C) := below_setRow HBG.out (Nat.le_refl _) _
      rw [HG.out]; exact hfin
end Go.Proofs.Ytgefampdfhbmbaa
/- Bytes that are put into an empty slice, as many as memory bears. -/
namespace Go.Proofs.Ytgefampdfhbmbaa
open Go.RowKit
set_option linter.unusedVariables false

theorem sl_of_own {w : World} {base : Nat} {v : Value} {l : List UInt8} (h : w.ownsRow base 5 1 v l.length (l.map encB)) : SlAt w v l := by
  refine ⟨?_, row_by h⟩
  rcases h.2 with ⟨rfl, h0⟩ | ⟨g, cap, cur, rfl, hb, hg, hnc, hcm, _⟩
  · exact ⟨none, 0, by rw [h0], by omega, by omega⟩
  · exact ⟨_, cap, rfl, hnc, by unfold maxLen at hcm; omega⟩
theorem next_zero (m : Nat) (h : 0 < m) : Builtin.nextslicecap m 0 = m := by
  unfold Builtin.nextslicecap
  rw [if_pos (by omega)]
/-- Bytes that are put into an empty slice with no room. -/
theorem wpList_append_first {ops : Array Oper} {rest : List Oper} {o : Oper} {a : Act} {Q : Exit → Act → World → Prop} {w : World} (hgd : o.guard = none) (s x : Operand)
    (ho : o.op = .call { callee := .builtin .append, args := #[s, x], argTypes := #[22, 22] }) (b : Addr) (hs : a.eval s = .slice (some b) 0 0) (sl : Value) (bs : List UInt8) (hx : a.eval x = sl) (hsrc : ByAt w sl bs) (hpos : 0 < bs.length) (hl : bs.length ≤ 281474976710656)
    (h : ∀ v' w', SlAt w' v' bs → Below w.heap.size w w' → wpList Try.prog ops Q rest (a.put o.dst v') w') : wpList Try.prog ops Q (o :: rest) a w := by
  obtain ⟨i0, hi, hz0, hz1, hz2⟩ := info_parts Try.info5
  rcases hsrc with ⟨rfl, _⟩ | ⟨g, off, cap, rfl, hg, hc⟩
  · simp at hpos
  · have hr := run_append_grow (P := Try.prog) w 22 o.type 5 i0 (.int .u8 0) Try.underlying22 hi hz0 b 0 0 [] (by simp) (fun j v hv => by simp at hv) ⟨g, off, none⟩ bs.length cap (bs.map encB) (by rw [hz1]; simp) (fun j u hu => by
      rw [List.getElem?_map] at hu
      cases hj : bs[j]? with
      | none => rw [hj] at hu; cases hu
      | some y =>
        rw [hj] at hu
        have hlt := (List.getElem?_eq_some_iff.1 hj).1
        rw [Go.WideShapes.add_plain, hc j hlt, List.getD_eq_getElem?_getD, hj]
        exact hu) (by omega) (by omega) (by rw [Nat.zero_add, next_zero _ hpos, hz2]; omega)
    rw [Nat.zero_add] at hr
    have hge := grownCap_ge w bs.length 0 5
    have hle := grownCap_le_maxLen w bs.length 0 5 (by unfold maxLen; omega)
    refine wpList_plain hgd fun K hK => ?_
    unfold Oper.wp execOp
    simp only [ho, resolve, invoke, builtin, Sem.run_bind, Sem.run_pure, Result.andThen_ok, List.map_toArray, List.map_cons, List.map_nil, hs, hx, hr]
    refine hK _ _ (h _ _ ⟨⟨_, _, rfl, hge, by unfold maxLen at hle; omega⟩, .inr ⟨w.heap.size, 0, _, rfl, by simp, fun j hj => ?_⟩⟩ (((Below.refl w.heap.size w).drew).alloc (Nat.le_refl _) _))
    have e : (w.drew.alloc (.cells (#[] ++ (bs.map encB).toArray ++ Builtin.zeroCells (Value.int .u8 0).cells (grownCap w bs.length 0 5 - bs.length)) (5 : TypeId))).cell? ⟨w.drew.heap.size, 0 + j, none⟩ = _ := World.cell?_alloc_new _ _ _ _
    refine e.trans ?_
    rw [Nat.zero_add, Array.getElem?_append_left (by simpa using hj), Array.empty_append, List.getElem?_toArray, List.getElem?_map, List.getElem?_eq_getElem hj, List.getD_eq_getElem?_getD, List.getElem?_eq_getElem hj]; rfl

theorem empty_ownB (w : World) : (w.alloc (.cells #[] (5 : TypeId))).ownsRow w.heap.size 5 1 (.slice (some ⟨w.heap.size, 0, none⟩) 0 0) 0 [] := full_row (Nat.le_refl _) rfl (by unfold maxLen; omega) (heap_alloc_last _ _)
/-- Bytes that are put into a new empty slice. -/
theorem wpList_append_fresh {ops : Array Oper} {rest : List Oper} {o : Oper} {a : Act} {Q : Exit → Act → World → Prop} {w : World} (hgd : o.guard = none) (s x : Operand)
    (ho : o.op = .call { callee := .builtin .append, args := #[s, x], argTypes := #[22, 22] }) (hs : a.eval s = .slice (some ⟨w.heap.size, 0, none⟩) 0 0) (sl : Value) (bs : List UInt8) (hx : a.eval x = sl) (hsrc : ByAt w sl bs) (hl : bs.length ≤ 281474976710656)
    (h : ∀ v' w', SlAt w' v' bs → Below w.heap.size w w' → wpList Try.prog ops Q rest (a.put o.dst v') w') : wpList Try.prog ops Q (o :: rest) a (w.alloc (.cells #[] (5 : TypeId))) := by
  have hb1 : Below w.heap.size w (w.alloc (.cells #[] (5 : TypeId))) := (Below.refl _ _).alloc (Nat.le_refl _) _
  by_cases h0 : 0 < bs.length
  · exact wpList_append_first hgd s x ho ⟨w.heap.size, 0, none⟩ hs sl bs hx (hsrc.next hb1) h0 hl fun v' w' h1 h2 => h v' w' h1 (Below.next hb1 h2)
  · have hn : bs = [] := List.eq_nil_of_length_eq_zero (by omega)
    subst hn
    refine wpList_append_by hgd s x ho w.heap.size _ 0 [] hs (empty_ownB w) sl [] hx (hsrc.next hb1) (by simp) (by simp) ?_
    intro v' w' h1 h2
    exact h v' w' (sl_of_own h1) (row_grown (empty_ownB w) hb1 h2 (by simp))
end Go.Proofs.Ytgefampdfhbmbaa
/- What the document's Xor answers. -/
namespace Go.Proofs.Ytgefampdfhbmbaa
open Go.RowKit
set_option linter.unusedVariables false

theorem step_append_own {P : Program} {ops : Array Oper} {o : Oper} {a : Act} {w : World} {K : Act → World → Prop} {Q : Exit → Act → World → Prop} {E : Prop} (hgd : o.guard = none) (s x : Operand) (t : TypeId)
    (ho : o.op = .call { callee := .builtin .append, args := #[s, x], argTypes := #[t, t] })
    (base : Nat) (e : TypeId) (i : TypeInfo) (z : Value) (size bytes : Nat) (ht : P.underlying t = some (.slice e)) (hi : P.info? e = some i) (hz : i.zero = some z)
    (hsize : i.size = size) (hby : i.bytes = bytes) (hzs : z.cells.size = size) (hsz : 0 < size)
    (v : Value) (n : Nat) (xs : List Value) (hs : a.eval s = v) (hown : w.ownsRow base e size v n xs)
    (ad : Addr) (m c : Nat) (news : List Value) (hx : a.eval x = .slice (some ad) m c) (hl : news.length = m * size) (hnews : ∀ j u, news[j]? = some u → w.cell? (ad.add j) = some u) (h1 : ∀ u ∈ news, u.oneCell' = true)
    (h63 : n + m ≤ maxLen) (hbytes : (n + m) * bytes ≤ 140737488355328) (hbase : base ≤ w.heap.size)
    (h : ∀ v' w', w'.ownsRow base e size v' (n + m) (xs ++ news) → w.grownBy w' v.ownBlock → (v' = .slice none 0 0 ↔ v = .slice none 0 0 ∧ m = 0) → K (a.put o.dst v') w') :
    if Region.wanted o (yielded ops a.tmps) = true then Oper.wp P o a w K Q else E := by
  have hw : Region.wanted o (yielded ops a.tmps) = true := by simp [Region.wanted, hgd]
  rw [if_pos hw]
  exact wp_append_own w s x t ho base e i z size bytes ht hi hz hsize hby hzs hsz v n xs hs hown ad m c news hx hl hnews h1 h63 hbytes hbase h
def xorL (l m : List UInt8) (k : Nat) : List UInt8 := (List.range k).map fun i => l.getD i 0 ^^^ m.getD i 0
theorem xorL_succ (l m : List UInt8) (k : Nat) : xorL l m (k + 1) = xorL l m k ++ [l.getD k 0 ^^^ m.getD k 0] := by unfold xorL; rw [List.range_succ, List.map_append]; rfl
theorem xorL_len (l m : List UInt8) (k : Nat) : (xorL l m k).length = k := by simp [xorL]
set_option maxRecDepth 100000 in
set_option maxHeartbeats 800000 in
theorem refXor_any (l m : List UInt8) (hlm : l.length = m.length) (hl : l.length ≤ 1000000) (u v : Value) (w : World) (hu : ByAt w u l) (hv : ByAt w v m) : Calls Try.prog 55 #[u, v] w fun e w' => ∃ vo, e = .returned vo ∧ w'.ownsRow w.heap.size 5 1 vo l.length ((xorL l m l.length).map encB) ∧ Below w.heap.size w w' := by
  obtain ⟨a1, c1, rfl, hs1⟩ := hu.shape
  obtain ⟨a2, c2, rfl, hs2⟩ := hv.shape
  have HS1 := hidD hs1
  have HS2 := hidD hs2
  clear hs1 hs2 hu hv
  rw [← hlm] at *
  have HLM := hidD hlm
  clear hlm
  generalize hn : l.length = n at *
  have HN := hidD hn
  clear hn
  obtain ⟨i0, hi, hz0, hz1, hz2⟩ := info_parts Try.info5
  go_enter Try.func55, Try.ntmps55
  go_wp2_with fail
  go_loopw [5, 6] (fun o i wr => ∃ k : Nat, k ≤ n ∧ i = .int .i64 k ∧ wr.ownsRow w.heap.size 5 1 o k ((xorL l m k).map encB) ∧ Below w.heap.size w wr) (fun _ i _ => n - (intOf i).toNat)
  case atStart => exact ⟨0, Nat.zero_le _, rfl, World.ownsRow_nil _ _ _ _, Below.refl _ _⟩
  case round =>
    obtain ⟨k, hk, rfl, hown, hbel⟩ := hrel
    have HBL := hidD hbel
    have HOW := hidD hown
    clear hown
    by_cases hlt : k < n
    · obtain ⟨g1, o1, rfl, hg1, hc1⟩ := HS1.out k hlt
      obtain ⟨g2, o2, rfl, hg2, hc2⟩ := HS2.out k (by have := HLM.out; omega)
      have y1 := (hbel.cell (p := ⟨g1, o1 + k, none⟩) hg1).trans hc1
      have y2 := (hbel.cell (p := ⟨g2, o2 + k, none⟩) hg2).trans hc2
      have hlti : (k : Int) < n := by omega
      have z1 : bits .xor .u8 ((l.getD k 0).toNat : Int) ((m.getD k 0).toNat : Int) = (((l.getD k 0 ^^^ m.getD k 0).toNat : Nat) : Int) := by rw [UInt8.toNat_xor]; exact u8_xor_nat _ _ (u8_lt _) (u8_lt _)
      have HTK := hidD (xorL_succ l m k)
      have hwz := hbel.size
      have hl1 : g1 < wr.heap.size := by omega
      have hl2 : g2 < wr.heap.size := by omega
      have hn1 : ¬ g1 = wr.heap.size := by omega
      have hn2 : ¬ g2 = wr.heap.size := by omega
      have CX1 := hidD hc1
      have CX2 := hidD hc2
      have HK1 : Hid (∀ o, (wr.drew.alloc o).cell? ⟨g1, o1 + k, none⟩ = some (.int .u8 ((l.getD k 0).toNat : Int))) := fun o => ((((Below.refl wr.heap.size wr).drew).alloc (Nat.le_refl _) o).cell (p := ⟨g1, o1 + k, none⟩) (by omega)).trans y1
      have HK2 : Hid (∀ o, (wr.drew.alloc o).cell? ⟨g2, o2 + k, none⟩ = some (.int .u8 ((m.getD k 0).toNat : Int))) := fun o => ((((Below.refl wr.heap.size wr).drew).alloc (Nat.le_refl _) o).cell (p := ⟨g2, o2 + k, none⟩) (by omega)).trans y2
      clear hbel hc1 hc2
      generalize hdv : l.getD k 0 ^^^ m.getD k 0 = dv at *
      have HDV := hidD hdv
      clear hdv
      generalize (l.getD k 0).toNat = av at *
      generalize (m.getD k 0).toNat = bv at *
      have HOA : Hid (∀ o, (wr.drew.alloc o).ownsRow w.heap.size 5 1 u5 k ((xorL l m k).map encB)) := fun o => row_below HOW.out (((Below.refl _ _).drew).alloc (Nat.le_refl _) o)
      generalize xorL l m k = L at *
      go_wp2_with fail
      go_region_held_law (fun w' => w'.cell? ⟨g1, o1 + k, none⟩ = some (.int .u8 (av : Int)) ∧ w'.cell? ⟨g2, o2 + k, none⟩ = some (.int .u8 (bv : Int))) (first | exact ⟨HK1.out _, HK2.out _⟩ | go_keep)
        ((refine step_append_own rfl _ _ 22 rfl w.heap.size 5 i0 (.int .u8 0) 1 1 Try.underlying22 hi hz0 hz1 hz2 rfl (by decide) u5 k (L.map encB) rfl (HOA.out _) ⟨wr.heap.size, 0, none⟩ 1 1 [encB dv] rfl rfl (new_cell1 _ _ _) (by simp [encB, Value.oneCell']) (by unfold maxLen; omega) (by omega) (by simp; omega) ?_; intro v' w4 hown4 hg4 hnil4; have hb4 : Below w.heap.size w w4 := row_grown (HOA.out _) ((HBL.out.drew).alloc (by simp; omega) _) hg4 (by simp; omega); have HB4 := hidD hb4; have HO4 := hidD hown4; have r1 := (hb4.cell (p := ⟨g1, o1 + k, none⟩) hg1).trans CX1.out; have r2 := (hb4.cell (p := ⟨g2, o2 + k, none⟩) hg2).trans CX2.out; clear hb4 hown4))
      go_wp2
      go_roundw
      case rel => exact ⟨k + 1, by omega, by go_num, by rw [HTK.out, List.map_append]; exact HO4.out, HB4.out⟩
      case measure => simp [intOf]; omega
    · obtain rfl : k = n := by omega
      clear hbel
      go_wp2_with fail
      go_ret
      exact ⟨_, rfl, HOW.out, HBL.out⟩
end Go.Proofs.Ytgefampdfhbmbaa
/- What the document's double answers. -/
namespace Go.Proofs.Ytgefampdfhbmbaa
open Go.RowKit
set_option linter.unusedVariables false

/-- One cell of a row of one's own, written. -/
theorem own_set {w : World} {base g cap n e : Nat} {xs : List Value} (h : w.ownsRow base e 1 (.slice (some ⟨g, 0, none⟩) n cap) n xs) {j : Nat} (hj : j < n) (u : Value) : (w.setCell ⟨g, j, none⟩ u).ownsRow base e 1 (.slice (some ⟨g, 0, none⟩) n cap) n (xs.set j u) := by
  refine ⟨by rw [List.length_set]; exact h.1, ?_⟩
  rcases h.2 with ⟨hc, _⟩ | ⟨g', cap', cur, he, hb, hg, hc, hm, hs, ht⟩
  · cases hc
  · cases he
    refine .inr ⟨g, cap, cur.setIfInBounds j u, rfl, hb, heap_setCell_same w g j _ _ _ hg, hc, hm, by simpa using hs, ?_⟩
    rw [← ht, Array.toList_setIfInBounds, List.take_set]
theorem own_cell {w : World} {base g cap n e : Nat} {xs : List Value} (h : w.ownsRow base e 1 (.slice (some ⟨g, 0, none⟩) n cap) n xs) {j : Nat} (hj : j < n) : w.cell? ⟨g, j, none⟩ = xs[j]? ∧ w.frozen? ⟨g, j, none⟩ = false ∧ base ≤ g := by
  rcases h.2 with ⟨hc, _⟩ | ⟨g', cap', cur, he, hb, hg, hc, hm, hs, ht⟩
  · cases hc
  · cases he
    refine ⟨?_, frozen_of_row _ _ _ _ _ hg, hb⟩
    rw [cell_of_row _ _ _ _ _ _ hg, ← ht, List.getElem?_take, if_pos (by omega), Array.getElem?_toList]
def db1 (b : Nat → UInt8) (i : Nat) : UInt8 := UInt8.ofNat ((b i).toNat * 2 % 256 ||| (if i < 15 then (b (i + 1)).toNat / 128 else 0))
def dbB (b : Nat → UInt8) (i : Nat) : UInt8 := if i = 15 ∧ 128 ≤ (b 0).toNat then db1 b 15 ^^^ 135 else db1 b i
theorem db1_nat (b : Nat → UInt8) (i : Nat) : (db1 b i).toNat = (b i).toNat * 2 % 256 ||| (if i < 15 then (b (i + 1)).toNat / 128 else 0) := by
  unfold db1
  rw [u8_nat]
  refine Nat.or_lt_two_pow (n := 8) (Nat.mod_lt _ (by omega)) ?_
  have := (b (i + 1)).toNat_lt
  split <;> omega
def dbL (b : Nat → UInt8) (k : Nat) : List UInt8 := (List.range k).map (db1 b)
theorem dbL_succ (b : Nat → UInt8) (k : Nat) : dbL b (k + 1) = dbL b k ++ [db1 b k] := by unfold dbL; rw [List.range_succ, List.map_append]; rfl
theorem dbL_low {b : Nat → UInt8} (h : ¬ 128 ≤ (b 0).toNat) : dbL b 16 = toL (dbB b) := List.map_congr_left fun i hi => by unfold dbB; rw [if_neg (fun hh => h hh.2)]
theorem dbL_high {b : Nat → UInt8} (h : 128 ≤ (b 0).toNat) : (dbL b 16).set 15 (db1 b 15 ^^^ 135) = toL (dbB b) := by
  apply List.ext_getElem?
  intro i
  rw [List.getElem?_set]
  unfold dbL toL
  by_cases hi : i < 16
  · rw [List.getElem?_map, List.getElem?_map, List.getElem?_range hi]
    by_cases he : 15 = i
    · subst he
      rw [if_pos rfl, if_pos (by simp)]
      show _ = some (dbB b 15)
      unfold dbB; rw [if_pos ⟨rfl, h⟩]
    · rw [if_neg he]
      show some (db1 b i) = some (dbB b i)
      unfold dbB; rw [if_neg (fun hh => he hh.1.symm)]
  · rw [if_neg (by omega), List.getElem?_eq_none (by simp; omega), List.getElem?_eq_none (by simp; omega)]
set_option maxRecDepth 100000 in
set_option maxHeartbeats 800000 in
theorem refDouble_any (l : List UInt8) (hl : l.length = 16) (v : Value) (w : World) (hv : ByAt w v l) : Calls Try.prog 58 #[v] w fun e w' => ∃ vo, e = .returned vo ∧ w'.ownsRow w.heap.size 5 1 vo 16 ((toL (dbB (blk l))).map encB) ∧ Below w.heap.size w w' := by
  obtain ⟨a', cap, rfl, hsh⟩ := hv.shape
  have HSH := hidD hsh
  clear hsh hv
  have HC : Hid (∀ k, k < 16 → ∀ wr, Below w.heap.size w wr → ∃ g o, a' = some ⟨g, o, none⟩ ∧ wr.cell? ⟨g, o + k, none⟩ = some (.int .u8 ((blk l k).toNat : Int))) := fun k hk wr hb => by
    obtain ⟨g, o, h1, h2, h3⟩ := HSH.out k (by omega)
    exact ⟨g, o, h1, (hb.cell (p := ⟨g, o + k, none⟩) h2).trans h3⟩
  clear HSH
  rw [hl] at *
  clear hl
  generalize blk l = b at *
  have HAL : Hid (∀ (w' : World) o, Below w'.heap.size w' (w'.alloc o)) := fun w' o => (Below.refl _ _).alloc (Nat.le_refl _) o
  go_enter Try.func58, Try.ntmps58
  go_wp2_with fail
  go_loopw [3, 4] (fun o i wr => ∃ k : Nat, k ≤ 16 ∧ i = .int .i64 k ∧ wr.ownsRow w.heap.size 5 1 o k ((dbL b k).map encB) ∧ Below w.heap.size w wr) (fun _ i _ => 16 - (intOf i).toNat)
  case atStart => exact ⟨0, Nat.zero_le _, rfl, World.ownsRow_nil _ _ _ _, Below.refl _ _⟩
  case round =>
    obtain ⟨k, hk, rfl, hown, hbel⟩ := hrel
    have HBL := hidD hbel
    have HOW := hidD hown
    have HWS := hidD hbel.size
    clear hown
    by_cases hlt : k < 16
    · have hlti : (k : Int) < 16 := by omega
      obtain ⟨g, o, rfl, hc1⟩ := HC.out k hlt wr hbel
      have HN := hidD (dbL_succ b k)
      have hd := db1_nat b k
      have h1 := u8_lt (b k)
      by_cases h15 : k < 15
      · have h15i : (k : Int) < 15 := by omega
        obtain ⟨g2, o2, hgo, hc2⟩ := HC.out (k + 1) (by omega) wr hbel
        cases hgo
        rw [if_pos h15] at hd
        have h2 := u8_lt (b (k + 1))
        have hor : bits .or .u8 ((b k).toNat * 2 % 256 : Int) (((b (k + 1)).toNat : Int) / 128) = ((db1 b k).toNat : Int) := by
          rw [show ((b k).toNat * 2 % 256 : Int) = (((b k).toNat * 2 % 256 : Nat) : Int) by simp, show ((b (k + 1)).toNat : Int) / 128 = (((b (k + 1)).toNat / 128 : Nat) : Int) by simp, u8_or_nat _ _ (Nat.mod_lt _ (by omega)) (by omega), hd]
        have HBS := hidD (fun w' => by_new w' (db1 b k) ((db1 b k).toNat : Int) rfl)
        clear hd hbel
        generalize hdv : db1 b k = dv at *
        clear hdv
        generalize hX : (dv.toNat : Int) = X at *
        clear hX
        generalize (b k).toNat = bk at *
        generalize (b (k + 1)).toNat = bn at *
        generalize dbL b k = L at *
        go_wp2_with (at_builtin; refine wpList_append_by rfl _ _ rfl w.heap.size u3 k (L.map encB) rfl (HOW.out.alloc _) (.slice (some ⟨wr.heap.size, 0, none⟩) 1 1) [dv] rfl (HBS.out wr) (by simp; omega) (by have := HWS.out; simp; omega) ?_; intro v8 w8 hown8 hg8; have HO8 := hidD hown8; have HB8 := hidD (row_grown (HOW.out.alloc _) (Below.next HBL.out (HAL.out _ _)) hg8 (by have := HWS.out; simp; omega)); clear hown8 hg8)
        go_roundw
        case rel => exact ⟨k + 1, by omega, by go_num, by rw [HN.out, List.map_append]; exact HO8.out, HB8.out⟩
        case measure => simp [intOf]; omega
      · have h15i : ¬ (k : Int) < 15 := by omega
        have h15d : decide ((k : Int) < 15) = false := by simpa using h15i
        rw [if_neg h15, Nat.or_zero] at hd
        have hor : ((b k).toNat * 2 % 256 : Int) = ((db1 b k).toNat : Int) := by rw [hd]; simp
        have HBS := hidD (fun w' => by_new w' (db1 b k) ((b k).toNat * 2 % 256 : Int) hor)
        clear hd hbel hor h15i
        generalize hdv : db1 b k = dv at *
        clear hdv
        generalize (b k).toNat = bk at *
        generalize dbL b k = L at *
        go_wp2_with (at_builtin; refine wpList_append_by rfl _ _ rfl w.heap.size u3 k (L.map encB) rfl (HOW.out.alloc _) (.slice (some ⟨wr.heap.size, 0, none⟩) 1 1) [dv] rfl (HBS.out wr) (by simp; omega) (by have := HWS.out; simp; omega) ?_; intro v8 w8 hown8 hg8; have HO8 := hidD hown8; have HB8 := hidD (row_grown (HOW.out.alloc _) (Below.next HBL.out (HAL.out _ _)) hg8 (by have := HWS.out; simp; omega)); clear hown8 hg8)
        go_roundw
        case rel => exact ⟨k + 1, by omega, by go_num, by rw [HN.out, List.map_append]; exact HO8.out, HB8.out⟩
        case measure => simp [intOf]; omega
    · obtain rfl : k = 16 := by omega
      obtain ⟨g, o, rfl, hc0⟩ := HC.out 0 (by omega) wr hbel
      have hc0 : wr.cell? ⟨g, o, none⟩ = some (.int .u8 ((b 0).toNat : Int)) := hc0
      clear hbel
      by_cases h128 : 128 ≤ (b 0).toNat
      · have h128i : (128 : Int) ≤ ((b 0).toNat : Int) := by omega
        have HDH := hidD (dbL_high h128)
        obtain ⟨go, co, hve, hge, hgl, hcap⟩ := row_shapeC HOW.out (by omega)
        have ho := HOW.out
        rw [hve] at ho
        have hc15 := own_cell ho (j := 15) (by omega)
        have hcv : wr.cell? ⟨go, 15, none⟩ = some (.int .u8 ((db1 b 15).toNat : Int)) := hc15.1.trans rfl
        have hfv := hc15.2.1
        have hx := u8_xor_nat (db1 b 15).toNat 135 (u8_lt _) (by omega)
        have HOS := hidD (own_set ho (j := 15) (by omega) (.int .u8 ((db1 b 15 ^^^ 135).toNat : Int)))
        have HBS : Hid (∀ u, Below w.heap.size w (wr.setCell ⟨go, 15, none⟩ u)) := fun u => below_setCell HBL.out hge _ u
        have hxx : bits .xor .u8 ((db1 b 15).toNat : Int) 135 = ((db1 b 15 ^^^ 135).toNat : Int) := by rw [UInt8.toNat_xor]; exact hx
        have HLZ : Hid (((dbL b 16).map encB).set 15 (.int .u8 ((db1 b 15 ^^^ 135).toNat : Int)) = (toL (dbB b)).map encB) := by
          show _ = _
          rw [← HDH.out, List.map_set]; rfl
        rw [hve]
        clear hc15 ho hx hge hgl hcap
        generalize ((db1 b 15 ^^^ 135).toNat : Int) = Z at *
        generalize ((db1 b 15).toNat : Int) = Y at *
        generalize (b 0).toNat = b0 at *
        go_wp2_with fail
        go_ret
        refine ⟨_, rfl, ?_, HBS.out _⟩
        rw [← HLZ.out]; exact HOS.out
      · have h128i : ¬ (128 : Int) ≤ ((b 0).toNat : Int) := by omega
        have h128d : decide ((128 : Int) ≤ ((b 0).toNat : Int)) = false := by simpa using h128i
        have HDL := hidD (dbL_low h128)
        clear h128 h128i
        generalize (b 0).toNat = b0 at *
        go_wp2_with fail
        go_ret
        exact ⟨_, rfl, by rw [← HDL.out]; exact HOW.out, HBL.out⟩
end Go.Proofs.Ytgefampdfhbmbaa
/- The document's cipher in memory; what its Key answers. -/
namespace Go.Proofs.Ytgefampdfhbmbaa
open Go.RowKit
set_option linter.unusedVariables false

/-- The document's cipher of a key of n words lies in block b. -/
def RcAt (w : World) (b n : Nat) (key : Nat → UInt8) : Prop := ∃ gw cw gb cb : Nat, w.cell? ⟨b, 0, none⟩ = some (.slice (some ⟨gw, 0, none⟩) (4 * (n + 7)) cw) ∧ w.cell? ⟨b, 1, none⟩ = some (.int .i64 ((n + 6 : Nat) : Int)) ∧ w.cell? ⟨b, 2, none⟩ = some (.slice (some ⟨gb, 0, none⟩) 256 cb)
  ∧ (∀ i, i < 4 * (n + 7) → ∀ k, k < 4 → w.cell? ⟨gw, 4 * i + k, none⟩ = some (.int .u8 ((wkS n key i k).toNat : Int))) ∧ (∀ j, j < 256 → w.cell? ⟨gb, j, none⟩ = some (.int .u8 (sbN j : Int))) ∧ b < w.heap.size ∧ gw < w.heap.size ∧ gb < w.heap.size
theorem RcAt.below {B : Nat} {w w' : World} {b n : Nat} {key : Nat → UInt8} (h : RcAt w b n key) (hb : Below B w w') (hB : w.heap.size ≤ B) : RcAt w' b n key := by
  obtain ⟨gw, cw, gb, cb, h0, h1, h2, h3, h4, h5, h6, h7⟩ := h
  have c : ∀ {g : Nat} (o : Nat), g < w.heap.size → w'.cell? ⟨g, o, none⟩ = w.cell? ⟨g, o, none⟩ := fun {g} o hg => hb.cell (p := ⟨g, o, none⟩) (Nat.lt_of_lt_of_le hg hB)
  have s := Nat.le_of_lt_succ (Nat.lt_succ_of_le (hb.mono hB).size)
  refine ⟨gw, cw, gb, cb, (c _ h5).trans h0, (c _ h5).trans h1, (c _ h5).trans h2, fun i hi k hk => (c _ h6).trans (h3 i hi k hk), fun j hj => (c _ h7).trans (h4 j hj), ?_, ?_, ?_⟩ <;> omega
theorem RcAt.next {w w' : World} {b n : Nat} {key : Nat → UInt8} (h : RcAt w b n key) (hb : Below w.heap.size w w') : RcAt w' b n key := h.below hb (Nat.le_refl _)
/-- The same, all of its memory at or above B. -/
def RcIn (w : World) (B b n : Nat) (key : Nat → UInt8) : Prop := ∃ gw cw gb cb : Nat, w.cell? ⟨b, 0, none⟩ = some (.slice (some ⟨gw, 0, none⟩) (4 * (n + 7)) cw) ∧ w.cell? ⟨b, 1, none⟩ = some (.int .i64 ((n + 6 : Nat) : Int)) ∧ w.cell? ⟨b, 2, none⟩ = some (.slice (some ⟨gb, 0, none⟩) 256 cb)
  ∧ (∀ i, i < 4 * (n + 7) → ∀ k, k < 4 → w.cell? ⟨gw, 4 * i + k, none⟩ = some (.int .u8 ((wkS n key i k).toNat : Int))) ∧ (∀ j, j < 256 → w.cell? ⟨gb, j, none⟩ = some (.int .u8 (sbN j : Int))) ∧ b < w.heap.size ∧ gw < w.heap.size ∧ gb < w.heap.size ∧ B ≤ b ∧ B ≤ gw ∧ B ≤ gb
theorem RcIn.at {w : World} {B b n : Nat} {key : Nat → UInt8} (h : RcIn w B b n key) : RcAt w b n key := by
  obtain ⟨gw, cw, gb, cb, h0, h1, h2, h3, h4, h5, h6, h7, _⟩ := h
  exact ⟨gw, cw, gb, cb, h0, h1, h2, h3, h4, h5, h6, h7⟩
theorem RcIn.keep {w w' : World} {B b n : Nat} {key : Nat → UInt8} (h : RcIn w B b n key) (hk : ∀ g, B ≤ g → g < w.heap.size → w'.heap[g]? = w.heap[g]?) (hs : w.heap.size ≤ w'.heap.size) : RcIn w' B b n key := by
  obtain ⟨gw, cw, gb, cb, h0, h1, h2, h3, h4, h5, h6, h7, h8, h9, h10⟩ := h
  have c : ∀ {g : Nat} (o : Nat), B ≤ g → g < w.heap.size → w'.cell? ⟨g, o, none⟩ = w.cell? ⟨g, o, none⟩ := fun {g} o hB hg => World.cell?_of_block (hk g hB hg)
  exact ⟨gw, cw, gb, cb, (c _ h8 h5).trans h0, (c _ h8 h5).trans h1, (c _ h8 h5).trans h2, fun i hi k hk => (c _ h9 h6).trans (h3 i hi k hk), fun j hj => (c _ h10 h7).trans (h4 j hj), by omega, by omega, by omega, h8, h9, h10⟩
theorem RcIn.next {w w' : World} {B b n : Nat} {key : Nat → UInt8} (h : RcIn w B b n key) (hb : Below w.heap.size w w') : RcIn w' B b n key := h.keep (fun g _ hg => hb.block g hg) hb.size
def rkL (n : Nat) (key : Nat → UInt8) (r i : Nat) : List UInt8 := (List.range (4 * i)).map (rkS n key r)
theorem rkL_succ (n : Nat) (key : Nat → UInt8) (r i : Nat) : rkL n key r (i + 1) = rkL n key r i ++ [wkS n key (4 * r + i) 0, wkS n key (4 * r + i) 1, wkS n key (4 * r + i) 2, wkS n key (4 * r + i) 3] := by
  unfold rkL
  rw [show 4 * (i + 1) = 4 * i + 1 + 1 + 1 + 1 from rfl, List.range_succ, List.range_succ, List.range_succ, List.range_succ]
  simp only [List.map_append, List.map_cons, List.map_nil, List.append_assoc, List.cons_append, List.nil_append]
  have e : ∀ k, k < 4 → rkS n key r (4 * i + k) = wkS n key (4 * r + i) k := fun k hk => by
    unfold rkS
    rw [show (4 * i + k) / 4 = i by omega, show (4 * i + k) % 4 = k by omega]
  rw [show rkS n key r (4 * i) = _ from e 0 (by omega), e 1 (by omega), show rkS n key r (4 * i + 1 + 1) = _ from e 2 (by omega), show rkS n key r (4 * i + 1 + 1 + 1) = _ from e 3 (by omega)]
theorem by_new4 (w : World) (a b c d : UInt8) : ByAt (w.alloc (.cells #[.int .u8 (a.toNat : Int), .int .u8 (b.toNat : Int), .int .u8 (c.toNat : Int), .int .u8 (d.toNat : Int)] (5 : TypeId))) (.slice (some ⟨w.heap.size, 0, none⟩) 4 4) [a, b, c, d] := by
  refine .inr ⟨w.heap.size, 0, 4, rfl, by simp, fun j hj => ?_⟩
  rw [Nat.zero_add, cell_of_row _ _ _ _ _ _ (heap_alloc_last _ _)]
  have hj : j < 4 := hj
  rcases (show j = 0 ∨ j = 1 ∨ j = 2 ∨ j = 3 by omega) with h | h | h | h <;> subst h <;> rfl
set_option maxRecDepth 100000 in
theorem refKey_nil (r : Int) (w : World) : Calls Try.prog 12 #[.pointer none, .int .i64 r] w fun e w' => e = .returned (.tuple #[.slice none 0 0, .int .i64 2]) ∧ w' = w := by
  go_enter Try.func12, Try.ntmps12
  go_wp2_with fail
  refine bodyPost_ret (v := .tuple #[.slice none 0 0, .int .i64 2]) (by simp [results, Try.results12, go_sem]) rfl ?_
  exact ⟨rfl, rfl⟩
set_option maxRecDepth 100000 in
theorem refKey_arg (n : Nat) (hn : n ≤ 8) (key : Nat → UInt8) (r : Int) (hr : r < 0 ∨ ((n + 6 : Nat) : Int) < r) (b : Nat) (w : World) (h : RcAt w b n key) : Calls Try.prog 12 #[.pointer (some ⟨b, 0, none⟩), .int .i64 r] w fun e w' => e = .returned (.tuple #[.slice none 0 0, .int .i64 1]) ∧ w' = w := by
  obtain ⟨gw, cw, gb, cb, h0, h1, h2, h3, h4, h5, h6, h7⟩ := h
  by_cases h0 : r < 0
  · clear hr
    go_enter Try.func12, Try.ntmps12
    go_wp2_with fail
    refine bodyPost_ret (v := .tuple #[.slice none 0 0, .int .i64 1]) (by simp [results, Try.results12, go_sem]) rfl ?_
    exact ⟨rfl, rfl⟩
  · have hr : ((n + 6 : Nat) : Int) < r := by omega
    have h0' : decide (r < 0) = false := by simpa using h0
    clear h0
    generalize n + 6 = R at *
    go_enter Try.func12, Try.ntmps12
    go_wp2_with fail
    refine bodyPost_ret (v := .tuple #[.slice none 0 0, .int .i64 1]) (by simp [results, Try.results12, go_sem]) rfl ?_
    exact ⟨rfl, rfl⟩
set_option maxRecDepth 100000 in
set_option maxHeartbeats 800000 in
theorem refKey_any (n : Nat) (hn : n ≤ 8) (key : Nat → UInt8) (r : Nat) (hr : r ≤ n + 6) (b : Nat) (w : World) (h : RcAt w b n key) : Calls Try.prog 12 #[.pointer (some ⟨b, 0, none⟩), .int .i64 (r : Int)] w fun e w' => ∃ vo, e = .returned (.tuple #[vo, .int .i64 0]) ∧ w'.ownsRow w.heap.size 5 1 vo 16 ((toL (rkS n key r)).map encB) ∧ Below w.heap.size w w' := by
  have HRC := hidD h
  obtain ⟨hz, hsz⟩ := zero_of_info Try.zero64'
  have HAL : Hid (∀ (w' : World) o, Below w'.heap.size w' (w'.alloc o)) := fun w' o => (Below.refl _ _).alloc (Nat.le_refl _) o
  have hr0 : ¬ (r : Int) < 0 := by omega
  have hr1 : ¬ ((n + 6 : Nat) : Int) < (r : Int) := by omega
  have h1 : w.cell? ⟨b, 1, none⟩ = some (.int .i64 ((n + 6 : Nat) : Int)) := by obtain ⟨gw, cw, gb, cb, h0, h1, _⟩ := h; exact h1
  clear h
  generalize hRR : n + 6 = R at *
  have HRR := hidD hRR
  clear hRR
  go_enter Try.func12, Try.ntmps12
  go_wp2_with fail
  clear h1
  go_loopw [6, 7] (fun o i wr => ∃ k : Nat, k ≤ 4 ∧ i = .int .i64 k ∧ wr.ownsRow w.heap.size 5 1 o (4 * k) ((rkL n key r k).map encB) ∧ Below w.heap.size w wr) (fun _ i _ => 4 - (intOf i).toNat)
  case atStart => exact ⟨0, Nat.zero_le _, rfl, World.ownsRow_nil _ _ _ _, Below.refl _ _⟩
  case round =>
    obtain ⟨k, hk, rfl, hown, hbel⟩ := hrel
    have HBL := hidD hbel
    have HOW := hidD hown
    have HWS := hidD hbel.size
    clear hown
    by_cases hlt : k < 4
    · have hlti : (k : Int) < 4 := by omega
      obtain ⟨gw, cw, gb, cb, c0, c1, c2, c3, c4, c5, c6, c7⟩ := HRC.out.next hbel
      have hwl : 4 * r + k < 4 * (n + 7) := by have := HRR.out; omega
      have d0 : wr.cell? ⟨gw, (4 * r + k) * 4, none⟩ = some (.int .u8 ((wkS n key (4 * r + k) 0).toNat : Int)) := by
        rw [show (4 * r + k) * 4 = 4 * (4 * r + k) + 0 by omega]; exact c3 (4 * r + k) hwl 0 (by omega)
      have d1 : wr.cell? ⟨gw, (4 * r + k) * 4 + 1, none⟩ = some (.int .u8 ((wkS n key (4 * r + k) 1).toNat : Int)) := by
        rw [show (4 * r + k) * 4 + 1 = 4 * (4 * r + k) + 1 by omega]; exact c3 (4 * r + k) hwl 1 (by omega)
      have d2 : wr.cell? ⟨gw, (4 * r + k) * 4 + 2, none⟩ = some (.int .u8 ((wkS n key (4 * r + k) 2).toNat : Int)) := by
        rw [show (4 * r + k) * 4 + 2 = 4 * (4 * r + k) + 2 by omega]; exact c3 (4 * r + k) hwl 2 (by omega)
      have d3 : wr.cell? ⟨gw, (4 * r + k) * 4 + 3, none⟩ = some (.int .u8 ((wkS n key (4 * r + k) 3).toNat : Int)) := by
        rw [show (4 * r + k) * 4 + 3 = 4 * (4 * r + k) + 3 by omega]; exact c3 (4 * r + k) hwl 3 (by omega)
      have HN := hidD (rkL_succ n key r k)
      have hmul : 4 * (r : Int) + k = ((4 * r + k : Nat) : Int) := by omega
      have hwli : ((4 * r + k : Nat) : Int) < ((4 * (n + 7) : Nat) : Int) := by omega
      have hrb : r ≤ 14 := by omega
      clear c1 c2 c3 c4 c5 c6 c7 hbel
      generalize wkS n key (4 * r + k) 0 = b0 at *
      generalize wkS n key (4 * r + k) 1 = b1 at *
      generalize wkS n key (4 * r + k) 2 = b2 at *
      generalize wkS n key (4 * r + k) 3 = b3 at *
      generalize rkL n key r k = L at *
      generalize 4 * (n + 7) = NW at *
      generalize hix : 4 * r + k = ix at *
      clear hix
      have HBS : Hid (∀ A, ByAt ((wr.alloc A).alloc (.cells #[.int .u8 (b0.toNat : Int), .int .u8 (b1.toNat : Int), .int .u8 (b2.toNat : Int), .int .u8 (b3.toNat : Int)] (5 : TypeId))) (.slice (some ⟨wr.heap.size + 1, 0, none⟩) 4 4) [b0, b1, b2, b3]) := fun A => by
        have := by_new4 (wr.alloc A) b0 b1 b2 b3
        rw [show (wr.alloc A).heap.size = wr.heap.size + 1 by simp] at this
        exact this
      go_wp2_with (at_builtin; refine wpList_append_by rfl _ _ rfl w.heap.size u6 (4 * k) (L.map encB) rfl ((HOW.out.alloc _).alloc _) (.slice (some ⟨wr.heap.size + 1, 0, none⟩) 4 4) [b0, b1, b2, b3] rfl (HBS.out _) (by simp; omega) (by have := HWS.out; simp; omega) ?_; intro v8 w8 hown8 hg8; have HO8 := hidD hown8; have HB8 := hidD (row_grown ((HOW.out.alloc _).alloc _) (Below.next (Below.next HBL.out (HAL.out _ _)) (HAL.out _ _)) hg8 (by have := HWS.out; simp; omega)); clear hown8 hg8)
      go_roundw
      case rel => exact ⟨k + 1, by omega, by go_num, by rw [HN.out, List.map_append]; exact HO8.out, HB8.out⟩
      case measure => simp [intOf]; omega
    · obtain rfl : k = 4 := by omega
      clear hbel
      go_wp2_with fail
      refine bodyPost_ret (v := .tuple #[u6, .int .i64 0]) (by simp [results, Try.results12, go_sem]) rfl ?_
      exact ⟨_, rfl, HOW.out, HBL.out⟩
end Go.Proofs.Ytgefampdfhbmbaa
/- What the document's add answers. -/
namespace Go.Proofs.Ytgefampdfhbmbaa
open Go.RowKit
set_option linter.unusedVariables false

set_option maxRecDepth 100000 in
set_option maxHeartbeats 800000 in
theorem refAdd_any (n : Nat) (hn : n ≤ 8) (key : Nat → UInt8) (r : Nat) (hr : r ≤ n + 6) (b : Nat) (s : Nat → UInt8) (w : World) (h : RcAt w b n key) : Calls Try.prog 46 #[.pointer (some ⟨b, 0, none⟩), .agg (bR s), .int .i64 (r : Int)] w fun e w' => e = .returned (.agg (bR (xoB s (rkS n key r)))) ∧ Below w.heap.size w w' := by
  have HK : Hid (∀ wr, Below w.heap.size w wr → Calls Try.prog 12 #[.pointer (some ⟨b, 0, none⟩), .int .i64 (r : Int)] wr fun e w' => ∃ vo, e = .returned (.tuple #[vo, .int .i64 0]) ∧ w'.ownsRow wr.heap.size 5 1 vo 16 ((toL (rkS n key r)).map encB) ∧ Below wr.heap.size wr w') := fun wr hb => refKey_any n hn key r hr b wr (h.next hb)
  generalize rkS n key r = K at *
  clear h hn hr
  obtain ⟨hz, hsz⟩ := zero_of_info Try.zero50
  obtain ⟨b1, b2, b3, b4⟩ := two_blocks w (bR s) (rowZ .u8 16 (fun _ => 0)) 50
  have W1 := hidD b1
  have W2 := hidD b2
  have W3 := hidD b3
  have W4 := hidD b4
  clear b1 b2 b3 b4
  go_enter Try.func46, Try.ntmps46
  go_wp2_with (go_at_call 12; refine (HK.out _ W3.out).mono ?_; rintro e w2 ⟨vo, rfl, hown, hb2⟩; have HO := hidD hown; have HB2 := hidD hb2; clear hown hb2)
  obtain ⟨go, co, hve, hge, hgl, hcap⟩ := row_shapeC HO.out (by omega)
  subst hve
  have HGO : Hid (w.heap.size + 2 ≤ go) := by show _ ≤ _; rw [← W4.out]; exact hge
  have HCK : Hid (∀ k, k < 16 → w2.cell? ⟨go, k, none⟩ = some (.int .u8 ((K k).toNat : Int))) := fun k hk => by
    have := (own_cell HO.out hk).1
    rw [this, List.getElem?_map]
    unfold toL
    rw [List.getElem?_map, List.getElem?_range hk]; rfl
  have HGL := hidD hgl
  have V1 : Hid (RowZ w2 w.heap.size .u8 16 50 (fun i => ((s i).toNat : Int))) := by
    show w2.heap[w.heap.size]? = _
    rw [HB2.out.block _ (by rw [W4.out]; omega)]; exact W1.out
  have V2 : Hid (RowZ w2 (w.heap.size + 1) .u8 16 50 (fun _ => 0)) := by
    show w2.heap[w.heap.size + 1]? = _
    rw [HB2.out.block _ (by rw [W4.out]; omega)]; exact W2.out
  have V3 : Hid (Below w.heap.size w w2) := W3.out.trans (HB2.out.mono (by rw [W4.out]; omega))
  clear W1 W2 W3 W4 HB2 HO hge hgl hcap
  generalize hg : w.heap.size = g at *
  have HG := hidD hg
  clear hg
  go_loopw [9] (fun i wr => ∃ k : Nat, k ≤ 16 ∧ i = .int .i64 k ∧ RowZ wr g .u8 16 50 (fun i => ((if i < k then xoB s K i else s i : UInt8).toNat : Int)) ∧ But g w2 wr) (fun i _ => 16 - (intOf i).toNat)
  case atStart => exact ⟨0, Nat.zero_le _, rfl, V1.out, But.refl _ _⟩
  case round =>
    obtain ⟨k, hk, rfl, hrow, hbut⟩ := hrel
    have HBU := hidD hbut
    by_cases hlt : k < 16
    · have hlti : (k : Int) < 16 := by omega
      have hca : ∀ i : BW wr, i.v.cell? ⟨g, k, none⟩ = some (.int .u8 ((s k).toNat : Int)) := fun i => by
        have := hrow.cell hlt
        rw [if_neg (by omega)] at this
        exact (i.below.cell (p := ⟨g, k, none⟩) hrow.lt).trans this
      have hcb : ∀ i : BW wr, i.v.cell? ⟨go, k, none⟩ = some (.int .u8 ((K k).toNat : Int)) := fun i => by
        have h1 : wr.cell? ⟨go, k, none⟩ = some (.int .u8 ((K k).toNat : Int)) := (hbut.cell HGL.out (by have := HGO.out; omega)).trans (HCK.out k hlt)
        exact (i.below.cell (p := ⟨go, k, none⟩) (Nat.lt_of_lt_of_le HGL.out hbut.bel.size)).trans h1
      have hfa : ∀ i : BW wr, i.v.frozen? ⟨g, k, none⟩ = false := fun i => (i.below.frozen (p := ⟨g, k, none⟩) hrow.lt).trans (hrow.frozen k)
      have hx : bits .xor .u8 ((s k).toNat : Int) ((K k).toNat : Int) = ((xoB s K k).toNat : Int) := by unfold xoB; rw [UInt8.toNat_xor]; exact u8_xor_nat _ _ (u8_lt _) (u8_lt _)
      have HST : Hid (∀ i : BW wr, RowZ (i.v.setCell ⟨g, k, none⟩ (.int .u8 ((xoB s K k).toNat : Int))) g .u8 16 50 (fun i => ((if i < k + 1 then xoB s K i else s i : UInt8).toNat : Int))) := fun i => by
        refine ((hrow.next i.below).set hlt _).congr fun i hi => ?_
        by_cases he : i = k
        · subst he; rw [if_pos rfl, if_pos (by omega)]
        · rw [if_neg he]
          by_cases h2 : i < k
          · rw [if_pos h2, if_pos (by omega)]
          · rw [if_neg h2, if_neg (by omega)]
      have HSB : Hid (∀ (i : BW wr) v, But g w2 (i.v.setCell ⟨g, k, none⟩ v)) := fun i v => (hbut.trans (But.of i.below (Nat.le_of_lt hrow.lt))).put _ _
      generalize ((xoB s K k).toNat : Int) = Z at *
      generalize ((s k).toNat : Int) = X at *
      generalize ((K k).toNat : Int) = Y at *
      clear hrow hbut
      go_wp2_with fail
      refine wp_region_put (by simp) (by kernel_rfl) rfl (by kernel_rfl) (by kernel_rfl) (by kernel_rfl) ?_
      simp only [List.dropLast_cons_cons, List.dropLast_singleton, List.getLast_cons_cons, List.getLast_singleton, List.cons_append, List.nil_append, mute]
      repeat (go_big_quiet_step (fail))
      refine wpQuiet_nil ?_
      intro i
      go_wp2_with fail
      go_roundw
      case rel => exact ⟨k + 1, by omega, by go_num, HST.out _, HSB.out _ _⟩
      case measure => simp [intOf]; omega
    · obtain rfl : k = 16 := by omega
      have HL : Hid (wr.heap[g]? = some (.cells (bR (xoB s K)) (50 : TypeId) (0, 0))) := hrow.congr fun i hi => by rw [if_pos hi]
      have HO : Hid (wr.heap[g + 1]? = some (.cells (rowZ .u8 16 (fun _ => 0)) (50 : TypeId) (0, 0))) := (hbut.rest (g + 1) V2.out.lt (by omega)).trans V2.out
      have HONE : Hid ((bR (xoB s K)).all (·.oneCell') = true) := rowZ_one _ _ _
      have h4 : (bR (xoB s K)).size = 16 := rowZ_size _ _ _
      have h0 : (rowZ .u8 16 (fun _ => 0)).size = 16 := rowZ_size _ _ _
      have HBG : Hid (Below g w wr) := V3.out.trans hbut.bel
      clear hrow hbut
      generalize hC : bR (xoB s K) = C at *
      have HCE := hidD hC
      clear hC
      generalize rowZ .u8 16 (fun _ => 0) = C0 at *
      have hi : (Try.prog.info? 50).map (·.size) = some C.size := by rw [hsz, h4]
      go_wp2_with (first | (refine wpList_load_row rfl 50 _ rfl g rfl 50 C (0, 0) _ HL.out Try.underlying50 rfl hi ?_) | (refine wpList_store_row rfl 50 _ _ rfl (g + 1) C rfl rfl 50 C0 HO.out hi (by rw [h0, h4]) HONE.out ?_))
      refine bodyPost_ret (results_cell_row (P := Try.prog) (p := 6) (ty := 50) (by kernel_rfl) _ _ (g + 1) 50 C (0, 0) _ rfl (setRow_heap _ _ C0 C 50 (0, 0) HO.out) Try.underlying50 rfl hi) rfl ?_
      refine ⟨by rw [HCE.out], ?_⟩
      have hfin : Below g w (wr.setRow (g + 1) C) := below_setRow HBG.out (by omega) _
      rw [HG.out]; exact hfin
end Go.Proofs.Ytgefampdfhbmbaa
