/- Texts of one proof, one behind the other. -/
import Derived.Test.YtckegkknheignaaMd
import Derived.Deep.RegionHeldLaw
import Derived.Laws.Pointers
/- Plain: AES: the words of a key, a block there and back. -/
namespace Go.Proofs.Ytckegkknheignaa
set_option linter.unusedVariables false

/- the words of a key of n words: byte k of word i; after m further words -/
def nwS (n : Nat) (T : Nat → Nat → UInt8) (i k : Nat) : UInt8 :=
  (if i % n = 0 then subS (T (i - 1) ((k + 1) % 4)) ^^^ (if k = 0 then UInt8.ofNat (rndS ((i / n : Nat) : Int)) else 0) else if n = 8 ∧ i % 8 = 4 then subS (T (i - 1) k) else T (i - 1) k) ^^^ T (i - n) k
def wkTo (n : Nat) (key : Nat → UInt8) : Nat → Nat → Nat → UInt8
  | 0 => fun i k => key (4 * i + k)
  | m + 1 => fun i k => if i = n + m then nwS n (wkTo n key m) i k else wkTo n key m i k
def wkS (n : Nat) (key : Nat → UInt8) : Nat → Nat → UInt8 := wkTo n key (3 * n + 28)
def rkS (n : Nat) (key : Nat → UInt8) (r j : Nat) : UInt8 := wkS n key (4 * r + j / 4) (j % 4)
/- blocks -/
def Same16 (a b : Nat → UInt8) : Prop := ∀ i, i < 16 → a i = b i
theorem Same16.rfl' (a : Nat → UInt8) : Same16 a a := fun _ _ => rfl
theorem Same16.trans {a b c : Nat → UInt8} (h : Same16 a b) (k : Same16 b c) : Same16 a c := fun i hi => (h i hi).trans (k i hi)
theorem Same16.symm {a b : Nat → UInt8} (h : Same16 a b) : Same16 b a := fun i hi => (h i hi).symm
def xoB (a b : Nat → UInt8) (i : Nat) : UInt8 := a i ^^^ b i
def sbB (b : Nat → UInt8) (i : Nat) : UInt8 := subS (b i)
def ubB (b : Nat → UInt8) (i : Nat) : UInt8 := UInt8.ofNat (unsS (b i))
def shB (b : Nat → UInt8) (i : Nat) : UInt8 := b (4 * ((i / 4 + i % 4) % 4) + i % 4)
def usB (b : Nat → UInt8) (i : Nat) : UInt8 := b (4 * ((i / 4 + 4 - i % 4) % 4) + i % 4)
def mcB (m : Nat → UInt8) (b : Nat → UInt8) (i : Nat) : UInt8 := mixS (fun k => b (4 * (i / 4) + k)) m (i % 4)
theorem xo_same {a b c d : Nat → UInt8} (h : Same16 a b) (k : Same16 c d) : Same16 (xoB a c) (xoB b d) := fun i hi => by unfold xoB; rw [h i hi, k i hi]
theorem sb_same {a b : Nat → UInt8} (h : Same16 a b) : Same16 (sbB a) (sbB b) := fun i hi => by unfold sbB; rw [h i hi]
theorem ub_same {a b : Nat → UInt8} (h : Same16 a b) : Same16 (ubB a) (ubB b) := fun i hi => by unfold ubB; rw [h i hi]
theorem sh_same {a b : Nat → UInt8} (h : Same16 a b) : Same16 (shB a) (shB b) := fun i hi => h _ (by omega)
theorem us_same {a b : Nat → UInt8} (h : Same16 a b) : Same16 (usB a) (usB b) := fun i hi => h _ (by omega)
theorem mixTo_congr {c d m : Nat → UInt8} (h : ∀ k, k < 4 → c k = d k) (i : Nat) : ∀ k, mixTo c m i k = mixTo d m i k
  | 0 => rfl
  | k + 1 => by rw [mixTo, mixTo, mixTo_congr h i k, h _ (Nat.mod_lt _ (by omega))]
theorem mc_same {m a b : Nat → UInt8} (h : Same16 a b) : Same16 (mcB m a) (mcB m b) := fun i hi => mixTo_congr (fun k hk => h _ (by omega)) _ 4
theorem xo_xo (a k : Nat → UInt8) : xoB (xoB a k) k = a := by
  funext i
  unfold xoB
  rw [UInt8.xor_assoc, UInt8.xor_self, UInt8.xor_zero]
def shI (i : Nat) : Nat := 4 * ((i / 4 + i % 4) % 4) + i % 4
def usI (i : Nat) : Nat := 4 * ((i / 4 + 4 - i % 4) % 4) + i % 4
theorem sh_us_at : ∀ i, i < 16 → shI (usI i) = i ∧ usI (shI i) = i := by decide
theorem us_sh (b : Nat → UInt8) : Same16 (usB (shB b)) b := fun i hi => congrArg b (sh_us_at i hi).1
theorem sh_us (b : Nat → UInt8) : Same16 (shB (usB b)) b := fun i hi => congrArg b (sh_us_at i hi).2
theorem ub_sb (b : Nat → UInt8) : ubB (sbB b) = b := by
  funext i
  unfold ubB sbB unsS
  rw [sub_sb, (us_sb (b i).toNat_lt).1, UInt8.ofNat_toNat]
theorem sb_ub (b : Nat → UInt8) : sbB (ubB b) = b := by
  funext i
  unfold ubB sbB unsS
  have h := us_sb (b i).toNat_lt
  apply UInt8.toNat.inj
  rw [sub_sb, u8_nat h.2.2.1, h.2.1]
theorem mix4 {c : Nat → UInt8} {m u : Nat → UInt8} (h : mixS (mixS c m) u 0 = c 0 ∧ mixS (mixS c m) u 1 = c 1 ∧ mixS (mixS c m) u 2 = c 2 ∧ mixS (mixS c m) u 3 = c 3) {i : Nat} (hi : i < 4) : mixS (mixS c m) u i = c i := by
  obtain ⟨h0, h1, h2, h3⟩ := h
  rcases (show i = 0 ∨ i = 1 ∨ i = 2 ∨ i = 3 by omega) with h | h | h | h <;> rw [h] <;> assumption
theorem mc_mc {m u : Nat → UInt8} (h : ∀ c : Nat → UInt8, mixS (mixS c m) u 0 = c 0 ∧ mixS (mixS c m) u 1 = c 1 ∧ mixS (mixS c m) u 2 = c 2 ∧ mixS (mixS c m) u 3 = c 3) (b : Nat → UInt8) : Same16 (mcB u (mcB m b)) b := fun i hi => by
  have e : mcB u (mcB m b) i = mixS (mixS (fun k => b (4 * (i / 4) + k)) m) u (i % 4) := by
    unfold mcB
    refine mixTo_congr (fun k hk => ?_) _ 4
    have h1 : (4 * (i / 4) + k) / 4 = i / 4 := by omega
    have h2 : (4 * (i / 4) + k) % 4 = k := by omega
    rw [h1, h2]
  rw [e, mix4 (h _) (Nat.mod_lt _ (by omega))]
  show b (4 * (i / 4) + i % 4) = b i
  congr 1; omega
/- rounds -/
def midB (R r : Nat) (s : Nat → UInt8) : Nat → UInt8 := if r < R then mcB mixM s else s
def udB (R r : Nat) (s : Nat → UInt8) : Nat → UInt8 := if r < R then mcB unmM s else s
def rdE (R : Nat) (rk : Nat → Nat → UInt8) (s : Nat → UInt8) (r : Nat) : Nat → UInt8 := xoB (midB R r (shB (sbB s))) (rk r)
def rdD (R : Nat) (rk : Nat → Nat → UInt8) (s : Nat → UInt8) (r : Nat) : Nat → UInt8 := ubB (usB (udB R r (xoB s (rk r))))
theorem mid_same {R r : Nat} {a b : Nat → UInt8} (h : Same16 a b) : Same16 (midB R r a) (midB R r b) := by unfold midB; split; exact mc_same h; exact h
theorem ud_same {R r : Nat} {a b : Nat → UInt8} (h : Same16 a b) : Same16 (udB R r a) (udB R r b) := by unfold udB; split; exact mc_same h; exact h
theorem rdE_same {R r : Nat} {rk : Nat → Nat → UInt8} {a b : Nat → UInt8} (h : Same16 a b) : Same16 (rdE R rk a r) (rdE R rk b r) := xo_same (mid_same (sh_same (sb_same h))) (Same16.rfl' _)
theorem rdD_same {R r : Nat} {rk : Nat → Nat → UInt8} {a b : Nat → UInt8} (h : Same16 a b) : Same16 (rdD R rk a r) (rdD R rk b r) := ub_same (us_same (ud_same (xo_same h (Same16.rfl' _))))
theorem ud_mid (R r : Nat) (s : Nat → UInt8) : Same16 (udB R r (midB R r s)) s := by
  unfold udB midB
  split
  · exact mc_mc unmix_mix s
  · exact Same16.rfl' _
theorem mid_ud (R r : Nat) (s : Nat → UInt8) : Same16 (midB R r (udB R r s)) s := by
  unfold udB midB
  split
  · exact mc_mc mix_unmix s
  · exact Same16.rfl' _
theorem rdD_rdE (R : Nat) (rk : Nat → Nat → UInt8) (s : Nat → UInt8) (r : Nat) : Same16 (rdD R rk (rdE R rk s r) r) s := by
  unfold rdD rdE
  rw [xo_xo]
  have h := ub_same (us_same (ud_mid R r (shB (sbB s))))
  refine h.trans ?_
  have h2 := ub_same (us_sh (sbB s))
  rw [ub_sb] at h2
  exact h2
theorem rdE_rdD (R : Nat) (rk : Nat → Nat → UInt8) (s : Nat → UInt8) (r : Nat) : Same16 (rdE R rk (rdD R rk s r) r) s := by
  unfold rdD rdE
  rw [sb_ub]
  have h := xo_same (mid_same (R := R) (r := r) (sh_us (udB R r (xoB s (rk r))))) (Same16.rfl' (rk r))
  refine h.trans ?_
  have h2 := xo_same (mid_ud R r (xoB s (rk r))) (Same16.rfl' (rk r))
  rw [xo_xo] at h2
  exact h2
def enTo (R : Nat) (rk : Nat → Nat → UInt8) (b : Nat → UInt8) : Nat → Nat → UInt8
  | 0 => xoB b (rk 0)
  | r + 1 => rdE R rk (enTo R rk b r) (r + 1)
def enS (R : Nat) (rk : Nat → Nat → UInt8) (b : Nat → UInt8) : Nat → UInt8 := enTo R rk b R
def deTo (R : Nat) (rk : Nat → Nat → UInt8) (b : Nat → UInt8) : Nat → Nat → UInt8
  | 0 => b
  | m + 1 => rdD R rk (deTo R rk b m) (R - m)
def deS (R : Nat) (rk : Nat → Nat → UInt8) (b : Nat → UInt8) : Nat → UInt8 := xoB (deTo R rk b R) (rk 0)
theorem en_same {R : Nat} {rk : Nat → Nat → UInt8} {a b : Nat → UInt8} (h : Same16 a b) : ∀ r, Same16 (enTo R rk a r) (enTo R rk b r)
  | 0 => xo_same h (Same16.rfl' _)
  | r + 1 => rdE_same (en_same h r)
theorem de_same {R : Nat} {rk : Nat → Nat → UInt8} {a b : Nat → UInt8} (h : Same16 a b) : ∀ m, Same16 (deTo R rk a m) (deTo R rk b m)
  | 0 => h
  | m + 1 => rdD_same (de_same h m)
theorem de_en_at (R : Nat) (rk : Nat → Nat → UInt8) (b : Nat → UInt8) : ∀ m, m ≤ R → Same16 (deTo R rk (enS R rk b) m) (enTo R rk b (R - m))
  | 0, _ => Same16.rfl' _
  | m + 1, hm => by
    have h := rdD_same (R := R) (r := R - m) (rk := rk) (de_en_at R rk b m (by omega))
    refine h.trans ?_
    rw [show R - m = (R - (m + 1)) + 1 by omega]
    exact rdD_rdE R rk _ _
theorem de_en (R : Nat) (rk : Nat → Nat → UInt8) (b : Nat → UInt8) : Same16 (deS R rk (enS R rk b)) b := by
  have h := xo_same (de_en_at R rk b R (Nat.le_refl _)) (Same16.rfl' (rk 0))
  rw [Nat.sub_self] at h
  refine h.trans ?_
  show Same16 (xoB (xoB b (rk 0)) (rk 0)) b
  rw [xo_xo]; exact Same16.rfl' _
theorem en_de_at (R : Nat) (rk : Nat → Nat → UInt8) (b : Nat → UInt8) : ∀ r, r ≤ R → Same16 (enTo R rk (deS R rk b) r) (deTo R rk b (R - r))
  | 0, _ => by
    show Same16 (xoB (xoB (deTo R rk b R) (rk 0)) (rk 0)) _
    rw [xo_xo]; exact Same16.rfl' _
  | r + 1, hr => by
    have h := rdE_same (R := R) (r := r + 1) (rk := rk) (en_de_at R rk b r (by omega))
    refine h.trans ?_
    have e : R - r = (R - (r + 1)) + 1 := by omega
    rw [e, deTo]
    rw [show R - (R - (r + 1)) = r + 1 by omega]
    exact rdE_rdD R rk _ _
theorem en_de (R : Nat) (rk : Nat → Nat → UInt8) (b : Nat → UInt8) : Same16 (enS R rk (deS R rk b)) b := by
  have h := en_de_at R rk b R (Nat.le_refl _)
  rw [Nat.sub_self] at h
  exact h
theorem en_one {R : Nat} {rk : Nat → Nat → UInt8} {a b : Nat → UInt8} (h : Same16 (enS R rk a) (enS R rk b)) : Same16 a b := by
  have h1 := xo_same (de_same (R := R) (rk := rk) h R) (Same16.rfl' (rk 0))
  exact (de_en R rk a).symm.trans (Same16.trans h1 (de_en R rk b))
end Go.Proofs.Ytckegkknheignaa
/- Plain: AES: blocks as lists, counters, chains, pads. -/
namespace Go.Proofs.Ytckegkknheignaa
set_option linter.unusedVariables false

def blk (l : List UInt8) (i : Nat) : UInt8 := l.getD i 0
def toL (b : Nat → UInt8) : List UInt8 := (List.range 16).map b
theorem toL_len (b : Nat → UInt8) : (toL b).length = 16 := by simp [toL]
theorem blk_toL {b : Nat → UInt8} {i : Nat} (hi : i < 16) : blk (toL b) i = b i := by
  unfold blk toL
  rw [List.getD_eq_getElem?_getD, List.getElem?_map, List.getElem?_range hi]; rfl
theorem blk_same (b : Nat → UInt8) : Same16 (blk (toL b)) b := fun i hi => blk_toL hi
theorem toL_congr {a b : Nat → UInt8} (h : Same16 a b) : toL a = toL b := List.map_congr_left fun i hi => h i (by simpa using hi)
theorem toL_blk {l : List UInt8} (h : l.length = 16) : toL (blk l) = l := by
  apply List.ext_getElem?
  intro i
  unfold toL
  rw [List.getElem?_map]
  by_cases hi : i < 16
  · rw [List.getElem?_range hi]
    show some (blk l i) = l[i]?
    unfold blk
    rw [List.getD_eq_getElem?_getD, List.getElem?_eq_getElem (by omega)]; rfl
  · rw [List.getElem?_eq_none (by simp; omega), List.getElem?_eq_none (by omega)]; rfl
theorem toL_inj {a b : Nat → UInt8} (h : toL a = toL b) : Same16 a b := fun i hi => by rw [← blk_toL (b := a) hi, h, blk_toL hi]
/- counters -/
def putB (b : Nat → UInt8) (j : Nat) (v : UInt8) (i : Nat) : UInt8 := if i = j then v else b i
def incTo : Nat → (Nat → UInt8) → Nat → UInt8
  | 0, b => b
  | j + 1, b => if b j + 1 ≠ 0 then putB b j (b j + 1) else incTo j (putB b j (b j + 1))
def incS (b : Nat → UInt8) : Nat → UInt8 := incTo 16 b
def ctrS (start : Nat → UInt8) : Nat → Nat → UInt8
  | 0 => start
  | i + 1 => incS (ctrS start i)
def ksS (E : (Nat → UInt8) → Nat → UInt8) (start : Nat → UInt8) (j : Nat) : UInt8 := E (ctrS start (j / 16)) (j % 16)
def cntS (E : (Nat → UInt8) → Nat → UInt8) (start : Nat → UInt8) (l : List UInt8) : List UInt8 := (List.range l.length).map fun j => l.getD j 0 ^^^ ksS E start j
theorem cnt_len (E : (Nat → UInt8) → Nat → UInt8) (start : Nat → UInt8) (l : List UInt8) : (cntS E start l).length = l.length := by simp [cntS]
theorem map_at {f : Nat → UInt8} {n j : Nat} (h : j < n) : ((List.range n).map f).getD j 0 = f j := by
  rw [List.getD_eq_getElem?_getD, List.getElem?_map, List.getElem?_range h]; rfl
theorem list_eq {l : List UInt8} {f : Nat → UInt8} {n : Nat} (hn : l.length = n) (h : ∀ j, j < n → f j = l.getD j 0) : (List.range n).map f = l := by
  apply List.ext_getElem?
  intro i
  rw [List.getElem?_map]
  by_cases hi : i < n
  · rw [List.getElem?_range hi]
    show some (f i) = l[i]?
    rw [h i hi, List.getD_eq_getElem?_getD, List.getElem?_eq_getElem (by omega)]; rfl
  · rw [List.getElem?_eq_none (by simp; omega), List.getElem?_eq_none (by omega)]; rfl
theorem cnt_cnt (E : (Nat → UInt8) → Nat → UInt8) (start : Nat → UInt8) (l : List UInt8) : cntS E start (cntS E start l) = l := by
  show (List.range (cntS E start l).length).map (fun j => (cntS E start l).getD j 0 ^^^ ksS E start j) = l
  rw [cnt_len]
  refine list_eq rfl fun j hj => ?_
  unfold cntS
  rw [map_at hj, UInt8.xor_assoc, UInt8.xor_self, UInt8.xor_zero]
theorem cnt_take (E : (Nat → UInt8) → Nat → UInt8) (start : Nat → UInt8) (l : List UInt8) {n : Nat} (hn : n ≤ l.length) : cntS E start (l.take n) = (cntS E start l).take n := by
  unfold cntS
  rw [List.length_take, Nat.min_eq_left hn]
  refine list_eq (by simp; omega) fun j hj => ?_
  rw [List.getD_eq_getElem?_getD, List.getD_eq_getElem?_getD, List.getElem?_take, if_pos hj, List.getElem?_take, if_pos hj, List.getElem?_map, List.getElem?_range (by omega)]
  rw [← List.getD_eq_getElem?_getD]; rfl
/- chains -/
def bkA (d : List UInt8) (i k : Nat) : UInt8 := d.getD (16 * i + k) 0
def chTo (E : (Nat → UInt8) → Nat → UInt8) (first : Nat → UInt8) (d : List UInt8) : Nat → Nat → UInt8
  | 0 => first
  | i + 1 => E (xoB (bkA d i) (chTo E first d i))
def chS (E : (Nat → UInt8) → Nat → UInt8) (first : Nat → UInt8) (d : List UInt8) : List UInt8 := (List.range d.length).map fun j => chTo E first d (j / 16 + 1) (j % 16)
def ahA (first : Nat → UInt8) (d : List UInt8) : Nat → Nat → UInt8
  | 0 => first
  | i + 1 => bkA d i
def unchS (D : (Nat → UInt8) → Nat → UInt8) (first : Nat → UInt8) (d : List UInt8) : List UInt8 := (List.range d.length).map fun j => D (bkA d (j / 16)) (j % 16) ^^^ ahA first d (j / 16) (j % 16)
theorem ch_len (E : (Nat → UInt8) → Nat → UInt8) (first : Nat → UInt8) (d : List UInt8) : (chS E first d).length = d.length := by simp [chS]
theorem ch_bk {E : (Nat → UInt8) → Nat → UInt8} {first : Nat → UInt8} {d : List UInt8} {i : Nat} (h : 16 * i + 16 ≤ d.length) : Same16 (bkA (chS E first d) i) (chTo E first d (i + 1)) := fun k hk => by
  unfold bkA chS
  rw [map_at (by omega), show (16 * i + k) / 16 = i by omega, show (16 * i + k) % 16 = k by omega]
theorem ch_ah {E : (Nat → UInt8) → Nat → UInt8} {first : Nat → UInt8} {d : List UInt8} : ∀ {i : Nat}, 16 * i ≤ d.length → Same16 (ahA first (chS E first d) i) (chTo E first d i)
  | 0, _ => Same16.rfl' _
  | i + 1, h => ch_bk (by omega)
theorem unch_ch {E D : (Nat → UInt8) → Nat → UInt8} (hD : ∀ {a b}, Same16 a b → Same16 (D a) (D b)) (hDE : ∀ b, Same16 (D (E b)) b) (first : Nat → UInt8) (d : List UInt8) (h16 : d.length % 16 = 0) : unchS D first (chS E first d) = d := by
  unfold unchS
  rw [ch_len]
  refine list_eq rfl fun j hj => ?_
  have hk : j % 16 < 16 := Nat.mod_lt _ (by omega)
  have h1 := hD (ch_bk (E := E) (first := first) (d := d) (i := j / 16) (by omega)) (j % 16) hk
  have h2 := ch_ah (E := E) (first := first) (d := d) (i := j / 16) (by omega) (j % 16) hk
  rw [h1, h2, chTo, hDE _ (j % 16) hk]
  unfold xoB bkA
  rw [UInt8.xor_assoc, UInt8.xor_self, UInt8.xor_zero, show 16 * (j / 16) + j % 16 = j by omega]
/-- Chains are alike as long as the data are. -/
theorem ch_alike {E : (Nat → UInt8) → Nat → UInt8} (hE : ∀ {a b}, Same16 a b → Same16 (E a) (E b)) {first : Nat → UInt8} {d e : List UInt8} : ∀ {m : Nat}, (∀ i, i < m → Same16 (bkA d i) (bkA e i)) → Same16 (chTo E first d m) (chTo E first e m)
  | 0, _ => Same16.rfl' _
  | m + 1, h => hE (xo_same (h m (by omega)) (ch_alike hE fun i hi => h i (by omega)))
theorem xo_can {a b c d : Nat → UInt8} (h : Same16 (xoB a c) (xoB b d)) (hc : Same16 c d) : Same16 a b := fun i hi => by
  have := h i hi
  unfold xoB at this
  rw [hc i hi] at this
  have h2 := congrArg (· ^^^ d i) this
  simp only [UInt8.xor_assoc, UInt8.xor_self, UInt8.xor_zero] at h2
  exact h2
/-- Where a block parts, the chains part in it; and in the next one. -/
theorem ch_part {E : (Nat → UInt8) → Nat → UInt8} (hE : ∀ {a b}, Same16 a b → Same16 (E a) (E b)) (h1 : ∀ {a b}, Same16 (E a) (E b) → Same16 a b) {first : Nat → UInt8} {d e : List UInt8} {m : Nat} (h : ∀ i, i < m → Same16 (bkA d i) (bkA e i)) : Same16 (chTo E first d (m + 1)) (chTo E first e (m + 1)) ↔ Same16 (bkA d m) (bkA e m) :=
  ⟨fun hh => xo_can (h1 hh) (ch_alike hE h), fun hh => ch_alike hE fun i hi => by
    by_cases hm : i = m
    · subst hm; exact hh
    · exact h i (by omega)⟩
theorem ch_next {E : (Nat → UInt8) → Nat → UInt8} (hE : ∀ {a b}, Same16 a b → Same16 (E a) (E b)) (h1 : ∀ {a b}, Same16 (E a) (E b) → Same16 a b) {first : Nat → UInt8} {d e : List UInt8} {m : Nat} (hn : Same16 (bkA d (m + 1)) (bkA e (m + 1))) : Same16 (chTo E first d (m + 2)) (chTo E first e (m + 2)) ↔ Same16 (chTo E first d (m + 1)) (chTo E first e (m + 1)) :=
  ⟨fun hh => fun i hi => by
    have := h1 hh i hi
    unfold xoB at this
    rw [hn i hi] at this
    have h2 := congrArg (fun v => bkA e (m + 1) i ^^^ v) this
    simp only [← UInt8.xor_assoc, UInt8.xor_self, UInt8.zero_xor] at h2
    exact h2, fun hh => hE (xo_same hn hh)⟩
/- pads -/
def padN (n : Nat) : Nat := 16 - n % 16
def padS (l : List UInt8) : List UInt8 := l ++ List.replicate (padN l.length) (UInt8.ofNat (padN l.length))
theorem pad_len (l : List UInt8) : (padS l).length = l.length + padN l.length := by simp [padS]
theorem pad_whole (l : List UInt8) : (padS l).length % 16 = 0 ∧ 0 < (padS l).length := by rw [pad_len]; unfold padN; omega
def unpN (l : List UInt8) : Nat := (l.getD (l.length - 1) 0).toNat
/-- 0: these bytes are left; 91: no whole blocks; 1: they do not end so. -/
def unpE (l : List UInt8) : Nat := if l.length = 0 ∨ l.length % 16 ≠ 0 then 91 else if unpN l < 1 ∨ 16 < unpN l then 1 else if (List.range (unpN l)).all (fun i => (l.getD (l.length - unpN l + i) 0).toNat == unpN l) then 0 else 1
def unpS (l : List UInt8) : List UInt8 := if unpE l = 0 then l.take (l.length - unpN l) else []
theorem unp_pad (l : List UInt8) : unpE (padS l) = 0 ∧ unpS (padS l) = l := by
  have hw := pad_whole l
  have hl := pad_len l
  have hp : 1 ≤ padN l.length ∧ padN l.length ≤ 16 := by unfold padN; omega
  have hv : (UInt8.ofNat (padN l.length)).toNat = padN l.length := u8_nat (by omega)
  have ha : ∀ i, i < padN l.length → (padS l).getD (l.length + i) 0 = UInt8.ofNat (padN l.length) := fun i hi => by
    unfold padS
    rw [List.getD_eq_getElem?_getD, List.getElem?_append_right (by omega), show l.length + i - l.length = i by omega, List.getElem?_replicate, if_pos hi]; rfl
  have hn : unpN (padS l) = padN l.length := by
    unfold unpN
    rw [hl, show l.length + padN l.length - 1 = l.length + (padN l.length - 1) by omega, ha _ (by omega), hv]
  have he : unpE (padS l) = 0 := by
    unfold unpE
    rw [if_neg (by omega), hn, if_neg (by omega), if_pos]
    refine List.all_eq_true.2 fun i hi => ?_
    have hi : i < padN l.length := by simpa using hi
    rw [hl, show l.length + padN l.length - padN l.length + i = l.length + i by omega, ha i hi, hv]
    simp
  refine ⟨he, ?_⟩
  unfold unpS
  rw [if_pos he, hn, hl, show l.length + padN l.length - padN l.length = l.length by omega]
  unfold padS
  rw [List.take_left]
end Go.Proofs.Ytckegkknheignaa
/- What the document's Shift and block answer. -/
namespace Go.Proofs.Ytckegkknheignaa
open Go.RowKit
set_option linter.unusedVariables false

def bR (b : Nat → UInt8) : Array Value := rowZ .u8 16 (fun i => ((b i).toNat : Int))
theorem bR_congr {a b : Nat → UInt8} (h : Same16 a b) : bR a = bR b := rowZ_congr .u8 fun i hi => by rw [h i hi]
theorem Try.zero42 : (Try.prog.info? 42).map (fun i => (i.zero, i.size)) = some (some (.agg (rowZ .u8 16 (fun _ => 0))), 16) := by kernel_rfl
theorem three_blocks (w : World) (A B C : Array Value) (ty : TypeId) : (((w.alloc (.cells A ty)).alloc (.cells B ty)).alloc (.cells C ty)).heap[w.heap.size]? = some (.cells A ty (0, 0)) ∧ (((w.alloc (.cells A ty)).alloc (.cells B ty)).alloc (.cells C ty)).heap[w.heap.size + 1]? = some (.cells B ty (0, 0))
    ∧ (((w.alloc (.cells A ty)).alloc (.cells B ty)).alloc (.cells C ty)).heap[w.heap.size + 1 + 1]? = some (.cells C ty (0, 0)) ∧ Below w.heap.size w (((w.alloc (.cells A ty)).alloc (.cells B ty)).alloc (.cells C ty)) ∧ (((w.alloc (.cells A ty)).alloc (.cells B ty)).alloc (.cells C ty)).heap.size = w.heap.size + 3 := by
  have sz : ∀ (w : World) o, (w.alloc o).heap.size = w.heap.size + 1 := fun w o => by simp
  refine ⟨?_, ?_, ?_, ((((Below.refl _ _).alloc (Nat.le_refl _) _).alloc (by rw [sz]; omega) _).alloc (by rw [sz, sz]; omega) _), by rw [sz, sz, sz]⟩
  · rw [Below.heap_alloc _ _ _ (by rw [sz, sz]; omega), Below.heap_alloc _ _ _ (by rw [sz]; omega)]; exact heap_alloc_last _ _
  · rw [Below.heap_alloc _ _ _ (by rw [sz, sz]; omega)]
    have := heap_alloc_last (w.alloc (.cells A ty)) (.cells B ty); rw [sz] at this; exact this
  · have := heap_alloc_last ((w.alloc (.cells A ty)).alloc (.cells B ty)) (.cells C ty); rw [sz, sz] at this; exact this
end Go.Proofs.Ytckegkknheignaa
/- Bytes that are put into an empty slice, as many as memory bears. -/
namespace Go.Proofs.Ytckegkknheignaa
open Go.RowKit
set_option linter.unusedVariables false

theorem sl_of_own {w : World} {base : Nat} {v : Value} {l : List UInt8} (h : w.ownsRow base 5 1 v l.length (l.map encB)) : SlAt w v l := by
  refine ⟨?_, row_by h⟩
  rcases h.2 with ⟨rfl, h0⟩ | ⟨g, cap, cur, rfl, hb, hg, hnc, hcm, _⟩
  · exact ⟨none, 0, by rw [h0], by omega, by omega⟩
  · exact ⟨_, cap, rfl, hnc, by unfold maxLen at hcm; omega⟩
theorem next_zero (m : Nat) (h : 0 < m) : Builtin.nextslicecap m 0 = m := by
  unfold Builtin.nextslicecap
  rw [if_pos (by omega)]
/-- Bytes that are put into an empty slice with no room. -/
theorem wpList_append_first {ops : Array Oper} {rest : List Oper} {o : Oper} {a : Act} {Q : Exit → Act → World → Prop} {w : World} (hgd : o.guard = none) (s x : Operand)
    (ho : o.op = .call { callee := .builtin .append, args := #[s, x], argTypes := #[22, 22] }) (b : Addr) (hs : a.eval s = .slice (some b) 0 0) (sl : Value) (bs : List UInt8) (hx : a.eval x = sl) (hsrc : ByAt w sl bs) (hpos : 0 < bs.length) (hl : bs.length ≤ 281474976710656)
    (h : ∀ v' w', SlAt w' v' bs → Below w.heap.size w w' → wpList Try.prog ops Q rest (a.put o.dst v') w') : wpList Try.prog ops Q (o :: rest) a w := by
  obtain ⟨i0, hi, hz0, hz1, hz2⟩ := info_parts Try.info5
  rcases hsrc with ⟨rfl, _⟩ | ⟨g, off, cap, rfl, hg, hc⟩
  · simp at hpos
  · have hr := run_append_grow (P := Try.prog) w 22 o.type 5 i0 (.int .u8 0) Try.underlying22 hi hz0 b 0 0 [] (by simp) (fun j v hv => by simp at hv) ⟨g, off, none⟩ bs.length cap (bs.map encB) (by rw [hz1]; simp) (fun j u hu => by
      rw [List.getElem?_map] at hu
      cases hj : bs[j]? with
      | none => rw [hj] at hu; cases hu
      | some y =>
        rw [hj] at hu
        have hlt := (List.getElem?_eq_some_iff.1 hj).1
        rw [Go.WideShapes.add_plain, hc j hlt, List.getD_eq_getElem?_getD, hj]
        exact hu) (by omega) (by omega) (by rw [Nat.zero_add, next_zero _ hpos, hz2]; omega)
    rw [Nat.zero_add] at hr
    have hge := grownCap_ge w bs.length 0 5
    have hle := grownCap_le_maxLen w bs.length 0 5 (by unfold maxLen; omega)
    refine wpList_plain hgd fun K hK => ?_
    unfold Oper.wp execOp
    simp only [ho, resolve, invoke, builtin, Sem.run_bind, Sem.run_pure, Result.andThen_ok, List.map_toArray, List.map_cons, List.map_nil, hs, hx, hr]
    refine hK _ _ (h _ _ ⟨⟨_, _, rfl, hge, by unfold maxLen at hle; omega⟩, .inr ⟨w.heap.size, 0, _, rfl, by simp, fun j hj => ?_⟩⟩ (((Below.refl w.heap.size w).drew).alloc (Nat.le_refl _) _))
    have e : (w.drew.alloc (.cells (#[] ++ (bs.map encB).toArray ++ Builtin.zeroCells (Value.int .u8 0).cells (grownCap w bs.length 0 5 - bs.length)) (5 : TypeId))).cell? ⟨w.drew.heap.size, 0 + j, none⟩ = _ := World.cell?_alloc_new _ _ _ _
    refine e.trans ?_
    rw [Nat.zero_add, Array.getElem?_append_left (by simpa using hj), Array.empty_append, List.getElem?_toArray, List.getElem?_map, List.getElem?_eq_getElem hj, List.getD_eq_getElem?_getD, List.getElem?_eq_getElem hj]; rfl

theorem empty_ownB (w : World) : (w.alloc (.cells #[] (5 : TypeId))).ownsRow w.heap.size 5 1 (.slice (some ⟨w.heap.size, 0, none⟩) 0 0) 0 [] := full_row (Nat.le_refl _) rfl (by unfold maxLen; omega) (heap_alloc_last _ _)
/-- Bytes that are put into a new empty slice. -/
theorem wpList_append_fresh {ops : Array Oper} {rest : List Oper} {o : Oper} {a : Act} {Q : Exit → Act → World → Prop} {w : World} (hgd : o.guard = none) (s x : Operand)
    (ho : o.op = .call { callee := .builtin .append, args := #[s, x], argTypes := #[22, 22] }) (hs : a.eval s = .slice (some ⟨w.heap.size, 0, none⟩) 0 0) (sl : Value) (bs : List UInt8) (hx : a.eval x = sl) (hsrc : ByAt w sl bs) (hl : bs.length ≤ 281474976710656)
    (h : ∀ v' w', SlAt w' v' bs → Below w.heap.size w w' → wpList Try.prog ops Q rest (a.put o.dst v') w') : wpList Try.prog ops Q (o :: rest) a (w.alloc (.cells #[] (5 : TypeId))) := by
  have hb1 : Below w.heap.size w (w.alloc (.cells #[] (5 : TypeId))) := (Below.refl _ _).alloc (Nat.le_refl _) _
  by_cases h0 : 0 < bs.length
  · exact wpList_append_first hgd s x ho ⟨w.heap.size, 0, none⟩ hs sl bs hx (hsrc.next hb1) h0 hl fun v' w' h1 h2 => h v' w' h1 (Below.next hb1 h2)
  · have hn : bs = [] := List.eq_nil_of_length_eq_zero (by omega)
    subst hn
    refine wpList_append_by hgd s x ho w.heap.size _ 0 [] hs (empty_ownB w) sl [] hx (hsrc.next hb1) (by simp) (by simp) ?_
    intro v' w' h1 h2
    exact h v' w' (sl_of_own h1) (row_grown (empty_ownB w) hb1 h2 (by simp))
end Go.Proofs.Ytckegkknheignaa
/- What the document's Xor answers. -/
namespace Go.Proofs.Ytckegkknheignaa
open Go.RowKit
set_option linter.unusedVariables false

theorem step_append_own {P : Program} {ops : Array Oper} {o : Oper} {a : Act} {w : World} {K : Act → World → Prop} {Q : Exit → Act → World → Prop} {E : Prop} (hgd : o.guard = none) (s x : Operand) (t : TypeId)
    (ho : o.op = .call { callee := .builtin .append, args := #[s, x], argTypes := #[t, t] })
    (base : Nat) (e : TypeId) (i : TypeInfo) (z : Value) (size bytes : Nat) (ht : P.underlying t = some (.slice e)) (hi : P.info? e = some i) (hz : i.zero = some z)
    (hsize : i.size = size) (hby : i.bytes = bytes) (hzs : z.cells.size = size) (hsz : 0 < size)
    (v : Value) (n : Nat) (xs : List Value) (hs : a.eval s = v) (hown : w.ownsRow base e size v n xs)
    (ad : Addr) (m c : Nat) (news : List Value) (hx : a.eval x = .slice (some ad) m c) (hl : news.length = m * size) (hnews : ∀ j u, news[j]? = some u → w.cell? (ad.add j) = some u) (h1 : ∀ u ∈ news, u.oneCell' = true)
    (h63 : n + m ≤ maxLen) (hbytes : (n + m) * bytes ≤ 140737488355328) (hbase : base ≤ w.heap.size)
    (h : ∀ v' w', w'.ownsRow base e size v' (n + m) (xs ++ news) → w.grownBy w' v.ownBlock → (v' = .slice none 0 0 ↔ v = .slice none 0 0 ∧ m = 0) → K (a.put o.dst v') w') :
    if Region.wanted o (yielded ops a.tmps) = true then Oper.wp P o a w K Q else E := by
  have hw : Region.wanted o (yielded ops a.tmps) = true := by simp [Region.wanted, hgd]
  rw [if_pos hw]
  exact wp_append_own w s x t ho base e i z size bytes ht hi hz hsize hby hzs hsz v n xs hs hown ad m c news hx hl hnews h1 h63 hbytes hbase h
def xorL (l m : List UInt8) (k : Nat) : List UInt8 := (List.range k).map fun i => l.getD i 0 ^^^ m.getD i 0
theorem xorL_succ (l m : List UInt8) (k : Nat) : xorL l m (k + 1) = xorL l m k ++ [l.getD k 0 ^^^ m.getD k 0] := by unfold xorL; rw [List.range_succ, List.map_append]; rfl
theorem xorL_len (l m : List UInt8) (k : Nat) : (xorL l m k).length = k := by simp [xorL]
end Go.Proofs.Ytckegkknheignaa
/- What the document's double answers. -/
namespace Go.Proofs.Ytckegkknheignaa
open Go.RowKit
set_option linter.unusedVariables false

/-- One cell of a row of one's own, written. -/
theorem own_set {w : World} {base g cap n e : Nat} {xs : List Value} (h : w.ownsRow base e 1 (.slice (some ⟨g, 0, none⟩) n cap) n xs) {j : Nat} (hj : j < n) (u : Value) : (w.setCell ⟨g, j, none⟩ u).ownsRow base e 1 (.slice (some ⟨g, 0, none⟩) n cap) n (xs.set j u) := by
  refine ⟨by rw [List.length_set]; exact h.1, ?_⟩
  rcases h.2 with ⟨hc, _⟩ | ⟨g', cap', cur, he, hb, hg, hc, hm, hs, ht⟩
  · cases hc
  · cases he
    refine .inr ⟨g, cap, cur.setIfInBounds j u, rfl, hb, heap_setCell_same w g j _ _ _ hg, hc, hm, by simpa using hs, ?_⟩
    rw [← ht, Array.toList_setIfInBounds, List.take_set]
theorem own_cell {w : World} {base g cap n e : Nat} {xs : List Value} (h : w.ownsRow base e 1 (.slice (some ⟨g, 0, none⟩) n cap) n xs) {j : Nat} (hj : j < n) : w.cell? ⟨g, j, none⟩ = xs[j]? ∧ w.frozen? ⟨g, j, none⟩ = false ∧ base ≤ g := by
  rcases h.2 with ⟨hc, _⟩ | ⟨g', cap', cur, he, hb, hg, hc, hm, hs, ht⟩
  · cases hc
  · cases he
    refine ⟨?_, frozen_of_row _ _ _ _ _ hg, hb⟩
    rw [cell_of_row _ _ _ _ _ _ hg, ← ht, List.getElem?_take, if_pos (by omega), Array.getElem?_toList]
def db1 (b : Nat → UInt8) (i : Nat) : UInt8 := UInt8.ofNat ((b i).toNat * 2 % 256 ||| (if i < 15 then (b (i + 1)).toNat / 128 else 0))
def dbB (b : Nat → UInt8) (i : Nat) : UInt8 := if i = 15 ∧ 128 ≤ (b 0).toNat then db1 b 15 ^^^ 135 else db1 b i
theorem db1_nat (b : Nat → UInt8) (i : Nat) : (db1 b i).toNat = (b i).toNat * 2 % 256 ||| (if i < 15 then (b (i + 1)).toNat / 128 else 0) := by
  unfold db1
  rw [u8_nat]
  refine Nat.or_lt_two_pow (n := 8) (Nat.mod_lt _ (by omega)) ?_
  have := (b (i + 1)).toNat_lt
  split <;> omega
def dbL (b : Nat → UInt8) (k : Nat) : List UInt8 := (List.range k).map (db1 b)
theorem dbL_succ (b : Nat → UInt8) (k : Nat) : dbL b (k + 1) = dbL b k ++ [db1 b k] := by unfold dbL; rw [List.range_succ, List.map_append]; rfl
theorem dbL_low {b : Nat → UInt8} (h : ¬ 128 ≤ (b 0).toNat) : dbL b 16 = toL (dbB b) := List.map_congr_left fun i hi => by unfold dbB; rw [if_neg (fun hh => h hh.2)]
theorem dbL_high {b : Nat → UInt8} (h : 128 ≤ (b 0).toNat) : (dbL b 16).set 15 (db1 b 15 ^^^ 135) = toL (dbB b) := by
  apply List.ext_getElem?
  intro i
  rw [List.getElem?_set]
  unfold dbL toL
  by_cases hi : i < 16
  · rw [List.getElem?_map, List.getElem?_map, List.getElem?_range hi]
    by_cases he : 15 = i
    · subst he
      rw [if_pos rfl, if_pos (by simp)]
      show _ = some (dbB b 15)
      unfold dbB; rw [if_pos ⟨rfl, h⟩]
    · rw [if_neg he]
      show some (db1 b i) = some (dbB b i)
      unfold dbB; rw [if_neg (fun hh => he hh.1.symm)]
  · rw [if_neg (by omega), List.getElem?_eq_none (by simp; omega), List.getElem?_eq_none (by simp; omega)]
end Go.Proofs.Ytckegkknheignaa
/- The document's cipher in memory; what its Key answers. -/
namespace Go.Proofs.Ytckegkknheignaa
open Go.RowKit
set_option linter.unusedVariables false

/-- The document's cipher of a key of n words lies in block b. -/
def RcAt (w : World) (b n : Nat) (key : Nat → UInt8) : Prop := ∃ gw cw gb cb : Nat, w.cell? ⟨b, 0, none⟩ = some (.slice (some ⟨gw, 0, none⟩) (4 * (n + 7)) cw) ∧ w.cell? ⟨b, 1, none⟩ = some (.int .i64 ((n + 6 : Nat) : Int)) ∧ w.cell? ⟨b, 2, none⟩ = some (.slice (some ⟨gb, 0, none⟩) 256 cb)
  ∧ (∀ i, i < 4 * (n + 7) → ∀ k, k < 4 → w.cell? ⟨gw, 4 * i + k, none⟩ = some (.int .u8 ((wkS n key i k).toNat : Int))) ∧ (∀ j, j < 256 → w.cell? ⟨gb, j, none⟩ = some (.int .u8 (sbN j : Int))) ∧ b < w.heap.size ∧ gw < w.heap.size ∧ gb < w.heap.size
theorem RcAt.below {B : Nat} {w w' : World} {b n : Nat} {key : Nat → UInt8} (h : RcAt w b n key) (hb : Below B w w') (hB : w.heap.size ≤ B) : RcAt w' b n key := by
  obtain ⟨gw, cw, gb, cb, h0, h1, h2, h3, h4, h5, h6, h7⟩ := h
  have c : ∀ {g : Nat} (o : Nat), g < w.heap.size → w'.cell? ⟨g, o, none⟩ = w.cell? ⟨g, o, none⟩ := fun {g} o hg => hb.cell (p := ⟨g, o, none⟩) (Nat.lt_of_lt_of_le hg hB)
  have s := Nat.le_of_lt_succ (Nat.lt_succ_of_le (hb.mono hB).size)
  refine ⟨gw, cw, gb, cb, (c _ h5).trans h0, (c _ h5).trans h1, (c _ h5).trans h2, fun i hi k hk => (c _ h6).trans (h3 i hi k hk), fun j hj => (c _ h7).trans (h4 j hj), ?_, ?_, ?_⟩ <;> omega
theorem RcAt.next {w w' : World} {b n : Nat} {key : Nat → UInt8} (h : RcAt w b n key) (hb : Below w.heap.size w w') : RcAt w' b n key := h.below hb (Nat.le_refl _)
/-- The same, all of its memory at or above B. -/
def RcIn (w : World) (B b n : Nat) (key : Nat → UInt8) : Prop := ∃ gw cw gb cb : Nat, w.cell? ⟨b, 0, none⟩ = some (.slice (some ⟨gw, 0, none⟩) (4 * (n + 7)) cw) ∧ w.cell? ⟨b, 1, none⟩ = some (.int .i64 ((n + 6 : Nat) : Int)) ∧ w.cell? ⟨b, 2, none⟩ = some (.slice (some ⟨gb, 0, none⟩) 256 cb)
  ∧ (∀ i, i < 4 * (n + 7) → ∀ k, k < 4 → w.cell? ⟨gw, 4 * i + k, none⟩ = some (.int .u8 ((wkS n key i k).toNat : Int))) ∧ (∀ j, j < 256 → w.cell? ⟨gb, j, none⟩ = some (.int .u8 (sbN j : Int))) ∧ b < w.heap.size ∧ gw < w.heap.size ∧ gb < w.heap.size ∧ B ≤ b ∧ B ≤ gw ∧ B ≤ gb
theorem RcIn.at {w : World} {B b n : Nat} {key : Nat → UInt8} (h : RcIn w B b n key) : RcAt w b n key := by
  obtain ⟨gw, cw, gb, cb, h0, h1, h2, h3, h4, h5, h6, h7, _⟩ := h
  exact ⟨gw, cw, gb, cb, h0, h1, h2, h3, h4, h5, h6, h7⟩
theorem RcIn.keep {w w' : World} {B b n : Nat} {key : Nat → UInt8} (h : RcIn w B b n key) (hk : ∀ g, B ≤ g → g < w.heap.size → w'.heap[g]? = w.heap[g]?) (hs : w.heap.size ≤ w'.heap.size) : RcIn w' B b n key := by
  obtain ⟨gw, cw, gb, cb, h0, h1, h2, h3, h4, h5, h6, h7, h8, h9, h10⟩ := h
  have c : ∀ {g : Nat} (o : Nat), B ≤ g → g < w.heap.size → w'.cell? ⟨g, o, none⟩ = w.cell? ⟨g, o, none⟩ := fun {g} o hB hg => World.cell?_of_block (hk g hB hg)
  exact ⟨gw, cw, gb, cb, (c _ h8 h5).trans h0, (c _ h8 h5).trans h1, (c _ h8 h5).trans h2, fun i hi k hk => (c _ h9 h6).trans (h3 i hi k hk), fun j hj => (c _ h10 h7).trans (h4 j hj), by omega, by omega, by omega, h8, h9, h10⟩
theorem RcIn.next {w w' : World} {B b n : Nat} {key : Nat → UInt8} (h : RcIn w B b n key) (hb : Below w.heap.size w w') : RcIn w' B b n key := h.keep (fun g _ hg => hb.block g hg) hb.size
def rkL (n : Nat) (key : Nat → UInt8) (r i : Nat) : List UInt8 := (List.range (4 * i)).map (rkS n key r)
theorem rkL_succ (n : Nat) (key : Nat → UInt8) (r i : Nat) : rkL n key r (i + 1) = rkL n key r i ++ [wkS n key (4 * r + i) 0, wkS n key (4 * r + i) 1, wkS n key (4 * r + i) 2, wkS n key (4 * r + i) 3] := by
  unfold rkL
  rw [show 4 * (i + 1) = 4 * i + 1 + 1 + 1 + 1 from rfl, List.range_succ, List.range_succ, List.range_succ, List.range_succ]
  simp only [List.map_append, List.map_cons, List.map_nil, List.append_assoc, List.cons_append, List.nil_append]
  have e : ∀ k, k < 4 → rkS n key r (4 * i + k) = wkS n key (4 * r + i) k := fun k hk => by
    unfold rkS
    rw [show (4 * i + k) / 4 = i by omega, show (4 * i + k) % 4 = k by omega]
  rw [show rkS n key r (4 * i) = _ from e 0 (by omega), e 1 (by omega), show rkS n key r (4 * i + 1 + 1) = _ from e 2 (by omega), show rkS n key r (4 * i + 1 + 1 + 1) = _ from e 3 (by omega)]
theorem by_new4 (w : World) (a b c d : UInt8) : ByAt (w.alloc (.cells #[.int .u8 (a.toNat : Int), .int .u8 (b.toNat : Int), .int .u8 (c.toNat : Int), .int .u8 (d.toNat : Int)] (5 : TypeId))) (.slice (some ⟨w.heap.size, 0, none⟩) 4 4) [a, b, c, d] := by
  refine .inr ⟨w.heap.size, 0, 4, rfl, by simp, fun j hj => ?_⟩
  rw [Nat.zero_add, cell_of_row _ _ _ _ _ _ (heap_alloc_last _ _)]
  have hj : j < 4 := hj
  rcases (show j = 0 ∨ j = 1 ∨ j = 2 ∨ j = 3 by omega) with h | h | h | h <;> subst h <;> rfl
end Go.Proofs.Ytckegkknheignaa
/- What the document's add answers. -/
namespace Go.Proofs.Ytckegkknheignaa
open Go.RowKit
set_option linter.unusedVariables false

end Go.Proofs.Ytckegkknheignaa
/- What the document's mix answers. -/
namespace Go.Proofs.Ytckegkknheignaa
open Go.RowKit
set_option linter.unusedVariables false

end Go.Proofs.Ytckegkknheignaa
