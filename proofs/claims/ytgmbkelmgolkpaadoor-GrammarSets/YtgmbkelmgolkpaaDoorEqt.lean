/- Two rows of sets held against each other. -/
import Derived.Test.YtgmbkelmgolkpaaDoorEqs
import Derived.DeepKeys
namespace Go.Proofs.YtgmbkelmgolkpaaDoor
open Go.RowKit
set_option linter.unusedVariables false

theorem pairs_iff {f g f' g' : Nat → Lit} : ∀ l : List Nat, ((l.map fun i => [f i, g i]).flatten = (l.map fun i => [f' i, g' i]).flatten ↔ ∀ i ∈ l, f i = f' i ∧ g i = g' i)
  | [] => by simp
  | a :: l => by
    rw [List.map_cons, List.map_cons, List.flatten_cons, List.flatten_cons]
    simp only [List.cons_append, List.nil_append, List.cons.injEq, List.mem_cons, forall_eq_or_imp, pairs_iff l]
    exact ⟨fun ⟨a, b, c⟩ => ⟨⟨a, b⟩, c⟩, fun ⟨⟨a, b⟩, c⟩ => ⟨a, b, c⟩⟩
theorem mapM_of {α β : Type} {f : α → Option β} {g : α → β} : ∀ l : List α, (∀ a ∈ l, f a = some (g a)) → l.mapM f = some (l.map g)
  | [], _ => by simp
  | a :: l, h => by
    rw [List.mapM_cons, h a (by simp), mapM_of l (fun b hb => h b (by simp [hb]))]
    rfl
theorem lits59 {a : Nat} (h : a < 18446744073709551616) : Tryd.prog.keyLits 1 84 [.int .u64 (a : Int)] = some [.int .u64 (a : Int)] := by
  have hu : Tryd.prog.underlying 84 = some (.int .u64) := by kernel_rfl
  unfold Program.keyLits
  have hf : (Lit.int .u64 (a : Int)).wf = true := by
    simp [Lit.wf, IntKind.min, IntKind.max, IntKind.signed, IntKind.bits]
    omega
  simp [hu, hf]
theorem lits61 {a b : Nat} (ha : a < 18446744073709551616) (hb : b < 18446744073709551616) : Tryd.prog.keyLits 2 86 [.int .u64 (a : Int), .int .u64 (b : Int)] = some [.int .u64 (a : Int), .int .u64 (b : Int)] := by
  have hu : Tryd.prog.underlying 86 = some (.array 2 84) := by kernel_rfl
  have hc : Tryd.prog.cellsOf 86 = 2 := by kernel_rfl
  have hc9 : Tryd.prog.cellsOf 84 = 1 := by kernel_rfl
  unfold Program.keyLits
  simp only [hu, hc, hc9, List.length_cons, List.length_nil, Nat.zero_add, Nat.reduceAdd, if_true]
  rw [show List.range 2 = [0, 1] from rfl]
  simp only [List.mapM_cons, List.mapM_nil, Nat.zero_mul, Nat.one_mul, List.drop_zero, List.take_succ_cons, List.take_zero, List.drop_succ_cons, lits59 ha, lits59 hb]
  rfl
/-- The words of an array. -/
def WsIn (A : Array Value) (u : Nat → Nat) : Prop := A.size = 256 ∧ ∀ i, i < 256 → u i < 18446744073709551616 ∧ A[i]? = some (.int .u64 (u i : Int))
theorem lits66 {A : Array Value} {u : Nat → Nat} (h : WsIn A u) : Tryd.prog.keyLits 3 88 A.toList = some ((List.range 128).map fun i => [Lit.int .u64 (u (i * 2) : Int), Lit.int .u64 (u (i * 2 + 1) : Int)]).flatten := by
  have hu : Tryd.prog.underlying 88 = some (.array 128 86) := by kernel_rfl
  have hc : Tryd.prog.cellsOf 88 = 256 := by kernel_rfl
  have hc1 : Tryd.prog.cellsOf 86 = 2 := by kernel_rfl
  obtain ⟨hs, hw⟩ := h
  unfold Program.keyLits
  simp only [hu, hc, hc1, Array.length_toList, hs, if_true]
  rw [mapM_of (g := fun i => [Lit.int .u64 (u (i * 2) : Int), Lit.int .u64 (u (i * 2 + 1) : Int)])]
  · rfl
  · intro i hi
    rw [List.mem_range] at hi
    obtain ⟨b0, e0⟩ := hw (i * 2) (by omega)
    obtain ⟨b1, e1⟩ := hw (i * 2 + 1) (by omega)
    have hl : A.toList.length = 256 := by rw [Array.length_toList, hs]
    rw [← Array.getElem?_toList] at e0 e1
    rw [List.getElem?_eq_getElem (by omega), Option.some.injEq] at e0 e1
    rw [List.drop_eq_getElem_cons (show i * 2 < A.toList.length by omega), List.drop_eq_getElem_cons (show i * 2 + 1 < A.toList.length by omega), e0, e1]
    exact lits61 b0 b1
theorem eqSets {A B : Array Value} {u v : Nat → Nat} (hA : WsIn A u) (hB : WsIn B v) (w : World) : ∃ r : Bool, Sem.run Tryd.prog (Op.equalIn 10000 88 (.agg A) (.agg B)) w = .ok r w ∧ (r = true ↔ ∀ i, i < 256 → u i = v i) := by
  have hk : Tryd.prog.keyTypeAt 3 88 = true := by kernel_rfl
  have hu : Tryd.prog.underlying 88 = some (.array 128 86) := by kernel_rfl
  have hc : Tryd.prog.cellsOf 88 = 256 := by kernel_rfl
  obtain ⟨r, h1, h2⟩ := run_equalIn_deep (P := Tryd.prog) 9997 3 88 hk w 3 3 (.agg A) (.agg B) _ _ (by simp [Value.formed, hu, hc, hA.1]) (by simp [Value.formed, hu, hc, hB.1]) (lits66 hA) (lits66 hB)
  refine ⟨r, h1, h2.trans ((pairs_iff _).trans ?_)⟩
  constructor
  · intro h i hi
    have := h (i / 2) (List.mem_range.2 (by omega))
    simp only [Lit.int.injEq, true_and, Int.natCast_inj] at this
    rcases Nat.mod_two_eq_zero_or_one i with e | e
    · rw [show i / 2 * 2 = i by omega] at this; exact this.1
    · rw [show i / 2 * 2 + 1 = i by omega] at this; exact this.2
  · intro h i hi
    rw [List.mem_range] at hi
    rw [h (i * 2) (by omega), h (i * 2 + 1) (by omega)]
    exact ⟨rfl, rfl⟩
end Go.Proofs.YtgmbkelmgolkpaaDoor
