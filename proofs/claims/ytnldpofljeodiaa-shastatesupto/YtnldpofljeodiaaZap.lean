/- Zeros that are put behind a row of one's own: append(s, make([]byte, m)...). -/
import Derived.Test.YtnldpofljeodiaaEx1
namespace Go.Proofs.Ytnldpofljeodiaa
open Go.RowKit
set_option linter.unusedVariables false

theorem zeroCells_one (m : Nat) : (Builtin.zeroCells #[.int .u8 0] m).toList = List.replicate m (Value.int .u8 0) := by
  unfold Builtin.zeroCells
  apply List.ext_getElem?
  intro i
  simp only [Array.toList_map, Array.toList_range]
  by_cases h : i < m
  · simp [h, Nat.mod_one]
  · simp [h]
set_option maxRecDepth 4000 in
theorem append_zeros (w : World) (ty : TypeId) (base : Nat) (v : Value) (n : Nat) (xs : List Value) (hown : w.ownsRow base 5 1 v n xs) (m : Nat) (hm : n + m ≤ 65536) (hbase : base ≤ w.heap.size) : ∃ v' w', (Builtin.append_ #[22, 3] ty #[v, .int .i64 (m : Int)]).run Try.prog w = .ok v' w' ∧ w'.ownsRow base 5 1 v' (n + m) (xs ++ List.replicate m (Value.int .u8 0)) ∧ w.grownBy w' v.ownBlock := by
  obtain ⟨i, hi, hz0, hz1, hz2⟩ := info_parts Try.info5
  have ht : Try.prog.underlying 22 = some (.slice 5) := Try.underlying22
  have hku : Try.prog.underlying 3 = some (.int .i64) := Try.underlying3
  have hai : ∀ w : World, Sem.run Try.prog (asInt (.int .i64 (m : Int))) w = .ok (m : Int) w := fun w => rfl
  have hmi : IntKind.i64.wrap (m : Int) = (m : Int) := by rw [IntKind.wrap_i64]; omega
  have hm0 : ¬ (m : Int) < 0 := by omega
  have hm48 : ¬ (281474976710656 : Int) < (m : Int) := by omega
  have hlen : (xs ++ List.replicate m (Value.int .u8 0)).length = (n + m) * 1 := by rw [List.length_append, hown.1, List.length_replicate]; omega
  have hzl := zeroCells_one m
  have hone : ∀ u ∈ List.replicate m (Value.int .u8 0), u.oneCell' = true := fun u hu => by rw [(List.mem_replicate.1 hu).2]; rfl
  rcases hown.2 with ⟨rfl, rfl⟩ | ⟨g, cap, cur, rfl, hbg, hg, hnc, hcm, hcs, htake⟩
  · have hx : xs = [] := List.eq_nil_of_length_eq_zero (by simpa using hown.1)
    subst hx
    by_cases h0 : m = 0
    · subst h0
      simp at hai hmi
      refine ⟨.slice none 0 0, w, ?_, World.ownsRow_nil w base 5 1, ⟨rfl, rfl, rfl, Nat.le_refl _, fun _ _ _ => rfl⟩⟩
      simp [Builtin.append_, run_underlying ht, run_underlying hku, sizeOf, typeInfo, zeroValue, hi, hz0, hz2, hai, hmi]
    · have hge := grownCap_ge w (0 + m) 0 5
      have hcm2 : grownCap w (0 + m) 0 5 ≤ maxLen := grownCap_le_maxLen w (0 + m) 0 5 (by unfold maxLen; omega)
      have hcz : Value.cells (.int .u8 0) = #[.int .u8 0] := rfl
      have hfit : Builtin.nextslicecap (0 + m) 0 * i.bytes ≤ 281474976710656 := growslice_fits (by omega) (by rw [hz2]; omega)
      have h48' : ¬ (281474976710656 < Builtin.nextslicecap m 0) := by rw [hz2, Nat.mul_one, Nat.zero_add] at hfit; omega
      have h63' : ¬ (9223372036854775807 < (m : Int)) := by omega
      refine ⟨.slice (some ⟨w.heap.size, 0, none⟩) (0 + m) (grownCap w (0 + m) 0 5), w.drew.alloc (.cells (([] ++ List.replicate m (Value.int .u8 0)).toArray ++ Builtin.zeroCells #[.int .u8 0] (grownCap w (0 + m) 0 5 - (0 + m))) 5), ?_, ⟨hlen, .inr ⟨w.heap.size, _, _, rfl, hbase, Go.heap_alloc_new w.drew _, hge, hcm2, ?_, ?_⟩⟩, ⟨rfl, rfl, rfl, by simp, fun k hk _ => (Below.heap_alloc _ _ _ hk)⟩⟩
      · simp [Builtin.append_, run_underlying ht, run_underlying hku, sizeOf, typeInfo, zeroValue, hi, hz0, hz1, hz2, hai, hmi, hm0, hm48, h0, h63', h48', hcz, Question.forced, Builtin.firstCells, newRow, grownCap]
        congr 2
        apply Array.ext'
        simp [hzl]
      · simp only [Array.size_append, List.size_toArray, size_zeroCells, hlen]
        simp only [Nat.zero_add] at hge
        simp
        omega
      · simp only [Array.toList_append]
        rw [← hlen]
        exact List.take_left
  · by_cases hroom : n + m ≤ cap
    · have hst := run_storeCells_at Try.prog g n 5 (List.replicate m (Value.int .u8 0)) 0 cur w hg (by rw [List.length_replicate, hcs]; omega) hone
      simp only [Nat.add_zero, List.length_replicate] at hst
      refine ⟨.slice (some ⟨g, 0, none⟩) (n + m) cap, w.setRow g (cur.toList.take n ++ List.replicate m (Value.int .u8 0) ++ cur.toList.drop (n + m)).toArray, ?_, ⟨hlen, .inr ⟨g, cap, _, rfl, hbg, setRow_heap w g cur _ 5 _ hg, hroom, hcm, ?_, ?_⟩⟩, ⟨rfl, rfl, rfl, by simp, fun k _ hk => setRow_other w g k _ (fun e => hk (by simp [Value.ownBlock, e]))⟩⟩
      · by_cases h0 : m = 0
        · subst h0
          simp at hst hai hmi
          simp [Builtin.append_, run_underlying ht, run_underlying hku, sizeOf, typeInfo, zeroValue, hi, hz0, hz1, hz2, hai, hmi, Addr.add_lit, hst]
          try (intro h; exact absurd hnc (by omega))
        · have hcz : Value.cells (.int .u8 0) = #[.int .u8 0] := rfl
          simp [Builtin.append_, run_underlying ht, run_underlying hku, sizeOf, typeInfo, zeroValue, hi, hz0, hz1, hz2, hai, hmi, hm0, hm48, h0, hroom, Addr.add_lit, hcz, hzl, hst]
      · simp only [List.size_toArray, List.length_append, List.length_take, List.length_drop, List.length_replicate, Array.length_toList]
        omega
      · rw [Nat.mul_one] at htake
        rw [htake, ← hlen]
        exact List.take_left
    · have holds : ∀ j u, xs[j]? = some u → w.cell? ((⟨g, 0, none⟩ : Addr).add j) = some u := hown.cells (g := g) rfl
      have hfo := run_firstCells_some (P := Try.prog) w.drew 1 n ⟨g, 0, none⟩ n cap xs hown.1 (by simpa using holds)
      have hn : ¬ (n + m ≤ cap) := hroom
      have h63' : ¬ (9223372036854775807 < ((n : Int) + (m : Int))) := by omega
      have hfit : Builtin.nextslicecap (n + m) cap * i.bytes ≤ 281474976710656 := growslice_fits (by omega) (by rw [hz2]; omega)
      have h48' : ¬ (281474976710656 < Builtin.nextslicecap (n + m) cap) := by rw [hz2, Nat.mul_one] at hfit; omega
      have h0 : ¬ m = 0 := by omega
      have hge := grownCap_ge w (n + m) cap 5
      have hcm2 : grownCap w (n + m) cap 5 ≤ maxLen := grownCap_le_maxLen w (n + m) cap 5 (by unfold maxLen; omega)
      have hcz : Value.cells (.int .u8 0) = #[.int .u8 0] := rfl
      refine ⟨.slice (some ⟨w.heap.size, 0, none⟩) (n + m) (grownCap w (n + m) cap 5), w.drew.alloc (.cells ((xs ++ List.replicate m (Value.int .u8 0)).toArray ++ Builtin.zeroCells #[.int .u8 0] (grownCap w (n + m) cap 5 - (n + m))) 5), ?_, ⟨hlen, .inr ⟨w.heap.size, _, _, rfl, hbase, Go.heap_alloc_new w.drew _, hge, hcm2, ?_, ?_⟩⟩, ⟨rfl, rfl, rfl, by simp, fun k hk _ => (Below.heap_alloc _ _ _ hk)⟩⟩
      · simp [Builtin.append_, run_underlying ht, run_underlying hku, sizeOf, typeInfo, zeroValue, hi, hz0, hz1, hz2, hai, hmi, hm0, hm48, h0, hn, h63', h48', hcz, Question.forced, hfo, newRow, grownCap]
        congr 2
        apply Array.ext'
        simp [List.append_assoc, hzl]
      · simp only [Array.size_append, List.size_toArray, size_zeroCells, hlen]
        simp
        omega
      · simp only [Array.toList_append]
        rw [← hlen]
        exact List.take_left
theorem wpList_append_zeros {ops : Array Oper} {rest : List Oper} {o : Oper} {a : Act} {Q : Exit → Act → World → Prop} {w : World} (hgd : o.guard = none) (s x : Operand) (ho : o.op = .call { callee := .builtin .append, args := #[s, x], argTypes := #[22, 3] }) (base : Nat) (v : Value) (n : Nat) (xs : List Value) (hs : a.eval s = v) (hown : w.ownsRow base 5 1 v n xs) (m : Nat) (hx : a.eval x = .int .i64 (m : Int)) (hm : n + m ≤ 65536) (hbase : base ≤ w.heap.size)
    (h : ∀ v' w', w'.ownsRow base 5 1 v' (n + m) (xs ++ List.replicate m (Value.int .u8 0)) → w.grownBy w' v.ownBlock → wpList Try.prog ops Q rest (a.put o.dst v') w') : wpList Try.prog ops Q (o :: rest) a w :=
  wpList_plain hgd fun _ hK => by
    obtain ⟨v', w', hr, h2, h3⟩ := append_zeros w o.type base v n xs hown m hm hbase
    unfold Oper.wp execOp
    simp only [ho, resolve, invoke, builtin, Sem.run_bind, Sem.run_pure, Result.andThen_ok, List.map_toArray, List.map_cons, List.map_nil, hs, hx, hr]
    exact hK _ _ (h v' w' h2 h3)
end Go.Proofs.Ytnldpofljeodiaa
