/- The functions on great numbers, at lists that are told as plain numbers. -/
import Derived.Test.YtobnghmadoejjaaFa
import Derived.Test.YtobnghmadoejjaaFs
import Derived.Test.YtobnghmadoejjaaFm
import Derived.Test.YtobnghmadoejjaaFc
import Derived.Test.YtobnghmadoejjaaFf
import Derived.Test.YtobnghmadoejjaaSa
import Derived.Test.YtobnghmadoejjaaSu
import Derived.Test.YtobnghmadoejjaaNo
namespace Go.Proofs.Ytobnghmadoejjaa
open Go.RowKit

theorem ok_nl {n : Nat} (h : n < top) : okL (ans (some n)) := okL_of _ (digs_norm n) ((digs_len 16 n).2 h)
theorem num_nl (n : Nat) : num (ans (some n)) = n := by
  show val (nats (up (digs n))) = n
  rw [nats_up, val_digs]
theorem nl_of {xs : List Int} (h : okL xs) : xs = ans (some (num xs)) := okL_digs xs h
theorem len_nl {n : Nat} (h : n < top) : (ans (some n)).length ≤ 140737488351232 := by have := (ok_nl h).1; omega
theorem addO_nl {m n : Nat} (hm : m < top) (hn : n < top) : addO (ans (some m)) (ans (some n)) = if m + n < top then some (m + n) else none := by
  unfold addO
  rw [num_nl, num_nl]
  by_cases h : m + n < top
  · rw [if_pos ⟨ok_nl hm, ok_nl hn, h⟩, if_pos h]
  · rw [if_neg (fun k => h k.2.2), if_neg h]
theorem mulO_nl {m n : Nat} (hm : m < top) (hn : n < top) : mulO (ans (some m)) (ans (some n)) = if m * n < top then some (m * n) else none := by
  unfold mulO
  rw [num_nl, num_nl]
  by_cases h : m * n < top
  · rw [if_pos ⟨ok_nl hm, ok_nl hn, h⟩, if_pos h]
  · rw [if_neg (fun k => h k.2.2), if_neg h]
theorem subO_nl {m n : Nat} (hm : m < top) (hn : n < top) (h : n ≤ m) : subO (ans (some m)) (ans (some n)) = some (m - n) := by
  unfold subO
  rw [num_nl, num_nl, if_pos ⟨ok_nl hm, ok_nl hn, h⟩]

theorem row_len {w : World} {v : Value} (h : RowI w v []) : ∃ oa cap, v = .slice oa 0 cap := by
  obtain ⟨oa, cap, rfl, _, _⟩ := h
  exact ⟨oa, cap, rfl⟩

/-- A sum that there is. -/
theorem add_yes {m n : Nat} {v1 v2 : Value} {W : World} (h1 : RowI W v1 (ans (some m))) (h2 : RowI W v2 (ans (some n))) (h : m + n < top) :
    Calls Try.prog 11 #[v1, v2] W fun e w' => ∃ v, e = .returned (.tuple #[v, .bool true]) ∧ RowI w' v (ans (some (m + n))) ∧ Below W.heap.size W w' := by
  have c := implNatAdd_any v1 v2 _ _ W h1 h2 (len_nl (by omega)) (len_nl (by omega))
  rw [addO_nl (by omega) (by omega), if_pos h] at c
  exact c.mono fun _ _ ⟨v, a, b, d⟩ => ⟨v, a, b.row, d⟩
theorem add_no {m n : Nat} {v1 v2 : Value} {W : World} (h1 : RowI W v1 (ans (some m))) (h2 : RowI W v2 (ans (some n))) (hm : m < top) (hn : n < top) (h : ¬ m + n < top) :
    Calls Try.prog 11 #[v1, v2] W fun e w' => ∃ oa cap, e = .returned (.tuple #[.slice oa 0 cap, .bool false]) ∧ RowI w' (.slice oa 0 cap) [] ∧ Below W.heap.size W w' := by
  have c := implNatAdd_any v1 v2 _ _ W h1 h2 (len_nl (by omega)) (len_nl (by omega))
  rw [addO_nl (by omega) (by omega), if_neg h] at c
  refine c.mono ?_
  rintro e w' ⟨v, rfl, b, d⟩
  have r := b.row
  obtain ⟨oa, cap, rfl⟩ := row_len r
  exact ⟨oa, cap, rfl, r, d⟩
theorem sadd {m n : Nat} {v1 v2 : Value} {W : World} (h1 : RowI W v1 (ans (some m))) (h2 : RowI W v2 (ans (some n))) (hm : m < top) (hn : n < top) {B : Bool} (hB : decide (m + n < top) = B) :
    Calls Try.prog 12 #[v1, v2] W fun e w' => ∃ v, e = .returned (.tuple #[v, .bool B]) ∧ Below W.heap.size W w' := by
  have c := specAdd_any v1 v2 _ _ W h1 h2 (len_nl (by omega)) (len_nl (by omega))
  rw [addO_nl (by omega) (by omega)] at c
  refine c.mono ?_
  rintro e w' ⟨v, rfl, b, d⟩
  refine ⟨v, ?_, d⟩
  subst hB
  by_cases h : m + n < top <;> simp [h]
theorem mul_yes {m n : Nat} {v1 v2 : Value} {W : World} (h1 : RowI W v1 (ans (some m))) (h2 : RowI W v2 (ans (some n))) (hm : m < top) (hn : n < top) (h : m * n < top) :
    Calls Try.prog 14 #[v1, v2] W fun e w' => ∃ v, e = .returned (.tuple #[v, .bool true]) ∧ RowI w' v (ans (some (m * n))) ∧ Below W.heap.size W w' := by
  have c := implNatMul_any v1 v2 _ _ W h1 h2 (len_nl hm) (len_nl hn)
  rw [mulO_nl hm hn, if_pos h] at c
  exact c.mono fun _ _ ⟨v, a, b, d⟩ => ⟨v, a, b.row, d⟩
/-- A product, or none. -/
theorem mul_gen {m n : Nat} {v1 v2 : Value} {W : World} (h1 : RowI W v1 (ans (some m))) (h2 : RowI W v2 (ans (some n))) (hm : m < top) (hn : n < top) {B : Bool} {L : List Int} (hB : decide (m * n < top) = B) (hL : L = ans (if m * n < top then some (m * n) else none)) :
    Calls Try.prog 14 #[v1, v2] W fun e w' => ∃ v, e = .returned (.tuple #[v, .bool B]) ∧ RowI w' v L ∧ Below W.heap.size W w' := by
  have c := implNatMul_any v1 v2 _ _ W h1 h2 (len_nl hm) (len_nl hn)
  rw [mulO_nl hm hn] at c
  refine c.mono ?_
  rintro e w' ⟨v, rfl, b, d⟩
  subst hB hL
  refine ⟨v, ?_, b.row, d⟩
  by_cases h : m * n < top <;> simp [h]
theorem smul {m n : Nat} {v1 v2 : Value} {W : World} (h1 : RowI W v1 (ans (some m))) (h2 : RowI W v2 (ans (some n))) (hm : m < top) (hn : n < top) {B : Bool} (hB : decide (m * n < top) = B) :
    Calls Try.prog 17 #[v1, v2] W fun e w' => ∃ v, e = .returned (.tuple #[v, .bool B]) ∧ Below W.heap.size W w' := by
  have c := specMul_any v1 v2 _ _ W h1 h2 (len_nl hm) (len_nl hn)
  rw [mulO_nl hm hn] at c
  refine c.mono ?_
  rintro e w' ⟨v, rfl, b, d⟩
  refine ⟨v, ?_, d⟩
  subst hB
  by_cases h : m * n < top <;> simp [h]
theorem sub_yes {m n : Nat} {v1 v2 : Value} {W : World} (h1 : RowI W v1 (ans (some m))) (h2 : RowI W v2 (ans (some n))) (hm : m < top) (h : n ≤ m) :
    Calls Try.prog 15 #[v1, v2] W fun e w' => ∃ v, e = .returned (.tuple #[v, .bool true]) ∧ RowI w' v (ans (some (m - n))) ∧ Below W.heap.size W w' := by
  have c := implNatSub_any v1 v2 _ _ W h1 h2 (len_nl hm) (len_nl (by omega))
  rw [subO_nl hm (by omega) h] at c
  exact c.mono fun _ _ ⟨v, a, b, d⟩ => ⟨v, a, b.row, d⟩
theorem cmp_nl {m n : Nat} {v1 v2 : Value} {W : World} (h1 : RowI W v1 (ans (some m))) (h2 : RowI W v2 (ans (some n))) (hn : n < top) (h : m ≤ n) :
    Calls Try.prog 16 #[v1, v2] W fun e w' => ∃ C : Int, e = .returned (.int .i64 C) ∧ C ≤ 0 ∧ Below W.heap.size W w' := by
  have c := implCmp_any v1 v2 _ _ W h1 h2 (len_nl (by omega)) (len_nl hn)
  refine c.mono ?_
  rintro e w' ⟨rfl, d⟩
  refine ⟨_, rfl, ?_, d⟩
  have hm : m < top := by omega
  rw [show cmpL (ans (some m)) (ans (some n)) = cmpN (num (ans (some m))) (num (ans (some n))) from if_pos ⟨ok_nl hm, ok_nl hn⟩, num_nl, num_nl]
  have := (cmpN_turn n m).2.2.2.2
  have t := cmpN_turn n m
  rw [t.1]
  have := this.2 h
  omega
theorem of_nl {n : Nat} {W : World} (h : n ≤ 9223372036854775807) :
    Calls Try.prog 23 #[.int .i64 (n : Int)] W fun e w' => ∃ v, e = .returned (.tuple #[v, .bool true]) ∧ RowI w' v (ans (some n)) ∧ Below W.heap.size W w' := by
  have c := implOf_any (n : Int) W (by omega)
  rw [show ofO (n : Int) = some n from by unfold ofO; rw [if_pos (by omega), Int.toNat_natCast]] at c
  exact c.mono fun _ _ ⟨v, a, b, d⟩ => ⟨v, a, b.row, d⟩
/-- Two lists that are one. -/
theorem same_yes {v1 v2 : Value} {xs ys : List Int} {W : World} (h1 : RowI W v1 xs) (h2 : RowI W v2 ys) (he : xs = ys) (hn : xs.length ≤ 140737488351232) :
    Calls Try.prog 13 #[v1, v2] W fun e w' => e = .returned (.bool true) ∧ Below W.heap.size W w' := by
  subst he
  have c := same_any v1 v2 xs xs W h1 h2 hn hn
  rw [decide_eq_true rfl] at c
  exact c
end Go.Proofs.Ytobnghmadoejjaa
