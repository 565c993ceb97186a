/- Quotients and texts of great numbers, at lists that are told as plain numbers. -/
import Derived.Test.YtobnghmadoejjaaNg
import Derived.Test.YtobnghmadoejjaaFd
import Derived.Test.YtobnghmadoejjaaSd
import Derived.Test.YtobnghmadoejjaaFt
import Derived.Test.YtobnghmadoejjaaFg
import Derived.Test.YtobnghmadoejjaaNb
namespace Go.Proofs.Ytobnghmadoejjaa
open Go.RowKit

theorem back_txt {xs : List Int} (h : okL xs) : fromO (txt xs) = some (num xs) := by
  unfold txt
  rw [if_pos h]
  exact from_yes (decFrom_digits _) (okL_num_lt xs h) rfl
theorem txt_size {xs : List Int} (h : okL xs) : (txt xs).length ≤ 120 := by
  rcases Nat.lt_or_ge 120 (txt xs).length with k | k
  · have := from_len _ k
    rw [back_txt h] at this
    cases this
  · exact k
theorem none_txt {xs : List Int} (h : ¬ okL xs) : fromO (txt xs) = none := by
  unfold txt
  rw [if_neg h]
  exact from_no (v := 0) rfl (dec_ne 0)
/-- A great number is read from its text as it was. -/
theorem from_text {xs : List Int} (h : okL xs) (W : World) :
    Calls Try.prog 21 #[.string ⟨(txt xs).toArray⟩] W fun e w' => ∃ v, e = .returned (.tuple #[v, .bool true]) ∧ RowI w' v xs ∧ Below W.heap.size W w' := by
  have c := implFrom_any ⟨(txt xs).toArray⟩ W (by show (txt xs).toArray.size ≤ _; have := txt_size h; simp; omega)
  rw [show (⟨(txt xs).toArray⟩ : ByteArray).data.toList = txt xs from rfl, back_txt h] at c
  refine c.mono ?_
  rintro e w' ⟨v, rfl, b, d⟩
  refine ⟨v, rfl, ?_, d⟩
  have := b.row
  rw [← nl_of h] at this
  exact this
theorem from_none {xs : List Int} (h : ¬ okL xs) (W : World) :
    Calls Try.prog 21 #[.string ⟨(txt xs).toArray⟩] W fun e w' => ∃ v, e = .returned (.tuple #[v, .bool false]) ∧ Below W.heap.size W w' := by
  have c := implFrom_any ⟨(txt xs).toArray⟩ W (by show (txt xs).toArray.size ≤ _; unfold txt; rw [if_neg h]; simp)
  rw [show (⟨(txt xs).toArray⟩ : ByteArray).data.toList = txt xs from rfl, none_txt h] at c
  exact c.mono fun _ _ ⟨v, a, _, d⟩ => ⟨v, a, d⟩
theorem div_yes {xs : List Int} {d : Nat} {v : Value} {W : World} (hv : RowI W v xs) (h : okL xs) (h1 : 1 ≤ d) (h2 : d ≤ 16777215) :
    Calls Try.prog 19 #[v, .int .i64 (d : Int)] W fun e w' => ∃ u, e = .returned (.tuple #[u, .int .i64 ((num xs % d : Nat) : Int), .bool true]) ∧ RowI w' u (ans (some (num xs / d))) ∧ Below W.heap.size W w' := by
  have c := implDiv_any v xs (d : Int) W hv (by have := h.1; omega)
  have hd : divC xs (d : Int) := ⟨h, by omega, by omega⟩
  rw [show divO xs (d : Int) = some (num xs / d) from by unfold divO; rw [if_pos hd, Int.toNat_natCast], show remZ xs (d : Int) = ((num xs % d : Nat) : Int) from by unfold remZ; rw [if_pos hd, Int.toNat_natCast]] at c
  exact c.mono fun _ _ ⟨u, a, b, k⟩ => ⟨u, a, b.row, k⟩
theorem div_no {xs : List Int} {d : Int} {v : Value} {W : World} (hv : RowI W v xs) (hl : xs.length ≤ 140737488351232) (h : ¬ divC xs d) :
    Calls Try.prog 19 #[v, .int .i64 d] W fun e w' => ∃ u r, e = .returned (.tuple #[u, .int .i64 r, .bool false]) ∧ Below W.heap.size W w' := by
  have c := implDiv_any v xs d W hv hl
  rw [show divO xs d = none from if_neg h] at c
  exact c.mono fun _ _ ⟨u, a, _, k⟩ => ⟨u, _, a, k⟩
theorem sdiv {xs : List Int} {d : Int} {v : Value} {W : World} (hv : RowI W v xs) (hl : xs.length ≤ 140737488351232) {B : Bool} (h : (divO xs d).isSome = B) :
    Calls Try.prog 20 #[v, .int .i64 d] W fun e w' => ∃ u r, e = .returned (.tuple #[u, .int .i64 r, .bool B]) ∧ Below W.heap.size W w' := by
  have c := specDiv_any v xs d W hv hl
  rw [h] at c
  exact c.mono fun _ _ ⟨u, a, _, _, k⟩ => ⟨u, _, a, k⟩
end Go.Proofs.Ytobnghmadoejjaa
