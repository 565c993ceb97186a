/- Texts of this claim, put together: part 15. -/
import Derived.Test.YteadkdllmeeocaaFnBestPack11
import Derived.Test.YteadkdllmeeocaaFnBestPack6
import Derived.Test.YteadkdllmeeocaaFnBestPack14
import Derived.Laws.OwnMore
import Derived.Test.YteadkdllmeeocaaFnBestPack3
import Derived.Test.YteadkdllmeeocaaFnBestPack9
import Derived.Test.YteadkdllmeeocaaFnBestPack10
/- A list of noughts made; counts of noughts, in plain words. -/
namespace Go.Proofs.Yteadkdllmeeocaa
open Go.RowKit
set_option maxRecDepth 100000
theorem run_make_ints (base n : Nat) (w : World) (hn : n ≤ 1048576) (hb : base ≤ w.heap.size) : ∃ w', (Instr.makeSlice 24 (.int .i64 (n : Int)) (.int .i64 (n : Int))).run Try.prog w = .ok (.slice (some ⟨w.heap.size, 0, none⟩) n n) w' ∧
    w'.ownsRow base 3 1 (.slice (some ⟨w.heap.size, 0, none⟩) n n) n ((List.replicate n (0 : Int)).map (Value.int .i64)) ∧ w.grownBy w' none := by
  obtain ⟨i0, hi, hz0, hz1, hz2⟩ := info_parts intInfo
  obtain ⟨w', h1, h2, h3⟩ := run_make_full (P := Try.prog) w base 24 3 i0 (.int .i64 0) 1 Try.underlying24 hi hz0 hz1 .i64 .i64 n (by rw [hz2]; omega) (by unfold maxLen; omega) hb
  refine ⟨w', h1, ?_, h3⟩
  have e : (madeCells (Value.int .i64 0).cells (n * 1)).toList = (List.replicate n (0 : Int)).map (Value.int .i64) := by
    rw [Nat.mul_one, List.map_replicate]
    exact toList_madeCells_one _ _
  rw [← e]
  exact h2
theorem wp_make_ints {o : Oper} {a : Act} {w : World} {K : Act → World → Prop} {Q : Exit → Act → World → Prop} (l : Operand) (ho : o.op = .makeSlice 24 l l) (base n : Nat) (x : Int) (hx : x = (n : Int)) (hl : a.eval l = .int .i64 x) (hn : n ≤ 1048576) (hb : base ≤ w.heap.size)
    (hK : ∀ w', w'.ownsRow base 3 1 (.slice (some ⟨w.heap.size, 0, none⟩) n n) n ((List.replicate n (0 : Int)).map (Value.int .i64)) → w.grownBy w' none → K (a.put o.dst (.slice (some ⟨w.heap.size, 0, none⟩) n n)) w') : Oper.wp Try.prog o a w K Q := by
  subst hx
  obtain ⟨w', h1, h2, h3⟩ := run_make_ints base n w hn hb
  unfold Oper.wp
  simp [execOp, ho, hl, h1, Result.andThen]
  exact hK w' h2 h3
theorem wpList_make_ints {ops : Array Oper} {rest : List Oper} {o : Oper} {a : Act} {w : World} {Q : Exit → Act → World → Prop} (hg : o.guard = none) (l : Operand) (ho : o.op = .makeSlice 24 l l) (base n : Nat) (x : Int) (hx : x = (n : Int)) (hl : a.eval l = .int .i64 x) (hn : n ≤ 1048576) (hb : base ≤ w.heap.size)
    (hK : ∀ w', w'.ownsRow base 3 1 (.slice (some ⟨w.heap.size, 0, none⟩) n n) n ((List.replicate n (0 : Int)).map (Value.int .i64)) → w.grownBy w' none → wpList Try.prog ops Q rest (a.put o.dst (.slice (some ⟨w.heap.size, 0, none⟩) n n)) w') : wpList Try.prog ops Q (o :: rest) a w :=
  wpList_plain hg fun _ hK' => wp_make_ints l ho base n x hx hl hn hb fun w' h1 h2 => hK' _ _ (hK w' h1 h2)
/-- The same, the new block told outright. -/
theorem made_ints (n : Nat) (hn : n ≤ 1048576) : ∃ Z : Array Value, (∀ (x : Int) (W : World), x = (n : Int) → (Instr.makeSlice 24 (.int .i64 x) (.int .i64 x)).run Try.prog W = .ok (.slice (some ⟨W.heap.size, 0, none⟩) n n) (W.alloc (.cells Z 3))) ∧
    ∀ (W : World) (base : Nat), base ≤ W.heap.size → (W.alloc (.cells Z 3)).ownsRow base 3 1 (.slice (some ⟨W.heap.size, 0, none⟩) n n) n ((List.replicate n (0 : Int)).map (Value.int .i64)) := by
  obtain ⟨i0, hi, hz0, hz1, hz2⟩ := info_parts intInfo
  refine ⟨madeCells (Value.int .i64 0).cells (n * 1), fun x W hx => ?_, fun W base hb => ?_⟩
  · subst hx
    have h := run_make (P := Try.prog) W 24 3 i0 (.int .i64 0) Try.underlying24 hi hz0 .i64 .i64 n n (by omega) (Int.le_refl _) (by rw [hz2]; omega) (by omega)
    simp only [Int.toNat_natCast, hz1] at h
    exact h
  · have e : (madeCells (Value.int .i64 0).cells (n * 1)).toList = (List.replicate n (0 : Int)).map (Value.int .i64) := by
      rw [Nat.mul_one, List.map_replicate]
      exact toList_madeCells_one _ _
    rw [← e]
    exact World.ownsRow_lit W _ n hb (by unfold maxLen; omega) (size_madeCells _ _)
def binsN (a : AttrD) : Nat := (bins a).toNat
theorem binsN_eq (a : AttrD) : bins a = (binsN a : Int) := (Int.toNat_of_nonneg (small_bins a).1).symm
theorem binsN_le (a : AttrD) : binsN a ≤ 4 := by have := (small_bins a).2; have := binsN_eq a; omega
def newCells (s : SchemaD) : List (List Int) := s.attrs.map fun a => List.replicate (binsN a * s.classes.length) 0
def statsNew (s : SchemaD) : StatsD := if schemaOk s = true then ⟨List.replicate s.classes.length 0, newCells s⟩ else ⟨[], []⟩
theorem newCells_at {s : SchemaD} {k : Nat} (h : k < s.attrs.length) : il (newCells s) k = List.replicate (binsN (ad s.attrs k) * s.classes.length) 0 := by
  unfold newCells
  rw [il_eq (by simpa using h), List.getElem_map, ad_eq h]
theorem newCells_len (s : SchemaD) : (newCells s).length = s.attrs.length := by simp [newCells]
theorem ownSt_nil (base : Nat) (w : World) : OwnSt base w (.agg #[.slice none 0 0, .slice none 0 0]) ⟨[], []⟩ :=
  ⟨_, _, fun _ => .slice none 0 0, [], rfl, World.ownsRow_nil _ _ _ _, ⟨World.ownsRow_nil _ _ _ _, fun j hj => by simp at hj, fun j hj => by simp at hj, fun i j a b _ hj => by simp at hj⟩, fun j a b hj => by simp at hj⟩
end Go.Proofs.Yteadkdllmeeocaa
/- Cuts that rise, one more. -/
namespace Go.Proofs.Yteadkdllmeeocaa
theorem rise_snoc {ts : List Int} {x : Int} (h : ∀ j, j < ts.length → cutAt ts j = true) (hl : ts.length = 0 ∨ ts.getD (ts.length - 1) 0 < x) (hx : -9999 ≤ x ∧ x ≤ 9998) :
    ∀ j, j < (ts ++ [x]).length → cutAt (ts ++ [x]) j = true := by
  intro j hj
  rw [List.length_append, List.length_singleton] at hj
  have gl : ∀ i, i < ts.length → (ts ++ [x]).getD i 0 = ts.getD i 0 := fun i hi => by
    simp [List.getD, List.getElem?_append_left hi]
  by_cases e : j < ts.length
  · have := h j e
    unfold cutAt at this ⊢
    rw [gl j e]
    by_cases e0 : j = 0
    · subst e0; simpa using this
    · rw [gl (j - 1) (by omega)]; exact this
  · obtain rfl : j = ts.length := by omega
    have hg : (ts ++ [x]).getD ts.length 0 = x := by simp [List.getD]
    unfold cutAt
    rw [hg]
    rw [decide_eq_true hx, Bool.true_and]
    rcases hl with hl | hl
    · rw [decide_eq_true hl]; rfl
    · by_cases e0 : ts.length = 0
      · rw [decide_eq_true e0]; rfl
      · rw [gl (ts.length - 1) (by omega), decide_eq_true hl, Bool.or_true]
end Go.Proofs.Yteadkdllmeeocaa
/- Draws of chapter 5 in plain words: which attributes and schemas are drawn. -/
namespace Go.Proofs.Yteadkdllmeeocaa
open Go.RowKit
def nmL : List ByteArray := [⟨#[97, 103, 101]⟩, ⟨#[115, 105, 122, 101]⟩, ⟨#[99, 111, 108, 111, 117, 114]⟩, ⟨#[107]⟩, ⟨#[108, 111, 110, 103, 110, 97, 109, 101]⟩]
def vlL : List ByteArray := [⟨#[114, 101, 100]⟩, ⟨#[98, 108, 117, 101]⟩, ⟨#[120]⟩, ⟨#[103, 114, 101, 101, 110]⟩]
/-- What is drawn is small. -/
structure tinyA (a : AttrD) : Prop where
  name : a.name.size ≤ 16
  cuts : a.cuts.length ≤ 4
  vals : a.vals.length ≤ 5
  each : ∀ s ∈ a.vals, s.size ≤ 16
  low : ∀ c ∈ a.cuts, -10000 ≤ c ∧ c ≤ 9999
structure tinyS (s : SchemaD) : Prop where
  attrs : s.attrs.length ≤ 6
  each : ∀ a ∈ s.attrs, tinyA a
  classes : s.classes.length ≤ 4
  sizes : ∀ t ∈ s.classes, t.size ≤ 16
theorem nm_ok : ∀ i, i < 5 → wordOk (nmL.getD i ByteArray.empty) = true ∧ (nmL.getD i ByteArray.empty).size ≤ 16 := by decide +kernel
theorem vl_ok : ∀ n, 2 ≤ n → n < 5 → choices (vlL.take n) 4 = true := by
  intro n h1 h2
  have h : n = 2 ∨ n = 3 ∨ n = 4 := by omega
  rcases h with rfl | rfl | rfl <;> decide +kernel
theorem vl_each : ∀ s ∈ vlL, s.size ≤ 16 := by decide +kernel
theorem right_cuts {i : Nat} {cs : List Int} (hi : i < 5) (h1 : 1 ≤ cs.length) (h3 : cs.length ≤ 3) (h : ∀ j, j < cs.length → cutAt cs j = true) : attrOk ⟨nmL.getD i ByteArray.empty, cs, []⟩ = true := by
  unfold attrOk
  rw [(nm_ok i hi).1]
  show (true && (if cs.length = 0 then choices [] 4 else decide (([] : List ByteArray).length = 0) && (decide (cs.length ≤ 3) && cutsRise cs))) = true
  rw [if_neg (by omega), decide_eq_true h3, rise_yes h]; rfl
theorem right_vals {i n : Nat} (hi : i < 5) (h1 : 2 ≤ n) (h3 : n < 5) : attrOk ⟨nmL.getD i ByteArray.empty, [], vlL.take n⟩ = true := by
  unfold attrOk
  rw [(nm_ok i hi).1]
  show (true && (if ([] : List Int).length = 0 then choices (vlL.take n) 4 else decide ((vlL.take n).length = 0) && (decide (([] : List Int).length ≤ 3) && cutsRise []))) = true
  rw [if_pos (show ([] : List Int).length = 0 from rfl), vl_ok n h1 h3]; rfl
theorem small_of_ok {a : AttrD} (h : attrOk a = true) : a.cuts.length ≤ 3 ∧ a.vals.length ≤ 4 := by
  unfold attrOk at h
  rw [Bool.and_eq_true] at h
  have h2 := h.2
  split at h2
  · unfold choices at h2
    rw [Bool.and_eq_true] at h2
    have := of_decide_eq_true h2.1
    omega
  · rw [Bool.and_eq_true, Bool.and_eq_true] at h2
    have h3 := of_decide_eq_true h2.1
    have h4 := of_decide_eq_true h2.2.1
    omega
theorem own_castD {w : World} {b e n n' : Nat} {v : Value} {xs ys : List Value} (h : w.ownsRow b e 1 v n xs) (hn : n = n') (hx : xs = ys) : w.ownsRow b e 1 v n' ys := by subst hn hx; exact h
end Go.Proofs.Yteadkdllmeeocaa
/- Beside a draw: what is left as it was. -/
namespace Go.Proofs.Yteadkdllmeeocaa
open Go.RowKit
set_option maxRecDepth 100000
theorem IsCur.cellW {w : World} {g p : Nat} {a : Option Addr} {len cap : Nat} (h : IsCur w g a len cap) (k : Nat) (v : Value) (hp : g ≠ p) : IsCur (w.setCell ⟨p, k, none⟩ v) g a len cap := by
  obtain ⟨i, y, hi, hb⟩ := h
  exact ⟨i, y, hi, (heap_setCell_other w ⟨p, k, none⟩ g v hp).trans hb⟩
theorem IsCur.rowW {w : World} {g p : Nat} {a : Option Addr} {len cap : Nat} (h : IsCur w g a len cap) (cs : Array Value) (hp : g ≠ p) : IsCur (w.setRow p cs) g a len cap := by
  obtain ⟨i, y, hi, hb⟩ := h
  exact ⟨i, y, hi, (Go.setRow_other _ _ _ _ hp).trans hb⟩
/-- A row behind the cursor's block is left by a draw. -/
theorem own_curW {w w' : World} {base n g e s : Nat} {v : Value} {xs : List Value} (h : w.ownsRow base e s v n xs) (hg : g < base) (hk : w.grownBy w' (some g)) : w'.ownsRow base e s v n xs := by
  refine h.kept hk ?_
  cases e : v.ownBlock with
  | none => exact .inl rfl
  | some k =>
    refine .inr fun e' => ?_
    have := (h.lt k e).1
    injection e'
    omega
theorem grown_row' {w w' : World} {r : Option Nat} (h : w.grownBy w' r) {p : Nat} (hp : w.heap.size ≤ p) (cs : Array Value) : w.grownBy (w'.setRow p cs) r := grown_row h hp cs
end Go.Proofs.Yteadkdllmeeocaa
