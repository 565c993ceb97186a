/- Texts of this claim, put together: part 14. -/
import Derived.Maps.AppendAt
import Derived.Test.YteadkdllmeeocaaFnGiniPack3
import Derived.Test.YteadkdllmeeocaaFnGiniPack13
import Derived.Test.YteadkdllmeeocaaFnGiniPack1
import Derived.Test.YteadkdllmeeocaaFnGiniPack7
import Derived.Test.YteadkdllmeeocaaFnGiniPack8
import Derived.Test.YteadkdllmeeocaaFnGiniPack6
/- Two lists of numbers that grow beside each other. -/
namespace Go.Proofs.Yteadkdllmeeocaa
open Go.RowKit
set_option maxRecDepth 100000
/-- One number is put behind a list of the call's own; the block of the answer is told. -/
theorem wpList_push {ops : Array Oper} {rest : List Oper} {o : Oper} {a : Act} {w : World} {Q : Exit → Act → World → Prop} (hgd : o.guard = none) (s x : Operand)
    (ho : o.op = .call { callee := .builtin .append, args := #[s, x], argTypes := #[24, 24] })
    (base : Nat) (v : Value) (l : List Int) (y : Int) (g : Nat) (hs : a.eval s = v) (hx : a.eval x = .slice (some ⟨g, 0, none⟩) 1 1)
    (hown : w.ownsRow base 3 1 v l.length (l.map (Value.int .i64))) (hc : w.cell? ⟨g, 0, none⟩ = some (.int .i64 y)) (hn : l.length ≤ 1048576) (hb : base ≤ w.heap.size)
    (h : ∀ v' w', w'.ownsRow base 3 1 v' (l ++ [y]).length ((l ++ [y]).map (Value.int .i64)) → w.grownBy w' v.ownBlock → (v'.ownBlock = v.ownBlock ∨ v'.ownBlock = some w.heap.size) → wpList Try.prog ops Q rest (a.put o.dst v') w') :
    wpList Try.prog ops Q (o :: rest) a w := by
  obtain ⟨i0, hi0, hz0, hz1, hz2⟩ := info_parts intInfo
  have hnews : ∀ (j : Nat) (u : Value), ([.int .i64 y] : List Value)[j]? = some u → w.cell? ((⟨g, 0, none⟩ : Addr).add j) = some u := by
    intro j u hj
    match j, hj with
    | 0, hj => simp at hj; subst hj; simpa [Addr.add] using hc
  obtain ⟨v', w', hr, h2, h3, h4, h5⟩ := run_append_own_at (P := Try.prog) w base 24 o.type 3 i0 (.int .i64 0) 1 8 Try.underlying24 hi0 hz0 hz1 hz2 rfl (by decide) v l.length (l.map (Value.int .i64)) hown ⟨g, 0, none⟩ 1 1 [.int .i64 y] rfl hnews (by intro u hu; simp at hu; subst hu; rfl) (by unfold maxLen; omega) (by omega) hb
  refine wpList_plain hgd fun _ hK => ?_
  unfold Oper.wp execOp
  simp only [ho, resolve, invoke, builtin, Sem.run_bind, Sem.run_pure, Result.andThen_ok, List.map_toArray, List.map_cons, List.map_nil, hs, hx, hr]
  refine hK _ _ (h v' w' ?_ h3 h5)
  simpa using h2
theorem far10 {w w' : World} {row : Option Nat} (hg : w.grownBy w' row) (a : Addr) (hlt : a.block < w.heap.size) (hne : some a.block ≠ row) : w'.cell? a = w.cell? a := by
  unfold World.cell?
  rw [hg.block a.block hlt hne]
theorem push_cell (w : World) (x : Int) : (w.alloc (.cells #[.int .i64 x] 3)).cell? ⟨w.heap.size, 0, none⟩ = some (.int .i64 x) := (Blk.new 3 w #[.int .i64 x]).cell 0
/-- Two lists of the call's own, apart. -/
structure Pair10 (b : Nat) (w : World) (v u : Value) (zs qs : List Int) : Prop where
  l : w.ownsRow b 3 1 v zs.length (zs.map (Value.int .i64))
  r : w.ownsRow b 3 1 u qs.length (qs.map (Value.int .i64))
  ne : ∀ p q, v.ownBlock = some p → u.ownBlock = some q → p ≠ q
theorem Pair10.below {b : Nat} {w w' : World} {v u : Value} {zs qs : List Int} (h : Pair10 b w v u zs qs) (hb : Below w.heap.size w w') : Pair10 b w' v u zs qs := ⟨own_below h.l hb, own_below h.r hb, h.ne⟩
theorem apart10 {v v' : Value} (h : ∀ a b, v.ownBlock = some a → v'.ownBlock = some b → a ≠ b) : v.ownBlock = none ∨ v.ownBlock ≠ v'.ownBlock := by
  cases e : v.ownBlock with
  | none => exact .inl rfl
  | some k =>
    refine .inr fun e' => ?_
    exact h k k e e'.symm rfl
theorem Pair10.left {b : Nat} {w w' : World} {v u v' : Value} {zs qs zs' : List Int} (h : Pair10 b w v u zs qs) (ho : w'.ownsRow b 3 1 v' zs'.length (zs'.map (Value.int .i64))) (hg : w.grownBy w' v.ownBlock)
    (hat : v'.ownBlock = v.ownBlock ∨ v'.ownBlock = some w.heap.size) : Pair10 b w' v' u zs' qs :=
  ⟨ho, h.r.kept hg (apart10 fun p q hp hq => Ne.symm (h.ne q p hq hp)), fun p q hp hq => by
    rcases hat with e | e
    · exact h.ne p q (e.symm.trans hp) hq
    · rw [e] at hp
      injection hp with hp
      have := (h.r.lt q hq).2
      omega⟩
theorem Pair10.right {b : Nat} {w w' : World} {v u u' : Value} {zs qs qs' : List Int} (h : Pair10 b w v u zs qs) (ho : w'.ownsRow b 3 1 u' qs'.length (qs'.map (Value.int .i64))) (hg : w.grownBy w' u.ownBlock)
    (hat : u'.ownBlock = u.ownBlock ∨ u'.ownBlock = some w.heap.size) : Pair10 b w' v u' zs qs' :=
  ⟨h.l.kept hg (apart10 fun p q hp hq => h.ne p q hp hq), ho, fun p q hp hq => by
    rcases hat with e | e
    · exact h.ne p q hp (e.symm.trans hq)
    · rw [e] at hq
      injection hq with hq
      have := (h.l.lt p hp).2
      omega⟩
/-- Both lists empty, each newly made. -/
theorem Pair10.start (w : World) : Pair10 w.heap.size ((w.alloc (.cells #[] 3)).alloc (.cells #[] 3)) (.slice (some ⟨w.heap.size, 0, none⟩) 0 0) (.slice (some ⟨w.heap.size + 1, 0, none⟩) 0 0) [] [] := by
  refine ⟨(ownI_lit0 w _ (Nat.le_refl _)).alloc _, ?_, fun p q hp hq => ?_⟩
  · have := ownI_lit0 (w.alloc (.cells #[] 3)) w.heap.size (by simp)
    rwa [World.size_alloc] at this
  · injection hp with hp
    injection hq with hq
    simp only at hp hq
    omega
end Go.Proofs.Yteadkdllmeeocaa
/- Counts built anew, list by list. -/
namespace Go.Proofs.Yteadkdllmeeocaa
open Go.RowKit
set_option maxRecDepth 100000
/-- One number is put behind a list of the call's own. -/
theorem wp_push {o : Oper} {a : Act} {w : World} {K : Act → World → Prop} {Q : Exit → Act → World → Prop} (s x : Operand)
    (ho : o.op = .call { callee := .builtin .append, args := #[s, x], argTypes := #[24, 24] })
    (base : Nat) (v : Value) (l : List Int) (y : Int) (g : Nat) (hs : a.eval s = v) (hx : a.eval x = .slice (some ⟨g, 0, none⟩) 1 1)
    (hown : w.ownsRow base 3 1 v l.length (l.map (Value.int .i64))) (hc : w.cell? ⟨g, 0, none⟩ = some (.int .i64 y)) (hn : l.length ≤ 1048576) (hb : base ≤ w.heap.size)
    (h : ∀ v' w', w'.ownsRow base 3 1 v' (l ++ [y]).length ((l ++ [y]).map (Value.int .i64)) → w.grownBy w' v.ownBlock → K (a.put o.dst v') w') :
    o.wp Try.prog a w K Q := by
  obtain ⟨i0, hi0, hz0, hz1, hz2⟩ := info_parts intInfo
  have hnews : ∀ (j : Nat) (u : Value), ([.int .i64 y] : List Value)[j]? = some u → w.cell? ((⟨g, 0, none⟩ : Addr).add j) = some u := by
    intro j u hj
    match j, hj with
    | 0, hj => simp at hj; subst hj; simpa [Addr.add] using hc
  refine wp_append_own _ _ _ 24 ho base 3 i0 (.int .i64 0) 1 8 Try.underlying24 hi0 hz0 hz1 hz2 rfl (by decide) v l.length (l.map (Value.int .i64)) hs hown ⟨g, 0, none⟩ 1 1 [.int .i64 y] hx rfl hnews (ints_oneCell .i64 [y]) (by unfold maxLen; omega) (by omega) hb ?_
  intro v' w' h2 h3 _
  exact h v' w' (by simpa using h2) h3
section
variable {ops : Array Oper} {S : World → Prop} {op : Oper} {a : Act}
/-- What is left of a division. -/
theorem yields_rem (hw : Region.wanted op (yielded ops a.tmps) = true) (x y : Operand) (ho : op.op = .binOp .rem 3 x y 3) (m n : Int) (hx : a.eval x = .int .i64 m) (hy : a.eval y = .int .i64 n)
    (h0 : 0 ≤ m) (_h1 : m ≤ 9223372036854775807) (h2 : 0 < n) : YieldsIf Try.prog ops S op (.int .i64 (m % n)) a :=
  .inl ⟨hw, fun w hw' => by
    have hle : m % n ≤ m := by
      have e1 := Int.mul_ediv_add_emod m n
      have e2 := Int.ediv_nonneg h0 (show 0 ≤ n by omega)
      have e3 := Int.mul_nonneg (show 0 ≤ n by omega) e2
      omega
    have hge : 0 ≤ m % n := Int.emod_nonneg _ (by omega)
    unfold execOp
    simp only [ho, hx, hy]
    go_simp
    rw [if_neg (by omega), Int.tmod_eq_emod_of_nonneg h0]⟩
end
/-- The first n numbers of a rule. -/
def mkL (n : Nat) (g : Nat → Int) : List Int := (List.range n).map g
theorem mkL_len (n : Nat) (g : Nat → Int) : (mkL n g).length = n := by simp [mkL]
theorem mkL_succ (n : Nat) (g : Nat → Int) : mkL (n + 1) g = mkL n g ++ [g n] := by unfold mkL; rw [List.range_succ, List.map_append]; rfl
theorem mkL_at {n k : Nat} (h : k < n) (g : Nat → Int) : (mkL n g).getD k 0 = g k := by
  unfold mkL
  rw [List.getD_eq_getElem?_getD, List.getElem?_map, List.getElem?_range h]; rfl
theorem sum_rev (l : List Int) : sumL l.reverse = sumL l := by
  induction l with
  | nil => rfl
  | cons x r ih => rw [List.reverse_cons, sumL_snoc, sum_cons10, ih]; omega
theorem tw_rev (m : Nat) : Tw 1 (fun k => m - 1 - k) List.reverse m := by
  refine ⟨Int.le_refl _, fun k hk => by omega, fun l h => by simp [h], fun l h k hk => ?_, fun l _ => by rw [sum_rev]; omega, fun l _ => ?_⟩
  · rw [List.getD_eq_getElem?_getD, List.getElem?_reverse (by omega), Int.one_mul, List.getD_eq_getElem?_getD, h]
  · unfold sqL
    rw [List.map_reverse, sum_rev]; omega
def dbl (l : List Int) : List Int := l.map fun x => 2 * x
theorem sum_dbl (f : Int → Int) (c : Int) (l : List Int) : sumL (l.map fun x => c * f x) = c * sumL (l.map f) := by
  induction l with
  | nil => show (0 : Int) = c * 0; omega
  | cons x r ih => rw [List.map_cons, List.map_cons, sum_cons10, sum_cons10, ih, Int.mul_add]
theorem dbl_at (l : List Int) (k : Nat) : (dbl l).getD k 0 = 2 * l.getD k 0 := by
  unfold dbl
  rw [List.getD_eq_getElem?_getD, List.getD_eq_getElem?_getD, List.getElem?_map]
  cases l[k]? <;> rfl
theorem tw_dbl (m : Nat) : Tw 2 (fun k => k) dbl m := by
  refine ⟨by omega, fun k hk => hk, fun l h => by simp [dbl, h], fun l _ k _ => dbl_at l k, fun l _ => ?_, fun l _ => ?_⟩
  · unfold dbl
    have := sum_dbl (fun x => x) 2 l
    rw [List.map_id'] at this
    exact this
  · unfold sqL dbl
    rw [List.map_map]
    have := sum_dbl (fun x => x * x) (2 * 2) l
    rw [← this]
    congr 1
    apply List.map_congr_left
    intro x _
    show 2 * x * (2 * x) = 2 * 2 * (x * x)
    grind
/-- Each cell's list by a rule. -/
def mkG10 (cs : List (List Int)) (g : List Int → Nat → Int) : List (List Int) := cs.map fun r => mkL r.length (g r)
theorem mkG10_il {cs : List (List Int)} {a : Nat} (h : a < cs.length) (g : List Int → Nat → Int) : il (mkG10 cs g) a = mkL (il cs a).length (g (il cs a)) := by
  unfold il mkG10
  rw [List.getD_eq_getElem?_getD, List.getElem?_map, List.getElem?_eq_getElem h, List.getD_eq_getElem?_getD, List.getElem?_eq_getElem h]; rfl
def gRev (m : Nat) (r : List Int) (i : Nat) : Int := r.getD (i / m * m + m - 1 - i % m) 0
def gDbl (r : List Int) (i : Nat) : Int := 2 * r.getD i 0
theorem twst_rev {s : SchemaD} {t : StatsD} (h : statsOk s t = true) (h0 : t.cells.length ≠ 0) : TwSt 1 (fun k => s.classes.length - 1 - k) List.reverse s t ⟨mkL s.classes.length fun k => t.totals.getD (s.classes.length - 1 - k) 0, mkG10 t.cells (gRev s.classes.length)⟩ := by
  obtain ⟨h1, h2, h3, h4⟩ := statsOk_parts h
  have hcl := cells_len h h0
  refine ⟨?_, by simp [mkG10], fun a ha => by show (il (mkG10 t.cells _) a).length = _; rw [mkG10_il ha, mkL_len], fun a ha k b hk hb => ?_⟩
  · refine ext_getD (by rw [mkL_len]; simp [h2]) fun k hk => ?_
    rw [mkL_len] at hk
    rw [mkL_at hk, (tw_rev s.classes.length).at' _ h2 k hk]; omega
  · obtain ⟨hac, q1, -⟩ := cells_right h h0 ha
    show (il (mkG10 t.cells _) a).getD (b * s.classes.length + k) 0 = 1 * (il t.cells a).getD (b * s.classes.length + (s.classes.length - 1 - k)) 0
    have hlt : b * s.classes.length + k < (il t.cells a).length := by
      rw [q1]
      have := Nat.mul_le_mul_right s.classes.length (show b + 1 ≤ (bins (ad s.attrs a)).toNat from hb)
      rw [Nat.add_mul] at this
      omega
    rw [mkG10_il hac, mkL_at hlt]
    unfold gRev
    have e1 : (b * s.classes.length + k) / s.classes.length = b := by
      rw [Nat.mul_comm, Nat.mul_add_div (by omega), Nat.div_eq_of_lt hk]; omega
    have e2 : (b * s.classes.length + k) % s.classes.length = k := by
      rw [Nat.mul_comm, Nat.mul_add_mod, Nat.mod_eq_of_lt hk]
    rw [e1, e2, Int.one_mul]
    congr 1
    omega
theorem twst_dbl {s : SchemaD} {t : StatsD} (h : statsOk s t = true) (h0 : t.cells.length ≠ 0) : TwSt 2 (fun k => k) dbl s t ⟨mkL s.classes.length fun k => 2 * t.totals.getD k 0, mkG10 t.cells gDbl⟩ := by
  obtain ⟨h1, h2, h3, h4⟩ := statsOk_parts h
  refine ⟨?_, by simp [mkG10], fun a ha => by show (il (mkG10 t.cells _) a).length = _; rw [mkG10_il ha, mkL_len], fun a ha k b hk hb => ?_⟩
  · refine ext_getD (by rw [mkL_len]; simp [dbl, h2]) fun k hk => ?_
    rw [mkL_len] at hk
    rw [mkL_at hk, dbl_at]
  · obtain ⟨hac, q1, -⟩ := cells_right h h0 ha
    show (il (mkG10 t.cells _) a).getD (b * s.classes.length + k) 0 = 2 * (il t.cells a).getD (b * s.classes.length + k) 0
    have hlt : b * s.classes.length + k < (il t.cells a).length := by
      rw [q1]
      have := Nat.mul_le_mul_right s.classes.length (show b + 1 ≤ (bins (ad s.attrs a)).toNat from hb)
      rw [Nat.add_mul] at this
      omega
    rw [mkG10_il hac, mkL_at hlt]; rfl
end Go.Proofs.Yteadkdllmeeocaa
/- What FnGini asks, in plain words. -/
namespace Go.Proofs.Yteadkdllmeeocaa
open Go.RowKit
set_option maxRecDepth 100000
/-- How many of the first numbers are above nought. -/
def posTo (l : List Int) : Nat → Nat
  | 0 => 0
  | k + 1 => posTo l k + if 0 < l.getD k 0 then 1 else 0
theorem posTo_le (l : List Int) : ∀ k, posTo l k ≤ k
  | 0 => Nat.le_refl _
  | k + 1 => by have := posTo_le l k; show posTo l k + _ ≤ _; split <;> omega
theorem sq_pos_some {a b : Int} (ha : 0 ≤ a) (hb : 0 ≤ b) : a * b = 0 ↔ ¬ (0 < a ∧ 0 < b) := by
  constructor
  · rintro h ⟨h1, h2⟩
    have := Int.mul_pos h1 h2
    omega
  · intro h
    have : a = 0 ∨ b = 0 := by omega
    rcases this with rfl | rfl
    · exact Int.zero_mul _
    · exact Int.mul_zero _
theorem gap_pos {l : List Int} (h3 : l.length ≤ 3) (h : ∀ j, j < l.length → inW (l.getD j 0) = true) : sqL l ≤ sumL l * sumL l ∧ (sumL l * sumL l - sqL l = 0 ↔ posTo l l.length ≤ 1) ∧ (1 ≤ sumL l → 1 ≤ sqL l) := by
  match l, h3 with
  | [], _ => exact ⟨by decide, by decide, by decide⟩
  | [a], _ =>
    have ha := of_decide_eq_true (h 0 (by simp))
    have e1 : sumL [a] = a := by rw [sum_cons10]; show a + 0 = a; omega
    have e2 : sqL [a] = a * a := by show sumL [a * a] = _; rw [sum_cons10]; show a * a + 0 = _; omega
    rw [e1, e2]
    refine ⟨Int.le_refl _, ⟨fun _ => posTo_le [a] 1, fun _ => by omega⟩, fun h1 => ?_⟩
    have := Int.mul_le_mul h1 h1 (by omega) (by omega); omega
  | [a, b], _ =>
    have ha := of_decide_eq_true (h 0 (by simp))
    have hb := of_decide_eq_true (h 1 (by simp))
    have ha' : 0 ≤ a ∧ a ≤ 999 := ha
    have hb' : 0 ≤ b ∧ b ≤ 999 := hb
    have e1 : sumL [a, b] = a + b := by rw [sum_cons10, sum_cons10]; show a + (b + 0) = _; omega
    have e2 : sqL [a, b] = a * a + b * b := by show sumL [a * a, b * b] = _; rw [sum_cons10, sum_cons10]; show a * a + (b * b + 0) = _; omega
    have e3 : posTo [a, b] [a, b].length = (0 + if 0 < a then 1 else 0) + if 0 < b then 1 else 0 := rfl
    have n1 := Int.mul_nonneg ha'.1 hb'.1
    have e4 : (a + b) * (a + b) - (a * a + b * b) = 2 * (a * b) := by grind
    have p1 := sq_pos_some ha'.1 hb'.1
    have s1 := sq_small (show inW a = true from ha |> decide_eq_true)
    have s2 := sq_small (show inW b = true from hb |> decide_eq_true)
    rw [e1, e2, e3]
    refine ⟨by omega, ?_, fun h1 => ?_⟩
    · rw [e4, show (2 * (a * b) = 0) = (a * b = 0) by apply propext; omega, p1]
      split <;> split <;> omega
    · by_cases h2 : 1 ≤ a
      · have := Int.mul_le_mul h2 h2 (by omega) (by omega); omega
      · have h3 : 1 ≤ b := by omega
        have := Int.mul_le_mul h3 h3 (by omega) (by omega); omega
  | [a, b, c], _ =>
    have ha : 0 ≤ a ∧ a ≤ 999 := of_decide_eq_true (h 0 (by simp))
    have hb : 0 ≤ b ∧ b ≤ 999 := of_decide_eq_true (h 1 (by simp))
    have hc : 0 ≤ c ∧ c ≤ 999 := of_decide_eq_true (h 2 (by simp))
    have e1 : sumL [a, b, c] = a + b + c := by rw [sum_cons10, sum_cons10, sum_cons10]; show a + (b + (c + 0)) = _; omega
    have e2 : sqL [a, b, c] = a * a + b * b + c * c := by show sumL [a * a, b * b, c * c] = _; rw [sum_cons10, sum_cons10, sum_cons10]; show a * a + (b * b + (c * c + 0)) = _; omega
    have e3 : posTo [a, b, c] [a, b, c].length = ((0 + if 0 < a then 1 else 0) + if 0 < b then 1 else 0) + if 0 < c then 1 else 0 := rfl
    have n1 := Int.mul_nonneg ha.1 hb.1
    have n2 := Int.mul_nonneg hb.1 hc.1
    have n3 := Int.mul_nonneg ha.1 hc.1
    have e4 : (a + b + c) * (a + b + c) - (a * a + b * b + c * c) = 2 * (a * b + b * c + a * c) := by grind
    have p1 := sq_pos_some ha.1 hb.1
    have p2 := sq_pos_some hb.1 hc.1
    have p3 := sq_pos_some ha.1 hc.1
    have s1 := (sq_small (x := a) (decide_eq_true ha)).1
    have s2 := (sq_small (x := b) (decide_eq_true hb)).1
    have s3 := (sq_small (x := c) (decide_eq_true hc)).1
    rw [e1, e2, e3]
    refine ⟨by omega, ?_, fun h1 => ?_⟩
    · rw [e4, show (2 * (a * b + b * c + a * c) = 0) = (a * b = 0 ∧ b * c = 0 ∧ a * c = 0) by apply propext; omega, p1, p2, p3]
      split <;> split <;> split <;> omega
    · by_cases h2 : 1 ≤ a
      · have := Int.mul_le_mul h2 h2 (by omega) (by omega); omega
      · by_cases h4 : 1 ≤ b
        · have := Int.mul_le_mul h4 h4 (by omega) (by omega); omega
        · have h5 : 1 ≤ c := by omega
          have := Int.mul_le_mul h5 h5 (by omega) (by omega); omega
  | _ :: _ :: _ :: _ :: _, h4 => simp at h4
theorem gini_facts {l : List Int} (hs : ¬ squares l < 0) : 0 ≤ giniN l ∧ giniN l < giniD l ∧ giniD l ≤ 9223372036854775807 ∧ (giniN l = 0 ↔ posTo l l.length ≤ 1) := by
  rcases squares_cases l with h1 | ⟨h3, ha, hsq, hq0, hq1, hn0, hn1⟩
  · omega
  obtain ⟨g1, g2, g3⟩ := gap_pos h3 ha
  unfold giniN giniD
  rw [if_neg hs, if_neg hs]
  by_cases h0 : sumL l = 0
  · rw [if_pos h0, if_pos h0]
    refine ⟨by omega, by omega, by omega, fun _ => ?_, fun _ => rfl⟩
    refine g2.1 ?_
    rw [h0] at g1 ⊢
    omega
  · rw [if_neg h0, if_neg h0, hsq]
    rw [hsq] at hq0 hq1
    have hnn := mul_small hn0 hn1
    have h1 := Int.mul_le_mul (show 1 ≤ sumL l by omega) (show 1 ≤ sumL l by omega) (by omega) (by omega)
    obtain ⟨g, p, q, hg, e1, e2, e3, e4, -, hq⟩ := low_terms (frB_mk (a := sumL l * sumL l - sqL l) (b := sumL l * sumL l) ⟨by omega, by omega, by omega, by omega⟩)
    rw [e3, e4]
    have hs1 := g3 (by omega)
    have hlt : g * p < g * q := by omega
    have hpq : p < q := Nat.lt_of_mul_lt_mul_left hlt
    have hqg : q ≤ g * q := Nat.le_mul_of_pos_left _ hg
    refine ⟨by omega, by omega, by omega, ?_⟩
    rw [← g2, e1]
    constructor
    · intro h; have : p = 0 := by omega
      rw [this, Nat.mul_zero]; rfl
    · intro h
      have h5 : g * p = 0 := by omega
      rcases Nat.mul_eq_zero.1 h5 with h6 | h6 <;> omega
theorem gini_rev (l : List Int) : giniN (mkL l.length fun k => l.getD (l.length - 1 - k) 0) = giniN l ∧ giniD (mkL l.length fun k => l.getD (l.length - 1 - k) 0) = giniD l := by
  have e : (mkL l.length fun k => l.getD (l.length - 1 - k) 0) = l.reverse := ext_getD (by rw [mkL_len]; simp) fun k hk => by
    rw [mkL_len] at hk
    rw [mkL_at hk, (tw_rev l.length).at' l rfl k hk]; omega
  have hq : squares l.reverse = squares l := by
    unfold squares
    rw [List.length_reverse, List.all_reverse, (tw_rev l.length).sq l rfl]
    simp
  rw [e]
  unfold giniN giniD
  rw [hq, sum_rev]
  exact ⟨rfl, rfl⟩
theorem gini_dbl {l : List Int} (hs : ¬ squares (dbl l) < 0) (hs2 : ¬ squares l < 0) : giniN (dbl l) = giniN l ∧ giniD (dbl l) = giniD l := by
  rcases squares_cases l with h1 | ⟨h3, ha, hsq, hq0, hq1, hn0, hn1⟩
  · omega
  rcases squares_cases (dbl l) with h1 | ⟨h3', ha', hsq', hq0', hq1', hn0', hn1'⟩
  · omega
  have es : sumL (dbl l) = 2 * sumL l := (tw_dbl l.length).sum l rfl
  have eq : sqL (dbl l) = 2 * 2 * sqL l := (tw_dbl l.length).sq l rfl
  unfold giniN giniD
  rw [if_neg hs, if_neg hs2, if_neg hs, if_neg hs2]
  by_cases h0 : sumL l = 0
  · rw [if_pos h0, if_pos h0, if_pos (by omega), if_pos (by omega)]
    exact ⟨rfl, rfl⟩
  · rw [if_neg h0, if_neg h0, if_neg (by omega), if_neg (by omega)]
    have hle := (gap_pos h3 ha).1
    have hle' := (gap_pos h3' ha').1
    have m1 := mul_small hn0 hn1
    have m2 := mul_small hn0' hn1'
    have h1 := Int.mul_le_mul (show 1 ≤ sumL l by omega) (show 1 ≤ sumL l by omega) (by omega) (by omega)
    have h2 := Int.mul_le_mul (show 1 ≤ sumL (dbl l) by omega) (show 1 ≤ sumL (dbl l) by omega) (by omega) (by omega)
    refine low_eq (frB_mk ⟨by omega, by omega, by omega, by omega⟩) (frB_mk ⟨by omega, by omega, by omega, by omega⟩) ?_
    rw [hsq, hsq', es, eq]
    generalize sumL l = n
    generalize sqL l = q
    grind
theorem halves {l : List Int} (hs : ¬ squares l < 0) : (mkL l.length fun k => l.getD k 0 / 2 * 2) = dbl (mkL l.length fun k => l.getD k 0 / 2) ∧ ¬ squares (mkL l.length fun k => l.getD k 0 / 2 * 2) < 0 ∧ ¬ squares (mkL l.length fun k => l.getD k 0 / 2) < 0 := by
  rcases squares_cases l with h1 | ⟨h3, ha, hsq, hq0, hq1, hn0, hn1⟩
  · omega
  have hv : ∀ k, k < l.length → 0 ≤ l.getD k 0 ∧ l.getD k 0 ≤ 999 := fun k hk => of_decide_eq_true (ha k hk)
  have pos : ∀ (g : Nat → Int), (∀ k, k < l.length → 0 ≤ g k ∧ g k ≤ 999) → ¬ squares (mkL l.length g) < 0 := fun g hg => by
    have hw : ∀ j, j < (mkL l.length g).length → inW ((mkL l.length g).getD j 0) = true := fun j hj => by
      rw [mkL_len] at hj
      rw [mkL_at hj]
      exact decide_eq_true (hg j hj)
    rw [squares_yes (by rw [mkL_len]; exact h3) hw]
    have := (sq_bound _ (Nat.le_refl _) hw).1
    omega
  refine ⟨ext_getD (by rw [mkL_len]; unfold dbl; rw [List.length_map, mkL_len]) fun k hk => ?_, pos _ fun k hk => ?_, pos _ fun k hk => ?_⟩
  · rw [mkL_len] at hk
    rw [dbl_at, mkL_at hk, mkL_at hk]; omega
  · have := hv k hk; omega
  · have := hv k hk; omega
end Go.Proofs.Yteadkdllmeeocaa
/- The sum of squares, the sum and the impurity, by the program. -/
namespace Go.Proofs.Yteadkdllmeeocaa
open Go.RowKit
set_option maxRecDepth 100000
set_option linter.unusedSimpArgs false
theorem implSum10_any (v : Value) (cs : List Int) (w : World) (h : RowI w v cs) (hn : cs.length ≤ 1048576) (hb : ∀ j, j < cs.length → inW (cs.getD j 0) = true) :
    Calls Try.prog 29 #[v] w fun e w' => e = .returned (.int .i64 (sumL cs)) ∧ w' = w := by
  obtain ⟨oa, cap, rfl, hc, hr⟩ := h
  have HJ : Hid (∀ k, k < cs.length → ∃ g o, oa = some ⟨g, o, none⟩ ∧ w.cell? ⟨g, o + k, none⟩ = some (.int .i64 (cs.getD k 0))) := fun k hk => by
    obtain ⟨g, o, e, hg, hj⟩ := hr (by omega)
    exact ⟨g, o, e, hj k hk⟩
  have HB : Hid (∀ j, j < cs.length → inW (cs.getD j 0) = true) := hb
  clear hr hb
  go_enter Try.func29, Try.ntmps29
  go_wp2
  go_loop [3, 8] (fun n i => ∃ k : Nat, i = .int .i64 k ∧ n = .int .i64 (sumL (cs.take k)) ∧ k ≤ cs.length) (fun _ i => cs.length - (intOf i).toNat)
  case atStart => exact ⟨0, rfl, rfl, by omega⟩
  case round =>
    obtain ⟨k, rfl, rfl, hk⟩ := hrel
    have HL := sum_bound10 k hk fun j hj => HB.out j (by omega)
    by_cases hlt : k < cs.length
    · obtain ⟨g, o, rfl, hcell⟩ := HJ.out k hlt
      have hin := of_decide_eq_true (HB.out k hlt)
      have HS : Hid (sumL (cs.take (k + 1)) = sumL (cs.take k) + cs.getD k 0) := sum_take10 hlt
      generalize cs.getD k 0 = c at hcell HS hin
      generalize sumL (cs.take k) = b at HL HS
      have h1 : b + c ≤ 1048576 * 999 + 999 := by omega
      go_wp2
      go_round
      case rel => exact ⟨k + 1, by go_num, by rw [HS.out], by omega⟩
      case measure => simp [intOf]; omega
    · have HE : Hid (sumL (cs.take k) = sumL cs) := by rw [List.take_of_length_le (by omega)]; rfl
      rw [HE.out]
      go_wp2
      go_ret
      exact ⟨rfl, rfl⟩
theorem implSquares_any (v : Value) (cs : List Int) (w : World) (h : RowI w v cs) (hn : cs.length ≤ 1099511627776) :
    Calls Try.prog 13 #[v] w fun e w' => e = .returned (.int .i64 (squares cs)) ∧ w' = w := by
  obtain ⟨oa, cap, rfl, hc, hr⟩ := h
  by_cases h3 : 3 < cs.length
  · rw [squares_long h3]
    clear hr
    go_enter Try.func13, Try.ntmps13
    go_wp2
    go_ret
    exact ⟨rfl, rfl⟩
  have HJ : Hid (∀ k, k < cs.length → ∃ g o, oa = some ⟨g, o, none⟩ ∧ w.cell? ⟨g, o + k, none⟩ = some (.int .i64 (cs.getD k 0))) := fun k hk => by
    obtain ⟨g, o, e, hg, hj⟩ := hr (by omega)
    exact ⟨g, o, e, hj k hk⟩
  clear hr
  have hq3 : decide (3 < cs.length) = false := decide_eq_false h3
  go_enter Try.func13, Try.ntmps13
  go_wp2
  clear hq3
  go_loop [3, 11] (fun n i => ∃ k : Nat, i = .int .i64 k ∧ n = .int .i64 (sqL (cs.take k)) ∧ k ≤ cs.length ∧ Hid (∀ j, j < k → inW (cs.getD j 0) = true)) (fun _ i => cs.length - (intOf i).toNat)
  case atStart => exact ⟨0, rfl, rfl, by omega, fun j hj => by omega⟩
  case round =>
    obtain ⟨k, rfl, rfl, hk, HB⟩ := hrel
    have HL := sq_bound k hk fun j hj => HB.out j hj
    by_cases hlt : k < cs.length
    rotate_left
    · have HE : Hid (sqL (cs.take k) = squares cs) := by
        show _ = _
        rw [squares_yes (by omega) (fun j hj => HB.out j (by omega))]
        rw [List.take_of_length_le (by omega), List.take_of_length_le (by omega)]
      rw [HE.out]
      go_wp2
      go_ret
      exact ⟨rfl, rfl⟩
    obtain ⟨g, o, rfl, hcell⟩ := HJ.out k hlt
    have HS : Hid (sqL (cs.take (k + 1)) = sqL (cs.take k) + cs.getD k 0 * cs.getD k 0) := sq_take hlt
    by_cases hin : 0 ≤ cs.getD k 0 ∧ cs.getD k 0 ≤ 999
    rotate_left
    · have HE : Hid (squares cs = -1) := squares_no hlt (decide_eq_false hin)
      clear HS
      generalize cs.getD k 0 = c at hcell hin
      by_cases h0 : c < 0
      · go_wp2
        go_ret
        exact ⟨by rw [HE.out]; rfl, rfl⟩
      · have h1 : ¬ c ≤ 999 := by omega
        go_wp2
        go_ret
        exact ⟨by rw [HE.out]; rfl, rfl⟩
    have HIN : Hid (inW (cs.getD k 0) = true) := decide_eq_true hin
    have hsq := sq_small HIN.out
    have HB2 : Hid (∀ j, j < k + 1 → inW (cs.getD j 0) = true) := fun j hj => by
      rcases Nat.lt_or_eq_of_le (Nat.le_of_lt_succ hj) with h | h
      · exact HB.out j h
      · rw [h]; exact HIN.out
    clear HB HIN
    generalize cs.getD k 0 = c at hcell hin HS hsq
    generalize sqL (cs.take k) = b at HL HS
    generalize hcc : c * c = y at HS hsq
    go_wp2
    go_round
    case rel => exact ⟨k + 1, by go_num, by rw [HS.out], by omega, HB2⟩
    case measure => simp [intOf]; omega
theorem implSquaresB (v : Value) (cs : List Int) (w : World) (h : RowI w v cs) (hn : cs.length ≤ 1099511627776) :
    Calls Try.prog 13 #[v] w fun e w' => e = .returned (.int .i64 (squares cs)) ∧ Below w.heap.size w w' :=
  (implSquares_any v cs w h hn).mono fun e w' h => ⟨h.1, by rw [h.2]; exact Below.refl _ _⟩
theorem implGini_any (v : Value) (cs : List Int) (w : World) (h : RowI w v cs) (hn : cs.length ≤ 1099511627776) :
    Calls Try.prog 11 #[v] w fun e w' => e = .returned (frV (giniN cs) (giniD cs)) ∧ Below w.heap.size w w' := by
  have B := below_1 w (.cells #[.int .i64 0, .int .i64 0] 27)
  have K : Fr (w.alloc (.cells #[.int .i64 0, .int .i64 0] 27)) w.heap.size 0 0 := Blk.new _ _ _
  have hr := h.later B
  have cc := implSquares_any v cs _ hr hn
  clear h
  rcases squares_cases cs with hs | ⟨h3, ha, hs, hs0, hs1, hs2, hs3⟩
  · have HE : Hid (giniN cs = 0 ∧ giniD cs = 0) := ⟨by unfold giniN; rw [hs]; rfl, by unfold giniD; rw [hs]; rfl⟩
    rw [hs] at cc
    clear hs hr
    generalize hW : w.alloc (.cells #[.int .i64 0, .int .i64 0] 27) = w0 at B K cc
    go_enter Try.func11, Try.ntmps11
    go_wp2_with fail
    refine cc.mono ?_
    clear cc hW
    rintro e w1 ⟨rfl, e1⟩
    rw [e1]
    go_wp2_with (refine wp_fr_store rfl _ _ rfl ⟨w.heap.size, rfl, _, _, rfl, _, _, K, ?_⟩)
    refine bodyPost_ret (res_fr rfl _ _ w.heap.size _ _ rfl (K.setRow _)) rfl ⟨by rw [HE.out.1, HE.out.2], below_row B (Nat.le_refl _) _⟩
  · have HLT : Hid (¬ squares cs < 0) := by show ¬ _; omega
    have HD0 : Hid (sumL cs = 0 → giniN cs = 0 ∧ giniD cs = 1) := fun h0 => ⟨by unfold giniN; rw [if_neg HLT.out, if_pos h0], by unfold giniD; rw [if_neg HLT.out, if_pos h0]⟩
    have HD1 : Hid (¬ sumL cs = 0 → giniN cs = lowN (sumL cs * sumL cs - squares cs) (sumL cs * sumL cs) ∧ giniD cs = lowD (sumL cs * sumL cs - squares cs) (sumL cs * sumL cs)) := fun h0 => ⟨by unfold giniN; rw [if_neg HLT.out, if_neg h0], by unfold giniD; rw [if_neg HLT.out, if_neg h0]⟩
    generalize hW : w.alloc (.cells #[.int .i64 0, .int .i64 0] 27) = w0 at B K cc hr
    have c2 := implSum10_any v cs w0 hr (by omega) ha
    clear hr hs HLT ha
    generalize squares cs = q at *
    generalize sumL cs = n at *
    have hnn := mul_small hs2 hs3
    go_enter Try.func11, Try.ntmps11
    go_wp2_with fail
    refine cc.mono ?_
    clear cc hW
    rintro e w1 ⟨rfl, e1⟩
    rw [e1]
    clear e1 w1
    go_wp2_with fail
    refine c2.mono ?_
    clear c2
    rintro e w2 ⟨rfl, e2⟩
    rw [e2]
    clear e2 w2
    by_cases h0 : n = 0
    · obtain HZ := (show Hid (giniN cs = 0 ∧ giniD cs = 1) from HD0.out h0)
      clear HD0 HD1
      subst h0
      go_wp2_with (refine wp_fr_store rfl _ _ rfl ⟨w.heap.size, rfl, _, _, rfl, _, _, K, ?_⟩)
      refine bodyPost_ret (res_fr rfl _ _ w.heap.size _ _ rfl (K.setRow _)) rfl ⟨by rw [HZ.out.1, HZ.out.2], below_row B (Nat.le_refl _) _⟩
    · have hne : (n == 0) = false := by rw [beq_eq_false_iff_ne]; exact h0
      obtain ⟨e1, e2⟩ := HD1.out h0
      have HR : Hid (giniN cs = _ ∧ giniD cs = _) := ⟨e1, e2⟩
      clear e1 e2 HD0 HD1 h0
      have cl := lowI (n * n - q) (n * n) w0
      go_wp2_with fail
      refine cl.mono ?_
      clear cl
      rintro e w3 ⟨rfl, hb⟩
      replace K := K.below hb
      replace B := B.trans (hb.mono B.size)
      clear hb
      go_wp2_with (refine wp_fr_store rfl _ _ rfl ⟨w.heap.size, rfl, _, _, rfl, _, _, K, ?_⟩)
      refine bodyPost_ret (res_fr rfl _ _ w.heap.size _ _ rfl (K.setRow _)) rfl ⟨by rw [HR.out.1, HR.out.2], below_row B (Nat.le_refl _) _⟩
end Go.Proofs.Yteadkdllmeeocaa
