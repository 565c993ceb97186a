/- Texts of this claim, put together: part 29. -/
import Derived.Test.YteadkdllmeeocaaFnScaledPack28
import Derived.Maps.AppendAt
import Derived.Test.YteadkdllmeeocaaFnScaledPack13
import Derived.Test.YteadkdllmeeocaaFnScaledPack10
import Derived.Test.YteadkdllmeeocaaFnScaledPack1
import Derived.Test.YteadkdllmeeocaaFnScaledPack5
import Derived.Test.YteadkdllmeeocaaFnScaledPack27
import Derived.Test.YteadkdllmeeocaaFnScaledPack2
import Derived.Test.YteadkdllmeeocaaFnScaledPack4
/- Counts that are others' counts, classes in another order or all counted more often: a question tells as much. -/
namespace Go.Proofs.Yteadkdllmeeocaa
open Go.RowKit
set_option maxRecDepth 100000
/-- A row turned into another: places by o, all times x. -/
structure Tw (x : Int) (o : Nat → Nat) (F : List Int → List Int) (m : Nat) : Prop where
  x1 : 1 ≤ x
  lt : ∀ k, k < m → o k < m
  len : ∀ l, l.length = m → (F l).length = m
  at' : ∀ l, l.length = m → ∀ k, k < m → (F l).getD k 0 = x * l.getD (o k) 0
  sum : ∀ l, l.length = m → sumL (F l) = x * sumL l
  sq : ∀ l, l.length = m → sqL (F l) = x * x * sqL l
structure TwSt (x : Int) (o : Nat → Nat) (F : List Int → List Int) (s : SchemaD) (t u : StatsD) : Prop where
  tot : u.totals = F t.totals
  cl : u.cells.length = t.cells.length
  rl : ∀ a, a < t.cells.length → (il u.cells a).length = (il t.cells a).length
  col : ∀ a, a < s.attrs.length → ∀ k b, k < s.classes.length → b < (bins (ad s.attrs a)).toNat → colAt (il u.cells a) s.classes.length k b = x * colAt (il t.cells a) s.classes.length (o k) b
theorem cells_len {s : SchemaD} {t : StatsD} (h : statsOk s t = true) (h0 : t.cells.length ≠ 0) : t.cells.length = s.attrs.length := by
  unfold statsOk at h
  rw [Bool.and_eq_true, Bool.and_eq_true, Bool.and_eq_true, Bool.and_eq_true, Bool.or_eq_true] at h
  rcases h.2.2.2.2 with h1 | h1
  · exact absurd (of_decide_eq_true h1) h0
  · rw [Bool.and_eq_true, decide_eq_true_eq] at h1
    exact h1.1
theorem statsOk_mk {s : SchemaD} {t : StatsD} (h1 : schemaOk s = true) (h2 : t.totals.length = s.classes.length) (h3 : ∀ j, j < t.totals.length → inW (t.totals.getD j 0) = true) (h4 : sumL t.totals ≤ 999) (h5 : t.cells.length = s.attrs.length)
    (h6 : ∀ a, a < s.attrs.length → (il t.cells a).length = (bins (ad s.attrs a)).toNat * s.classes.length ∧ ∀ k, k < s.classes.length → (∀ b, b < (bins (ad s.attrs a)).toNat → inW (colAt (il t.cells a) s.classes.length k b) = true) ∧ sumL (colL (il t.cells a) s.classes.length k (bins (ad s.attrs a)).toNat) ≤ t.totals.getD k 0) : statsOk s t = true := by
  unfold statsOk
  rw [Bool.and_eq_true, Bool.and_eq_true, Bool.and_eq_true, Bool.and_eq_true, Bool.or_eq_true, Bool.and_eq_true, decide_eq_true_eq, decide_eq_true_eq, decide_eq_true_eq, decide_eq_true_eq]
  refine ⟨h1, h2, all_in h3, h4, .inr ⟨h5, ?_⟩⟩
  rw [List.all_eq_true]
  intro a ha
  have ha2 := List.mem_range.1 ha
  obtain ⟨q1, q2⟩ := h6 a (by omega)
  have hb := (small_bins (ad s.attrs a)).1
  unfold cellOk
  rw [Bool.and_eq_true, decide_eq_true_eq, List.all_eq_true]
  refine ⟨?_, fun k hk => ?_⟩
  · rw [q1, Int.natCast_mul, Int.toNat_of_nonneg hb]
  · obtain ⟨q3, q4⟩ := q2 k (List.mem_range.1 hk)
    unfold colOk
    rw [Bool.and_eq_true, decide_eq_true_eq]
    refine ⟨?_, q4⟩
    unfold colL
    rw [List.all_map, List.all_eq_true]
    exact fun b hb => q3 b (List.mem_range.1 hb)
theorem colL_tw {x : Int} {o : Nat → Nat} {c c' : List Int} {m k : Nat} : ∀ n, (∀ b, b < n → colAt c' m k b = x * colAt c m (o k) b) → sumL (colL c' m k n) = x * sumL (colL c m (o k) n) := by
  intro n
  induction n with
  | zero => intro _; show (0 : Int) = x * 0; omega
  | succ n ih =>
    intro h
    rw [col_succ, col_succ, ih fun b hb => h b (by omega), h n (by omega), Int.mul_add]
theorem brSum_tw {s : SchemaD} {f : ForkD} {i x : Int} {o : Nat → Nat} {c c' : List Int} {m k : Nat} : ∀ n, (∀ b, b < n → colAt c' m k b = x * colAt c m (o k) b) → brSum s f i c' m k n = x * brSum s f i c m (o k) n := by
  intro n
  induction n with
  | zero => intro _; show (0 : Int) = x * 0; omega
  | succ n ih =>
    intro h
    rw [brSum_succ, brSum_succ, ih fun b hb => h b (by omega), Int.mul_add]
    congr 1
    unfold brAt
    split
    · exact h n (by omega)
    · omega
theorem accB_tw {s : SchemaD} {f : ForkD} {x : Int} {o : Nat → Nat} {c c' : List Int} {m k n : Nat} (h : ∀ b, b < n → colAt c' m k b = x * colAt c m (o k) b) : ∀ i, accB s f c' m n k i = x * accB s f c m n (o k) i := by
  intro i
  induction i with
  | zero => show (0 : Int) = x * 0; omega
  | succ i ih =>
    show accB s f c' m n k i + brSum s f (i : Int) c' m k n = x * (accB s f c m n (o k) i + brSum s f (i : Int) c m (o k) n)
    rw [ih, brSum_tw n h, Int.mul_add]
theorem ext_getD {a b : List Int} (h : a.length = b.length) (hk : ∀ k, k < a.length → a.getD k 0 = b.getD k 0) : a = b := by
  apply List.ext_getElem h
  intro k h1 h2
  have := hk k h1
  rw [List.getD_eq_getElem?_getD, List.getD_eq_getElem?_getD, List.getElem?_eq_getElem h1, List.getElem?_eq_getElem h2] at this
  exact this
theorem tw_ok {x : Int} {o : Nat → Nat} {F : List Int → List Int} {s : SchemaD} {t u : StatsD} (T : Tw x o F s.classes.length) (U : TwSt x o F s t u) (h : statsOk s t = true) (h0 : t.cells.length ≠ 0) (hs : x * sumL t.totals ≤ 999) : statsOk s u = true := by
  obtain ⟨h1, h2, h3, h4⟩ := statsOk_parts h
  have hx := T.x1
  have hcl := cells_len h h0
  have hut : u.totals.length = s.classes.length := by rw [U.tot]; exact T.len _ h2
  have hat : ∀ k, k < s.classes.length → u.totals.getD k 0 = x * t.totals.getD (o k) 0 := fun k hk => by rw [U.tot]; exact T.at' _ h2 k hk
  have hnn : ∀ k, k < t.totals.length → 0 ≤ t.totals.getD k 0 := fun k hk => (allW_at h3 hk).1
  have hle : ∀ k, k < t.totals.length → t.totals.getD k 0 ≤ sumL t.totals := fun k hk => by
    have := (sum_part hnn t.totals.length (Nat.le_refl _)).2 k hk
    rwa [List.take_length] at this
  have hup : ∀ y, 0 ≤ y → y ≤ sumL t.totals → inW (x * y) = true := fun y hy hy2 => by
    have a1 := Int.mul_le_mul_of_nonneg_left hy2 (show 0 ≤ x by omega)
    have a2 := Int.mul_nonneg (show 0 ≤ x by omega) hy
    exact decide_eq_true (by omega)
  refine statsOk_mk h1 hut (fun j hj => ?_) ?_ (by rw [U.cl, hcl]) fun a ha => ?_
  · rw [hat j (by omega)]
    have := T.lt j (by omega)
    exact hup _ (hnn _ (by omega)) (hle _ (by omega))
  · rw [U.tot, T.sum _ h2]; exact hs
  · obtain ⟨-, q1, q2⟩ := cells_right h h0 ha
    refine ⟨by rw [U.rl a (by omega), q1], fun k hk => ?_⟩
    have hok := T.lt k hk
    have hcle := col_le h h0 ha hok
    have hcn : ∀ j, j < (colL (il t.cells a) s.classes.length (o k) (bins (ad s.attrs a)).toNat).length → 0 ≤ (colL (il t.cells a) s.classes.length (o k) (bins (ad s.attrs a)).toNat).getD j 0 := fun j hj => by
      unfold colL at hj ⊢
      rw [List.length_map, List.length_range] at hj
      rw [List.getD_eq_getElem?_getD, List.getElem?_map, List.getElem?_range hj]
      exact (of_decide_eq_true (q2 j _ hj hok)).1
    refine ⟨fun b hb => ?_, ?_⟩
    · rw [U.col a ha k b hk hb]
      have hb1 := (of_decide_eq_true (q2 b _ hb hok)).1
      have hb2 := (sum_part hcn _ (Nat.le_refl _)).2 b (by unfold colL; rw [List.length_map, List.length_range]; exact hb)
      rw [List.take_length] at hb2
      have e : (colL (il t.cells a) s.classes.length (o k) (bins (ad s.attrs a)).toNat).getD b 0 = colAt (il t.cells a) s.classes.length (o k) b := by
        unfold colL
        rw [List.getD_eq_getElem?_getD, List.getElem?_map, List.getElem?_range hb]; rfl
      rw [e] at hb2
      exact hup _ hb1 (by have := hle _ (show o k < t.totals.length by omega); omega)
    · rw [colL_tw (x := x) (o := o) _ fun b hb => U.col a ha k b hk hb, hat k hk]
      exact Int.mul_le_mul_of_nonneg_left hcle (by omega)
theorem tt_scale (x : Int) (y z : List Int → Int) : ∀ (hs : List (List Int)), ∃ c : Int, (1 ≤ x → 1 ≤ c) ∧ tt (hs.map fun l => (x * x * y l, x * z l)) = x * c * tt (hs.map fun l => (y l, z l)) ∧ prodL (hs.map fun l => x * z l) = c * prodL (hs.map z)
  | [] => ⟨1, fun _ => Int.le_refl _, by show (0 : Int) = x * 1 * 0; omega, rfl⟩
  | l :: r => by
    obtain ⟨c, hc, h1, h2⟩ := tt_scale x y z r
    have e : ∀ (f g : List Int → Int), (r.map fun l => (f l, g l)).map Prod.snd = r.map g := fun f g => by rw [List.map_map]; rfl
    refine ⟨x * c, fun hx => ?_, ?_, ?_⟩
    · have := Int.mul_le_mul hx (hc hx) (by omega) (by omega)
      omega
    · show x * x * y l * prodL ((r.map fun l => (x * x * y l, x * z l)).map Prod.snd) + x * z l * tt (r.map fun l => (x * x * y l, x * z l)) = x * (x * c) * (y l * prodL ((r.map fun l => (y l, z l)).map Prod.snd) + z l * tt (r.map fun l => (y l, z l)))
      rw [e, e y z, h1, h2]
      generalize prodL (r.map z) = P
      generalize tt (r.map fun l => (y l, z l)) = T
      grind
    · rw [List.map_cons, List.map_cons, prod_cons, prod_cons, h2]
      generalize prodL (r.map z) = P
      grind
/-- As much is told. -/
theorem merit_twin {x : Int} {o : Nat → Nat} {F : List Int → List Int} {s : SchemaD} {t u : StatsD} {k : Nat} {p : Int} (T : Tw x o F s.classes.length) (U : TwSt x o F s t u) (h : meritOk s t ⟨(k : Int), p⟩ = true) (hs : x * sumL t.totals ≤ 999) :
    meritN s u ⟨(k : Int), p⟩ = meritN s t ⟨(k : Int), p⟩ ∧ meritD s u ⟨(k : Int), p⟩ = meritD s t ⟨(k : Int), p⟩ := by
  obtain ⟨h1, h2, h3⟩ := meritOk_parts h
  obtain ⟨hk, N, nb, hN, hnb, -, -, -, hbo, -, -, -⟩ := one_facts h3
  have hu := tw_ok T U h1 h2 hs
  have hmu : meritOk s u ⟨(k : Int), p⟩ = true := by unfold meritOk; rw [hu, decide_eq_true (show u.cells.length ≠ 0 by rw [U.cl]; exact h2), h3]; rfl
  have hx := T.x1
  have hnt : (bins (ad s.attrs k)).toNat = nb := by rw [hnb]; rfl
  have hcol : ∀ q, q < s.classes.length → ∀ b, b < nb → colAt (il u.cells k) s.classes.length q b = x * colAt (il t.cells k) s.classes.length (o q) b := fun q hq b hb => U.col k hk q b hq (by rw [hnt]; exact hb)
  have B := brs_of h hN
  have BU := brs_of hmu hN
  have hbr : ∀ i, i < N → branchTotals s u ⟨(k : Int), p⟩ (i : Int) = F (branchTotals s t ⟨(k : Int), p⟩ (i : Int)) := fun i hi => by
    obtain ⟨l1, l2⟩ := totals_at (totalsOk_mk h1 h2 h3 hN hi)
    obtain ⟨u1, u2⟩ := totals_at (totalsOk_mk hu (show u.cells.length ≠ 0 by rw [U.cl]; exact h2) h3 hN hi)
    refine ext_getD (by rw [u1, T.len _ l1]) fun q hq => ?_
    rw [u1] at hq
    rw [u2 q hq, T.at' _ l1 q hq, l2 (o q) (T.lt q hq)]
    show brSum s ⟨(k : Int), p⟩ (i : Int) (il u.cells k) s.classes.length q (bins (ad s.attrs k)).toNat = x * brSum s ⟨(k : Int), p⟩ (i : Int) (il t.cells k) s.classes.length (o q) (bins (ad s.attrs k)).toNat
    rw [hnt]
    exact brSum_tw nb (hcol q hq)
  have hall : allB s u ⟨(k : Int), p⟩ = F (allB s t ⟨(k : Int), p⟩) := by
    obtain ⟨a1, -⟩ := all_facts h
    obtain ⟨a2, -⟩ := all_facts hmu
    refine ext_getD (by rw [a2, T.len _ a1]) fun q hq => ?_
    rw [a2] at hq
    rw [T.at' _ a1 q hq]
    unfold allB
    rw [mixL_at hq, mixL_at (T.lt q hq), if_neg (by omega), if_neg (by omega)]
    show accB s ⟨(k : Int), p⟩ (il u.cells k) s.classes.length (bins (ad s.attrs k)).toNat q _ = x * accB s ⟨(k : Int), p⟩ (il t.cells k) s.classes.length (bins (ad s.attrs k)).toNat (o q) _
    rw [hnt]
    exact accB_tw (hcol q hq) _
  have hlen : ∀ l ∈ branchL s t ⟨(k : Int), p⟩ N, l.length = s.classes.length := B.len
  have hbl : branchL s u ⟨(k : Int), p⟩ N = (branchL s t ⟨(k : Int), p⟩ N).map F := by
    unfold branchL
    rw [List.map_map]
    apply List.map_congr_left
    intro i hi
    exact hbr i (List.mem_range.1 hi)
  have hvN : (branches s ⟨(k : Int), p⟩).toNat = N := by rw [hN]; rfl
  have hhv : heavyB s u ⟨(k : Int), p⟩ = (heavyB s t ⟨(k : Int), p⟩).map F := by
    unfold heavyB
    rw [hvN, hbl]
    generalize branchL s t ⟨(k : Int), p⟩ N = bs at hlen ⊢
    induction bs with
    | nil => rfl
    | cons l r ih =>
      have e := T.sum l (hlen l List.mem_cons_self)
      rw [List.map_cons, heavy_cons, heavy_cons, ih fun l hl => hlen l (List.mem_cons_of_mem _ hl)]
      by_cases hp : 0 < sumL l
      · rw [if_pos hp, if_pos (by rw [e]; exact Int.mul_pos (by omega) hp), List.map_cons]
      · rw [if_neg hp, if_neg (by
          rw [e]
          have := Int.mul_le_mul_of_nonneg_left (show sumL l ≤ 0 by omega) (show 0 ≤ x by omega)
          omega)]
  obtain ⟨a, b, e1, e2, f1, ha⟩ := merit_frac h
  obtain ⟨c, d, e3, e4, f2, hc⟩ := merit_frac hmu
  have hsum : sumL (allB s u ⟨(k : Int), p⟩) = x * sumL (allB s t ⟨(k : Int), p⟩) := by rw [hall, T.sum _ (all_facts h).1]
  have hsq : squares (allB s u ⟨(k : Int), p⟩) = x * x * squares (allB s t ⟨(k : Int), p⟩) := by rw [BU.sqAll.1, B.sqAll.1, hall, T.sq _ (all_facts h).1]
  have cross : c * b = a * d := by
    rcases ha with ⟨z1, rfl, rfl⟩ | ⟨n1, q1, q2, -⟩ <;> rcases hc with ⟨z2, rfl, rfl⟩ | ⟨n2, r1, r2, -⟩
    · rfl
    · rw [hsum, z1] at n2; omega
    · rw [hsum] at z2
      have := Int.mul_le_mul hx n1 (by omega) (by omega)
      omega
    · have hw : ∀ (v : StatsD), ∀ l ∈ heavyB s v ⟨(k : Int), p⟩, 1 ≤ sumL l := fun v l hl => by
        unfold heavyB at hl
        have := (heavy_mem hl).2; omega
      have hmem : ∀ l ∈ heavyB s t ⟨(k : Int), p⟩, l ∈ branchL s t ⟨(k : Int), p⟩ N := fun l hl => by
        unfold heavyB at hl
        rw [hvN] at hl
        exact (heavy_mem hl).1
      unfold meritNum at q1 r1
      unfold meritDen at q2 r2
      rw [numL_tt (hw t)] at q1
      rw [numL_tt (hw u)] at r1
      have p1 : (heavyB s u ⟨(k : Int), p⟩).map sumL = (heavyB s t ⟨(k : Int), p⟩).map fun l => x * sumL l := by
        rw [hhv, List.map_map]
        apply List.map_congr_left
        intro l hl
        exact T.sum l (hlen l (hmem l hl))
      have p2 : ((heavyB s u ⟨(k : Int), p⟩).map fun l => (squares l, sumL l)) = (heavyB s t ⟨(k : Int), p⟩).map fun l => (x * x * squares l, x * sumL l) := by
        rw [hhv, List.map_map]
        apply List.map_congr_left
        intro l hl
        have m1 := hmem l hl
        have m2 : F l ∈ branchL s u ⟨(k : Int), p⟩ N := by rw [hbl]; exact List.mem_map.2 ⟨l, m1, rfl⟩
        show (squares (F l), sumL (F l)) = _
        rw [(BU.sq m2).1, (B.sq m1).1, T.sum l (hlen l m1), T.sq l (hlen l m1)]
      rw [p1] at r1 r2
      rw [p2] at r1
      rw [hsum, hsq] at r1
      rw [hsum] at r2
      obtain ⟨g, -, t1, t2⟩ := tt_scale x squares sumL (heavyB s t ⟨(k : Int), p⟩)
      rw [t1, t2] at r1
      rw [t2] at r2
      generalize tt ((heavyB s t ⟨(k : Int), p⟩).map fun l => (squares l, sumL l)) = TT at *
      generalize prodL ((heavyB s t ⟨(k : Int), p⟩).map sumL) = P at *
      generalize sumL (allB s t ⟨(k : Int), p⟩) = n at *
      generalize squares (allB s t ⟨(k : Int), p⟩) = q at *
      rw [q1, q2, r1, r2]
      grind
  obtain ⟨g1, g2⟩ := low_eq f2 f1 cross
  rw [e1, e2, e3, e4]
  exact ⟨g1, g2⟩
end Go.Proofs.Yteadkdllmeeocaa
/- Two lists of numbers that grow beside each other. -/
namespace Go.Proofs.Yteadkdllmeeocaa
open Go.RowKit
set_option maxRecDepth 100000
/-- One number is put behind a list of the call's own; the block of the answer is told. -/
theorem wpList_push {ops : Array Oper} {rest : List Oper} {o : Oper} {a : Act} {w : World} {Q : Exit → Act → World → Prop} (hgd : o.guard = none) (s x : Operand)
    (ho : o.op = .call { callee := .builtin .append, args := #[s, x], argTypes := #[24, 24] })
    (base : Nat) (v : Value) (l : List Int) (y : Int) (g : Nat) (hs : a.eval s = v) (hx : a.eval x = .slice (some ⟨g, 0, none⟩) 1 1)
    (hown : w.ownsRow base 3 1 v l.length (l.map (Value.int .i64))) (hc : w.cell? ⟨g, 0, none⟩ = some (.int .i64 y)) (hn : l.length ≤ 1048576) (hb : base ≤ w.heap.size)
    (h : ∀ v' w', w'.ownsRow base 3 1 v' (l ++ [y]).length ((l ++ [y]).map (Value.int .i64)) → w.grownBy w' v.ownBlock → (v'.ownBlock = v.ownBlock ∨ v'.ownBlock = some w.heap.size) → wpList Try.prog ops Q rest (a.put o.dst v') w') :
    wpList Try.prog ops Q (o :: rest) a w := by
  obtain ⟨i0, hi0, hz0, hz1, hz2⟩ := info_parts intInfo
  have hnews : ∀ (j : Nat) (u : Value), ([.int .i64 y] : List Value)[j]? = some u → w.cell? ((⟨g, 0, none⟩ : Addr).add j) = some u := by
    intro j u hj
    match j, hj with
    | 0, hj => simp at hj; subst hj; simpa [Addr.add] using hc
  obtain ⟨v', w', hr, h2, h3, h4, h5⟩ := run_append_own_at (P := Try.prog) w base 24 o.type 3 i0 (.int .i64 0) 1 8 Try.underlying24 hi0 hz0 hz1 hz2 rfl (by decide) v l.length (l.map (Value.int .i64)) hown ⟨g, 0, none⟩ 1 1 [.int .i64 y] rfl hnews (by intro u hu; simp at hu; subst hu; rfl) (by unfold maxLen; omega) (by omega) hb
  refine wpList_plain hgd fun _ hK => ?_
  unfold Oper.wp execOp
  simp only [ho, resolve, invoke, builtin, Sem.run_bind, Sem.run_pure, Result.andThen_ok, List.map_toArray, List.map_cons, List.map_nil, hs, hx, hr]
  refine hK _ _ (h v' w' ?_ h3 h5)
  simpa using h2
theorem far10 {w w' : World} {row : Option Nat} (hg : w.grownBy w' row) (a : Addr) (hlt : a.block < w.heap.size) (hne : some a.block ≠ row) : w'.cell? a = w.cell? a := by
  unfold World.cell?
  rw [hg.block a.block hlt hne]
theorem push_cell (w : World) (x : Int) : (w.alloc (.cells #[.int .i64 x] 3)).cell? ⟨w.heap.size, 0, none⟩ = some (.int .i64 x) := (Blk.new 3 w #[.int .i64 x]).cell 0
/-- Two lists of the call's own, apart. -/
structure Pair10 (b : Nat) (w : World) (v u : Value) (zs qs : List Int) : Prop where
  l : w.ownsRow b 3 1 v zs.length (zs.map (Value.int .i64))
  r : w.ownsRow b 3 1 u qs.length (qs.map (Value.int .i64))
  ne : ∀ p q, v.ownBlock = some p → u.ownBlock = some q → p ≠ q
theorem Pair10.below {b : Nat} {w w' : World} {v u : Value} {zs qs : List Int} (h : Pair10 b w v u zs qs) (hb : Below w.heap.size w w') : Pair10 b w' v u zs qs := ⟨own_below h.l hb, own_below h.r hb, h.ne⟩
theorem apart10 {v v' : Value} (h : ∀ a b, v.ownBlock = some a → v'.ownBlock = some b → a ≠ b) : v.ownBlock = none ∨ v.ownBlock ≠ v'.ownBlock := by
  cases e : v.ownBlock with
  | none => exact .inl rfl
  | some k =>
    refine .inr fun e' => ?_
    exact h k k e e'.symm rfl
theorem Pair10.left {b : Nat} {w w' : World} {v u v' : Value} {zs qs zs' : List Int} (h : Pair10 b w v u zs qs) (ho : w'.ownsRow b 3 1 v' zs'.length (zs'.map (Value.int .i64))) (hg : w.grownBy w' v.ownBlock)
    (hat : v'.ownBlock = v.ownBlock ∨ v'.ownBlock = some w.heap.size) : Pair10 b w' v' u zs' qs :=
  ⟨ho, h.r.kept hg (apart10 fun p q hp hq => Ne.symm (h.ne q p hq hp)), fun p q hp hq => by
    rcases hat with e | e
    · exact h.ne p q (e.symm.trans hp) hq
    · rw [e] at hp
      injection hp with hp
      have := (h.r.lt q hq).2
      omega⟩
theorem Pair10.right {b : Nat} {w w' : World} {v u u' : Value} {zs qs qs' : List Int} (h : Pair10 b w v u zs qs) (ho : w'.ownsRow b 3 1 u' qs'.length (qs'.map (Value.int .i64))) (hg : w.grownBy w' u.ownBlock)
    (hat : u'.ownBlock = u.ownBlock ∨ u'.ownBlock = some w.heap.size) : Pair10 b w' v u' zs qs' :=
  ⟨h.l.kept hg (apart10 fun p q hp hq => h.ne p q hp hq), ho, fun p q hp hq => by
    rcases hat with e | e
    · exact h.ne p q hp (e.symm.trans hq)
    · rw [e] at hq
      injection hq with hq
      have := (h.l.lt p hp).2
      omega⟩
/-- Both lists empty, each newly made. -/
theorem Pair10.start (w : World) : Pair10 w.heap.size ((w.alloc (.cells #[] 3)).alloc (.cells #[] 3)) (.slice (some ⟨w.heap.size, 0, none⟩) 0 0) (.slice (some ⟨w.heap.size + 1, 0, none⟩) 0 0) [] [] := by
  refine ⟨(ownI_lit0 w _ (Nat.le_refl _)).alloc _, ?_, fun p q hp hq => ?_⟩
  · have := ownI_lit0 (w.alloc (.cells #[] 3)) w.heap.size (by simp)
    rwa [World.size_alloc] at this
  · injection hp with hp
    injection hq with hq
    simp only at hp hq
    omega
end Go.Proofs.Yteadkdllmeeocaa
/- Counts built anew, list by list. -/
namespace Go.Proofs.Yteadkdllmeeocaa
open Go.RowKit
set_option maxRecDepth 100000
/-- One number is put behind a list of the call's own. -/
theorem wp_push {o : Oper} {a : Act} {w : World} {K : Act → World → Prop} {Q : Exit → Act → World → Prop} (s x : Operand)
    (ho : o.op = .call { callee := .builtin .append, args := #[s, x], argTypes := #[24, 24] })
    (base : Nat) (v : Value) (l : List Int) (y : Int) (g : Nat) (hs : a.eval s = v) (hx : a.eval x = .slice (some ⟨g, 0, none⟩) 1 1)
    (hown : w.ownsRow base 3 1 v l.length (l.map (Value.int .i64))) (hc : w.cell? ⟨g, 0, none⟩ = some (.int .i64 y)) (hn : l.length ≤ 1048576) (hb : base ≤ w.heap.size)
    (h : ∀ v' w', w'.ownsRow base 3 1 v' (l ++ [y]).length ((l ++ [y]).map (Value.int .i64)) → w.grownBy w' v.ownBlock → K (a.put o.dst v') w') :
    o.wp Try.prog a w K Q := by
  obtain ⟨i0, hi0, hz0, hz1, hz2⟩ := info_parts intInfo
  have hnews : ∀ (j : Nat) (u : Value), ([.int .i64 y] : List Value)[j]? = some u → w.cell? ((⟨g, 0, none⟩ : Addr).add j) = some u := by
    intro j u hj
    match j, hj with
    | 0, hj => simp at hj; subst hj; simpa [Addr.add] using hc
  refine wp_append_own _ _ _ 24 ho base 3 i0 (.int .i64 0) 1 8 Try.underlying24 hi0 hz0 hz1 hz2 rfl (by decide) v l.length (l.map (Value.int .i64)) hs hown ⟨g, 0, none⟩ 1 1 [.int .i64 y] hx rfl hnews (ints_oneCell .i64 [y]) (by unfold maxLen; omega) (by omega) hb ?_
  intro v' w' h2 h3 _
  exact h v' w' (by simpa using h2) h3
section
variable {ops : Array Oper} {S : World → Prop} {op : Oper} {a : Act}
/-- What is left of a division. -/
theorem yields_rem (hw : Region.wanted op (yielded ops a.tmps) = true) (x y : Operand) (ho : op.op = .binOp .rem 3 x y 3) (m n : Int) (hx : a.eval x = .int .i64 m) (hy : a.eval y = .int .i64 n)
    (h0 : 0 ≤ m) (_h1 : m ≤ 9223372036854775807) (h2 : 0 < n) : YieldsIf Try.prog ops S op (.int .i64 (m % n)) a :=
  .inl ⟨hw, fun w hw' => by
    have hle : m % n ≤ m := by
      have e1 := Int.mul_ediv_add_emod m n
      have e2 := Int.ediv_nonneg h0 (show 0 ≤ n by omega)
      have e3 := Int.mul_nonneg (show 0 ≤ n by omega) e2
      omega
    have hge : 0 ≤ m % n := Int.emod_nonneg _ (by omega)
    unfold execOp
    simp only [ho, hx, hy]
    go_simp
    rw [if_neg (by omega), Int.tmod_eq_emod_of_nonneg h0]⟩
end
/-- The first n numbers of a rule. -/
def mkL (n : Nat) (g : Nat → Int) : List Int := (List.range n).map g
theorem mkL_len (n : Nat) (g : Nat → Int) : (mkL n g).length = n := by simp [mkL]
theorem mkL_succ (n : Nat) (g : Nat → Int) : mkL (n + 1) g = mkL n g ++ [g n] := by unfold mkL; rw [List.range_succ, List.map_append]; rfl
theorem mkL_at {n k : Nat} (h : k < n) (g : Nat → Int) : (mkL n g).getD k 0 = g k := by
  unfold mkL
  rw [List.getD_eq_getElem?_getD, List.getElem?_map, List.getElem?_range h]; rfl
theorem sum_rev (l : List Int) : sumL l.reverse = sumL l := by
  induction l with
  | nil => rfl
  | cons x r ih => rw [List.reverse_cons, sumL_snoc, sum_cons10, ih]; omega
theorem tw_rev (m : Nat) : Tw 1 (fun k => m - 1 - k) List.reverse m := by
  refine ⟨Int.le_refl _, fun k hk => by omega, fun l h => by simp [h], fun l h k hk => ?_, fun l _ => by rw [sum_rev]; omega, fun l _ => ?_⟩
  · rw [List.getD_eq_getElem?_getD, List.getElem?_reverse (by omega), Int.one_mul, List.getD_eq_getElem?_getD, h]
  · unfold sqL
    rw [List.map_reverse, sum_rev]; omega
def dbl (l : List Int) : List Int := l.map fun x => 2 * x
theorem sum_dbl (f : Int → Int) (c : Int) (l : List Int) : sumL (l.map fun x => c * f x) = c * sumL (l.map f) := by
  induction l with
  | nil => show (0 : Int) = c * 0; omega
  | cons x r ih => rw [List.map_cons, List.map_cons, sum_cons10, sum_cons10, ih, Int.mul_add]
theorem dbl_at (l : List Int) (k : Nat) : (dbl l).getD k 0 = 2 * l.getD k 0 := by
  unfold dbl
  rw [List.getD_eq_getElem?_getD, List.getD_eq_getElem?_getD, List.getElem?_map]
  cases l[k]? <;> rfl
theorem tw_dbl (m : Nat) : Tw 2 (fun k => k) dbl m := by
  refine ⟨by omega, fun k hk => hk, fun l h => by simp [dbl, h], fun l _ k _ => dbl_at l k, fun l _ => ?_, fun l _ => ?_⟩
  · unfold dbl
    have := sum_dbl (fun x => x) 2 l
    rw [List.map_id'] at this
    exact this
  · unfold sqL dbl
    rw [List.map_map]
    have := sum_dbl (fun x => x * x) (2 * 2) l
    rw [← this]
    congr 1
    apply List.map_congr_left
    intro x _
    show 2 * x * (2 * x) = 2 * 2 * (x * x)
    grind
/-- Each cell's list by a rule. -/
def mkG10 (cs : List (List Int)) (g : List Int → Nat → Int) : List (List Int) := cs.map fun r => mkL r.length (g r)
theorem mkG10_il {cs : List (List Int)} {a : Nat} (h : a < cs.length) (g : List Int → Nat → Int) : il (mkG10 cs g) a = mkL (il cs a).length (g (il cs a)) := by
  unfold il mkG10
  rw [List.getD_eq_getElem?_getD, List.getElem?_map, List.getElem?_eq_getElem h, List.getD_eq_getElem?_getD, List.getElem?_eq_getElem h]; rfl
def gRev (m : Nat) (r : List Int) (i : Nat) : Int := r.getD (i / m * m + m - 1 - i % m) 0
def gDbl (r : List Int) (i : Nat) : Int := 2 * r.getD i 0
theorem twst_rev {s : SchemaD} {t : StatsD} (h : statsOk s t = true) (h0 : t.cells.length ≠ 0) : TwSt 1 (fun k => s.classes.length - 1 - k) List.reverse s t ⟨mkL s.classes.length fun k => t.totals.getD (s.classes.length - 1 - k) 0, mkG10 t.cells (gRev s.classes.length)⟩ := by
  obtain ⟨h1, h2, h3, h4⟩ := statsOk_parts h
  have hcl := cells_len h h0
  refine ⟨?_, by simp [mkG10], fun a ha => by show (il (mkG10 t.cells _) a).length = _; rw [mkG10_il ha, mkL_len], fun a ha k b hk hb => ?_⟩
  · refine ext_getD (by rw [mkL_len]; simp [h2]) fun k hk => ?_
    rw [mkL_len] at hk
    rw [mkL_at hk, (tw_rev s.classes.length).at' _ h2 k hk]; omega
  · obtain ⟨hac, q1, -⟩ := cells_right h h0 ha
    show (il (mkG10 t.cells _) a).getD (b * s.classes.length + k) 0 = 1 * (il t.cells a).getD (b * s.classes.length + (s.classes.length - 1 - k)) 0
    have hlt : b * s.classes.length + k < (il t.cells a).length := by
      rw [q1]
      have := Nat.mul_le_mul_right s.classes.length (show b + 1 ≤ (bins (ad s.attrs a)).toNat from hb)
      rw [Nat.add_mul] at this
      omega
    rw [mkG10_il hac, mkL_at hlt]
    unfold gRev
    have e1 : (b * s.classes.length + k) / s.classes.length = b := by
      rw [Nat.mul_comm, Nat.mul_add_div (by omega), Nat.div_eq_of_lt hk]; omega
    have e2 : (b * s.classes.length + k) % s.classes.length = k := by
      rw [Nat.mul_comm, Nat.mul_add_mod, Nat.mod_eq_of_lt hk]
    rw [e1, e2, Int.one_mul]
    congr 1
    omega
theorem twst_dbl {s : SchemaD} {t : StatsD} (h : statsOk s t = true) (h0 : t.cells.length ≠ 0) : TwSt 2 (fun k => k) dbl s t ⟨mkL s.classes.length fun k => 2 * t.totals.getD k 0, mkG10 t.cells gDbl⟩ := by
  obtain ⟨h1, h2, h3, h4⟩ := statsOk_parts h
  refine ⟨?_, by simp [mkG10], fun a ha => by show (il (mkG10 t.cells _) a).length = _; rw [mkG10_il ha, mkL_len], fun a ha k b hk hb => ?_⟩
  · refine ext_getD (by rw [mkL_len]; simp [dbl, h2]) fun k hk => ?_
    rw [mkL_len] at hk
    rw [mkL_at hk, dbl_at]
  · obtain ⟨hac, q1, -⟩ := cells_right h h0 ha
    show (il (mkG10 t.cells _) a).getD (b * s.classes.length + k) 0 = 2 * (il t.cells a).getD (b * s.classes.length + k) 0
    have hlt : b * s.classes.length + k < (il t.cells a).length := by
      rw [q1]
      have := Nat.mul_le_mul_right s.classes.length (show b + 1 ≤ (bins (ad s.attrs a)).toNat from hb)
      rw [Nat.add_mul] at this
      omega
    rw [mkG10_il hac, mkL_at hlt]; rfl
end Go.Proofs.Yteadkdllmeeocaa
/- The sum of squares, the sum and the impurity, by the program. -/
namespace Go.Proofs.Yteadkdllmeeocaa
open Go.RowKit
set_option maxRecDepth 100000
set_option linter.unusedSimpArgs false
theorem implSum10_any (v : Value) (cs : List Int) (w : World) (h : RowI w v cs) (hn : cs.length ≤ 1048576) (hb : ∀ j, j < cs.length → inW (cs.getD j 0) = true) :
    Calls Try.prog 29 #[v] w fun e w' => e = .returned (.int .i64 (sumL cs)) ∧ w' = w := by
  obtain ⟨oa, cap, rfl, hc, hr⟩ := h
  have HJ : Hid (∀ k, k < cs.length → ∃ g o, oa = some ⟨g, o, none⟩ ∧ w.cell? ⟨g, o + k, none⟩ = some (.int .i64 (cs.getD k 0))) := fun k hk => by
    obtain ⟨g, o, e, hg, hj⟩ := hr (by omega)
    exact ⟨g, o, e, hj k hk⟩
  have HB : Hid (∀ j, j < cs.length → inW (cs.getD j 0) = true) := hb
  clear hr hb
  go_enter Try.func29, Try.ntmps29
  go_wp2
  go_loop [3, 8] (fun n i => ∃ k : Nat, i = .int .i64 k ∧ n = .int .i64 (sumL (cs.take k)) ∧ k ≤ cs.length) (fun _ i => cs.length - (intOf i).toNat)
  case atStart => exact ⟨0, rfl, rfl, by omega⟩
  case round =>
    obtain ⟨k, rfl, rfl, hk⟩ := hrel
    have HL := sum_bound10 k hk fun j hj => HB.out j (by omega)
    by_cases hlt : k < cs.length
    · obtain ⟨g, o, rfl, hcell⟩ := HJ.out k hlt
      have hin := of_decide_eq_true (HB.out k hlt)
      have HS : Hid (sumL (cs.take (k + 1)) = sumL (cs.take k) + cs.getD k 0) := sum_take10 hlt
      generalize cs.getD k 0 = c at hcell HS hin
      generalize sumL (cs.take k) = b at HL HS
      have h1 : b + c ≤ 1048576 * 999 + 999 := by omega
      go_wp2
      go_round
      case rel => exact ⟨k + 1, by go_num, by rw [HS.out], by omega⟩
      case measure => simp [intOf]; omega
    · have HE : Hid (sumL (cs.take k) = sumL cs) := by rw [List.take_of_length_le (by omega)]; rfl
      rw [HE.out]
      go_wp2
      go_ret
      exact ⟨rfl, rfl⟩
theorem implSquares_any (v : Value) (cs : List Int) (w : World) (h : RowI w v cs) (hn : cs.length ≤ 1099511627776) :
    Calls Try.prog 13 #[v] w fun e w' => e = .returned (.int .i64 (squares cs)) ∧ w' = w := by
  obtain ⟨oa, cap, rfl, hc, hr⟩ := h
  by_cases h3 : 3 < cs.length
  · rw [squares_long h3]
    clear hr
    go_enter Try.func13, Try.ntmps13
    go_wp2
    go_ret
    exact ⟨rfl, rfl⟩
  have HJ : Hid (∀ k, k < cs.length → ∃ g o, oa = some ⟨g, o, none⟩ ∧ w.cell? ⟨g, o + k, none⟩ = some (.int .i64 (cs.getD k 0))) := fun k hk => by
    obtain ⟨g, o, e, hg, hj⟩ := hr (by omega)
    exact ⟨g, o, e, hj k hk⟩
  clear hr
  have hq3 : decide (3 < cs.length) = false := decide_eq_false h3
  go_enter Try.func13, Try.ntmps13
  go_wp2
  clear hq3
  go_loop [3, 11] (fun n i => ∃ k : Nat, i = .int .i64 k ∧ n = .int .i64 (sqL (cs.take k)) ∧ k ≤ cs.length ∧ Hid (∀ j, j < k → inW (cs.getD j 0) = true)) (fun _ i => cs.length - (intOf i).toNat)
  case atStart => exact ⟨0, rfl, rfl, by omega, fun j hj => by omega⟩
  case round =>
    obtain ⟨k, rfl, rfl, hk, HB⟩ := hrel
    have HL := sq_bound k hk fun j hj => HB.out j hj
    by_cases hlt : k < cs.length
    rotate_left
    · have HE : Hid (sqL (cs.take k) = squares cs) := by
        show _ = _
        rw [squares_yes (by omega) (fun j hj => HB.out j (by omega))]
        rw [List.take_of_length_le (by omega), List.take_of_length_le (by omega)]
      rw [HE.out]
      go_wp2
      go_ret
      exact ⟨rfl, rfl⟩
    obtain ⟨g, o, rfl, hcell⟩ := HJ.out k hlt
    have HS : Hid (sqL (cs.take (k + 1)) = sqL (cs.take k) + cs.getD k 0 * cs.getD k 0) := sq_take hlt
    by_cases hin : 0 ≤ cs.getD k 0 ∧ cs.getD k 0 ≤ 999
    rotate_left
    · have HE : Hid (squares cs = -1) := squares_no hlt (decide_eq_false hin)
      clear HS
      generalize cs.getD k 0 = c at hcell hin
      by_cases h0 : c < 0
      · go_wp2
        go_ret
        exact ⟨by rw [HE.out]; rfl, rfl⟩
      · have h1 : ¬ c ≤ 999 := by omega
        go_wp2
        go_ret
        exact ⟨by rw [HE.out]; rfl, rfl⟩
    have HIN : Hid (inW (cs.getD k 0) = true) := decide_eq_true hin
    have hsq := sq_small HIN.out
    have HB2 : Hid (∀ j, j < k + 1 → inW (cs.getD j 0) = true) := fun j hj => by
      rcases Nat.lt_or_eq_of_le (Nat.le_of_lt_succ hj) with h | h
      · exact HB.out j h
      · rw [h]; exact HIN.out
    clear HB HIN
    generalize cs.getD k 0 = c at hcell hin HS hsq
    generalize sqL (cs.take k) = b at HL HS
    generalize hcc : c * c = y at HS hsq
    go_wp2
    go_round
    case rel => exact ⟨k + 1, by go_num, by rw [HS.out], by omega, HB2⟩
    case measure => simp [intOf]; omega
theorem implSquaresB (v : Value) (cs : List Int) (w : World) (h : RowI w v cs) (hn : cs.length ≤ 1099511627776) :
    Calls Try.prog 13 #[v] w fun e w' => e = .returned (.int .i64 (squares cs)) ∧ Below w.heap.size w w' :=
  (implSquares_any v cs w h hn).mono fun e w' h => ⟨h.1, by rw [h.2]; exact Below.refl _ _⟩
theorem implGini_any (v : Value) (cs : List Int) (w : World) (h : RowI w v cs) (hn : cs.length ≤ 1099511627776) :
    Calls Try.prog 11 #[v] w fun e w' => e = .returned (frV (giniN cs) (giniD cs)) ∧ Below w.heap.size w w' := by
  have B := below_1 w (.cells #[.int .i64 0, .int .i64 0] 27)
  have K : Fr (w.alloc (.cells #[.int .i64 0, .int .i64 0] 27)) w.heap.size 0 0 := Blk.new _ _ _
  have hr := h.later B
  have cc := implSquares_any v cs _ hr hn
  clear h
  rcases squares_cases cs with hs | ⟨h3, ha, hs, hs0, hs1, hs2, hs3⟩
  · have HE : Hid (giniN cs = 0 ∧ giniD cs = 0) := ⟨by unfold giniN; rw [hs]; rfl, by unfold giniD; rw [hs]; rfl⟩
    rw [hs] at cc
    clear hs hr
    generalize hW : w.alloc (.cells #[.int .i64 0, .int .i64 0] 27) = w0 at B K cc
    go_enter Try.func11, Try.ntmps11
    go_wp2_with fail
    refine cc.mono ?_
    clear cc hW
    rintro e w1 ⟨rfl, e1⟩
    rw [e1]
    go_wp2_with (refine wp_fr_store rfl _ _ rfl ⟨w.heap.size, rfl, _, _, rfl, _, _, K, ?_⟩)
    refine bodyPost_ret (res_fr rfl _ _ w.heap.size _ _ rfl (K.setRow _)) rfl ⟨by rw [HE.out.1, HE.out.2], below_row B (Nat.le_refl _) _⟩
  · have HLT : Hid (¬ squares cs < 0) := by show ¬ _; omega
    have HD0 : Hid (sumL cs = 0 → giniN cs = 0 ∧ giniD cs = 1) := fun h0 => ⟨by unfold giniN; rw [if_neg HLT.out, if_pos h0], by unfold giniD; rw [if_neg HLT.out, if_pos h0]⟩
    have HD1 : Hid (¬ sumL cs = 0 → giniN cs = lowN (sumL cs * sumL cs - squares cs) (sumL cs * sumL cs) ∧ giniD cs = lowD (sumL cs * sumL cs - squares cs) (sumL cs * sumL cs)) := fun h0 => ⟨by unfold giniN; rw [if_neg HLT.out, if_neg h0], by unfold giniD; rw [if_neg HLT.out, if_neg h0]⟩
    generalize hW : w.alloc (.cells #[.int .i64 0, .int .i64 0] 27) = w0 at B K cc hr
    have c2 := implSum10_any v cs w0 hr (by omega) ha
    clear hr hs HLT ha
    generalize squares cs = q at *
    generalize sumL cs = n at *
    have hnn := mul_small hs2 hs3
    go_enter Try.func11, Try.ntmps11
    go_wp2_with fail
    refine cc.mono ?_
    clear cc hW
    rintro e w1 ⟨rfl, e1⟩
    rw [e1]
    clear e1 w1
    go_wp2_with fail
    refine c2.mono ?_
    clear c2
    rintro e w2 ⟨rfl, e2⟩
    rw [e2]
    clear e2 w2
    by_cases h0 : n = 0
    · obtain HZ := (show Hid (giniN cs = 0 ∧ giniD cs = 1) from HD0.out h0)
      clear HD0 HD1
      subst h0
      go_wp2_with (refine wp_fr_store rfl _ _ rfl ⟨w.heap.size, rfl, _, _, rfl, _, _, K, ?_⟩)
      refine bodyPost_ret (res_fr rfl _ _ w.heap.size _ _ rfl (K.setRow _)) rfl ⟨by rw [HZ.out.1, HZ.out.2], below_row B (Nat.le_refl _) _⟩
    · have hne : (n == 0) = false := by rw [beq_eq_false_iff_ne]; exact h0
      obtain ⟨e1, e2⟩ := HD1.out h0
      have HR : Hid (giniN cs = _ ∧ giniD cs = _) := ⟨e1, e2⟩
      clear e1 e2 HD0 HD1 h0
      have cl := lowI (n * n - q) (n * n) w0
      go_wp2_with fail
      refine cl.mono ?_
      clear cl
      rintro e w3 ⟨rfl, hb⟩
      replace K := K.below hb
      replace B := B.trans (hb.mono B.size)
      clear hb
      go_wp2_with (refine wp_fr_store rfl _ _ rfl ⟨w.heap.size, rfl, _, _, rfl, _, _, K, ?_⟩)
      refine bodyPost_ret (res_fr rfl _ _ w.heap.size _ _ rfl (K.setRow _)) rfl ⟨by rw [HR.out.1, HR.out.2], below_row B (Nat.le_refl _) _⟩
end Go.Proofs.Yteadkdllmeeocaa
