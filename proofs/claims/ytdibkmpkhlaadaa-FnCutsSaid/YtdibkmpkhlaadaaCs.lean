/- Numbers in order, by the program: a copy, sorted by the library. -/
import Derived.Sort.OwnSortedInts
import Derived.Laws.AppendOwnNone
import Derived.Test.YtdibkmpkhlaadaaCup
import Derived.Test.YtdibkmpkhlaadaaOi
import Derived.Test.YtdibkmpkhlaadaaBl
import Derived.Test.YtdibkmpkhlaadaaShelfS
namespace Go.Proofs.Ytdibkmpkhlaadaa
open Go.RowKit
set_option maxRecDepth 100000
theorem own_setR {w : World} {base e n : Nat} {v : Value} {xs : List Value} (h : w.ownsRow base e 1 v n xs) (k : Nat) (c : Array Value) (hp : k < base) : (w.setRow k c).ownsRow base e 1 v n xs := by
  refine ⟨h.1, ?_⟩
  rcases h.2 with h' | ⟨g, cap, cur, hv, hg, hc, r⟩
  · exact .inl h'
  · refine .inr ⟨g, cap, cur, hv, hg, ?_, r⟩
    rw [Go.setRow_other w k g c (by omega)]; exact hc
theorem ord_size : (Try.prog.info? 43).map (·.size) = some 1 := by kernel_rfl
theorem wp_ord_store {ops : Array Oper} {rest : List Oper} {o : Oper} {a : Act} {w : World} {Q : Exit → Act → World → Prop} (hgd : o.guard = none) (x y : Operand) (ho : o.op = .store 43 x y)
    (h : ∃ g, a.eval x = .pointer (some ⟨g, 0, none⟩) ∧ ∃ v, a.eval y = .agg #[v] ∧ v.oneCell' = true ∧ ∃ v', Blk 43 w g #[v'] ∧ wpList Try.prog ops Q rest (a.put o.dst undef) (w.setRow g #[v])) : wpList Try.prog ops Q (o :: rest) a w := by
  obtain ⟨g, hx, v, hy, h1, v', hA, hk⟩ := h
  exact wpList_store_row hgd 43 x y ho g _ hx hy _ _ hA ord_size rfl (by simpa using h1) hk
theorem res_ord {fn : Func} {p : Tmp} (h : fn.results = #[.cell p 43]) (tmps : Array Value) (w : World) (g : Nat) (v : Value)
    (hp : tmps.getD p undef = .pointer (some ⟨g, 0, none⟩)) (hg : Blk 43 w g #[v]) : (results fn tmps).run Try.prog w = .ok (.agg #[v]) w :=
  results_cell_row h tmps w g _ _ _ _ hp hg Try.underlying43 rfl ord_size
set_option maxHeartbeats 400000 in
theorem orderedOf_any (v : Value) (zs : List Int) (w : World) (h : RowI w v zs) (hn : zs.length ≤ 1099511627776) :
    Calls Try.prog 34 #[v] w fun e w' => ∃ v', e = .returned (.agg #[v']) ∧ OwnI w w' v' (sortI zs) := by
  obtain ⟨i0, hi0, hz0, hz1, hz2⟩ := info_parts intInfo
  obtain ⟨oa, cap, rfl, hc, hr⟩ := h
  by_cases h0 : zs.length = 0
  · obtain rfl : zs = [] := List.length_eq_zero_iff.1 h0
    have c := fun w => Try.slices_Sort_int_none none 0 w
    have B := (Below.refl w.heap.size w).alloc (Nat.le_refl _) (.cells #[.slice none 0 0] 43)
    have K : Blk 43 (w.alloc (.cells #[.slice none 0 0] 43)) w.heap.size #[.slice none 0 0] := Blk.new _ _ _
    clear hr
    cases oa with
    | none =>
      go_enter Try.func34, Try.ntmps34
      go_wp2_with (first | (go_at_call 40; refine (c _).mono ?_; clear c; rintro e w1 ⟨rfl, e1⟩; rw [e1]; clear e1 w1) | (with_reducible refine wp_ord_store rfl _ _ rfl ?_; refine ⟨w.heap.size, rfl, _, rfl, rfl, _, K, ?_⟩))
      exact bodyPost_ret (res_ord rfl _ _ _ _ rfl (K.setRow _)) rfl ⟨_, rfl, by rw [sortI_nil]; exact World.ownsRow_nil _ _ _ _, below_row B (Nat.le_refl _) _⟩
    | some ad =>
      go_enter Try.func34, Try.ntmps34
      go_wp2_with (first | (go_at_call 40; refine (c _).mono ?_; clear c; rintro e w1 ⟨rfl, e1⟩; rw [e1]; clear e1 w1) | (with_reducible refine wp_ord_store rfl _ _ rfl ?_; refine ⟨w.heap.size, rfl, _, rfl, rfl, _, K, ?_⟩))
      exact bodyPost_ret (res_ord rfl _ _ _ _ rfl (K.setRow _)) rfl ⟨_, rfl, by rw [sortI_nil]; exact World.ownsRow_nil _ _ _ _, below_row B (Nat.le_refl _) _⟩
  · obtain ⟨ga, o, rfl, hg, hj⟩ := hr (by omega)
    clear hr
    have B := (Below.refl w.heap.size w).alloc (Nat.le_refl _) (.cells #[.slice none 0 0] 43)
    have K : Blk 43 (w.alloc (.cells #[.slice none 0 0] 43)) w.heap.size #[.slice none 0 0] := Blk.new _ _ _
    have HN : Hid (∀ (j : Nat) (u : Value), (zs.map (Value.int .i64))[j]? = some u → (w.alloc (.cells #[.slice none 0 0] 43)).cell? ((⟨ga, o, none⟩ : Addr).add j) = some u) := by
      have := row_news (k := zs.length) (w := w.alloc (.cells #[.slice none 0 0] 43)) (fun j hlt => (B.cell (p := ⟨ga, o + j, none⟩) hg).trans (hj j hlt))
      rw [List.take_length] at this
      exact this
    clear hj
    have hsz : (w.alloc (.cells #[.slice none 0 0] 43)).heap.size = w.heap.size + 1 := by simp
    go_enter Try.func34, Try.ntmps34
    go_wp2_with (at_builtin; refine wpList_append_own _ rfl _ _ 26 rfl (w.heap.size + 1) 3 i0 (.int .i64 0) 1 8 Try.underlying26 hi0 hz0 hz1 hz2 rfl (by decide) _ _ _ rfl (World.ownsRow_nil _ _ _ _) ⟨ga, o, none⟩ zs.length cap (zs.map (Value.int .i64)) rfl (by simp) HN.out (ints_oneCell .i64 _) (by unfold maxLen; omega) (by omega) (by omega) ?_)
    intro v1 w1 ho1 hg1 hnil1
    have hb1 : Below w.heap.size w w1 := B.grown hg1 (by omega) (fun k hk => by cases hk)
    have K1 := K.kept hg1 (by intro e; cases e)
    clear hg1 hnil1 K B HN
    obtain ⟨g, cp, cur, rfl, hbase, hcur, hle, hmax, hsize, htake⟩ : ∃ g cp cur, v1 = .slice (some ⟨g, 0, none⟩) zs.length cp ∧ w.heap.size + 1 ≤ g ∧ w1.heap[g]? = some (.cells cur 3 (0, 0)) ∧ zs.length ≤ cp ∧ cp ≤ maxLen ∧ cur.size = cp * 1 ∧ cur.toList.take (zs.length * 1) = zs.map (Value.int .i64) := by
      rcases ho1.2 with ⟨_, e⟩ | r
      · omega
      · exact r
    rw [Nat.mul_one] at htake
    have hgl : g < w1.heap.size := (Array.getElem?_eq_some_iff.1 hcur).1
    have c := Try.slices_Sort_int g 0 cp zs w1 (holds_of_blockI hcur htake) hgl (by omega)
    go_wp2_with (go_at_call 40; refine c.mono ?_)
    rintro e w2 ⟨rfl, n2, os2, rfl⟩
    have ho2 := ownsRow_sortedI (w := w1) (base := w.heap.size + 1) (n := n2) (os := os2) (ts := sortI zs) (ss := zs) (sortI_len zs) hbase hcur hle hmax hsize
    have hg2 := grownBy_sortedI (w := w1) (g := g) (n := n2) (os := os2) (sortI zs).toArray
    clear c
    unfold sortI at ho2 hg2
    generalize Sort.grow (Sort.putRow (Value.int .i64) (Sort.ahead w1 n2) g 0 (zs.mergeSort fun x y => decide (x ≤ y)).toArray) os2 = w2 at ho2 hg2 ⊢
    have K2 := K1.kept hg2 (by intro e; cases e; omega)
    have hb2 : Below w.heap.size w w2 := hb1.grown hg2 hb1.size (fun k hk => by cases hk; omega)
    go_wp2_with (with_reducible refine wp_ord_store rfl _ _ rfl ?_; refine ⟨w.heap.size, rfl, _, rfl, rfl, _, K2, ?_⟩)
    refine bodyPost_ret (res_ord rfl _ _ _ _ rfl (K2.setRow _)) rfl ⟨_, rfl, ?_, below_row hb2 (Nat.le_refl _) _⟩
    rw [sortI_len]
    exact own_base (own_setR ho2 _ _ (by omega)) (by omega)
set_option maxHeartbeats 400000 in
theorem implSorted_any (v : Value) (zs : List Int) (w : World) (h : RowI w v zs) (hn : zs.length ≤ 1099511627776) :
    Calls Try.prog 17 #[v] w fun e w' => ∃ v', e = .returned v' ∧ OwnI w w' v' (sortI zs) := by
  have c := orderedOf_any v zs w h hn
  obtain ⟨oa, cap, rfl, hc, hr⟩ := h
  clear hr
  go_enter Try.func17, Try.ntmps17
  go_wp2_with (go_at_call 34; refine c.mono ?_)
  rintro e w1 ⟨v', rfl, ho⟩
  have hfd : ∀ w : World, (Instr.field 43 (.agg #[v']) 0).run Try.prog w = .ok v' w := fun _ => by kernel_rfl
  go_wp2
  go_ret
  exact ⟨_, rfl, ho⟩
end Go.Proofs.Ytdibkmpkhlaadaa
