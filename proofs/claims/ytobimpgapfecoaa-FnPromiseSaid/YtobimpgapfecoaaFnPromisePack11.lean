/- Texts of this claim, put together: part 11. -/
import Derived.Test.YtobimpgapfecoaaFnPromisePack10
import Derived.Test.YtobimpgapfecoaaFnPromisePack5
import Derived.Test.YtobimpgapfecoaaFnPromisePack8
import Derived.Test.YtobimpgapfecoaaFnPromisePack9
/- Draws beside rows of the call's own. -/
namespace Go.Proofs.Ytobimpgapfecoaa
open Go.RowKit
set_option maxRecDepth 100000

theorem own_cur {w w' : World} {base n g : Nat} {v : Value} {xs : List Value} (h : w.ownsRow base 3 1 v n xs) (hg : g < base) (hk : w.grownBy w' (some g)) : w'.ownsRow base 3 1 v n xs := by
  refine h.kept hk ?_
  cases e : v.ownBlock with
  | none => exact .inl rfl
  | some k =>
    refine .inr fun e' => ?_
    have := (h.lt k e).1
    injection e'
    omega
theorem grown_alloc (w : World) (o : Obj) (r : Option Nat) : w.grownBy (w.alloc o) r := ⟨rfl, rfl, rfl, by simp, fun k hk _ => Below.heap_alloc w o k hk⟩
theorem grown_own {w wq w4 : World} {r : Option Nat} {g : Nat} (h : w.grownBy wq (some g)) (k : wq.grownBy w4 r) (hr : ∀ j, r = some j → w.heap.size ≤ j) : w.grownBy w4 (some g) :=
  ⟨k.os.trans h.os, k.tape.trans h.tape, k.output.trans h.output, Nat.le_trans h.size k.size, fun j hj hne => (k.block j (Nat.lt_of_lt_of_le hj h.size) (fun e => by have := hr j e.symm; omega)).trans (h.block j hj hne)⟩
/-- The cursor's own things, behind whatever leaves its block. -/
theorem IsCur.kept {w w' : World} {g : Nat} {a : Option Addr} {len cap : Nat} {r : Option Nat} (h : IsCur w g a len cap) (hk : w.grownBy w' r) (hr : r ≠ some g) : IsCur w' g a len cap := by
  have hlt := h.lt
  obtain ⟨i, y, hi, hb⟩ := h
  exact ⟨i, y, hi, (hk.block g hlt (fun e => hr e.symm)).trans hb⟩

/-- One of a few numbers, picked out of a list that was just laid. -/
theorem pickN (xs : List Int) (g : Nat) (a : Option Addr) (len cap : Nat) (zs : List Int) (w : World) (hc : IsCur w g a len cap) (hr : IsRow .u8 w a len cap zs) (h1 : 1 ≤ xs.length) (h2 : xs.length ≤ 256) :
    Calls Try.prog 46 #[.pointer (some ⟨g, 0, none⟩), .slice (some ⟨w.heap.size, 0, none⟩) xs.length xs.length] (w.alloc (.cells (xs.map (Value.int .i64)).toArray 3)) fun e w' =>
      ∃ x : Int, e = .returned (.int .i64 x) ∧ x ∈ xs ∧ IsCur w' g a len cap ∧ w.grownBy w' (some g) := by
  have hlt := hc.lt
  have hb : Below w.heap.size w (w.alloc (.cells (xs.map (Value.int .i64)).toArray 3)) := (Below.refl _ _).alloc (Nat.le_refl _) _
  refine (l1PickInt_any g a len cap zs w.heap.size xs _ (hc.alloc _) (hr.later hb) h1 h2 (by omega) (new_ints w xs 3)).mono ?_
  rintro e w' ⟨x, rfl, hx, hc', hg⟩
  exact ⟨x, rfl, hx, hc', grown_trans (grown_alloc w _ _) hg⟩
end Go.Proofs.Ytobimpgapfecoaa
/- Beside a draw: what is left as it was. -/
namespace Go.Proofs.Ytobimpgapfecoaa
open Go.RowKit
set_option maxRecDepth 100000
theorem IsCur.cellW {w : World} {g p : Nat} {a : Option Addr} {len cap : Nat} (h : IsCur w g a len cap) (k : Nat) (v : Value) (hp : g ≠ p) : IsCur (w.setCell ⟨p, k, none⟩ v) g a len cap := by
  obtain ⟨i, y, hi, hb⟩ := h
  exact ⟨i, y, hi, (heap_setCell_other w ⟨p, k, none⟩ g v hp).trans hb⟩
theorem IsCur.rowW {w : World} {g p : Nat} {a : Option Addr} {len cap : Nat} (h : IsCur w g a len cap) (cs : Array Value) (hp : g ≠ p) : IsCur (w.setRow p cs) g a len cap := by
  obtain ⟨i, y, hi, hb⟩ := h
  exact ⟨i, y, hi, (Go.setRow_other _ _ _ _ hp).trans hb⟩
/-- A row behind the cursor's block is left by a draw. -/
theorem own_curW {w w' : World} {base n g e s : Nat} {v : Value} {xs : List Value} (h : w.ownsRow base e s v n xs) (hg : g < base) (hk : w.grownBy w' (some g)) : w'.ownsRow base e s v n xs := by
  refine h.kept hk ?_
  cases e : v.ownBlock with
  | none => exact .inl rfl
  | some k =>
    refine .inr fun e' => ?_
    have := (h.lt k e).1
    injection e'
    omega
theorem grown_row' {w w' : World} {r : Option Nat} (h : w.grownBy w' r) {p : Nat} (hp : w.heap.size ≤ p) (cs : Array Value) : w.grownBy (w'.setRow p cs) r := grown_row h hp cs
end Go.Proofs.Ytobimpgapfecoaa
/- Counts that are small: what draws answer. -/
namespace Go.Proofs.Ytobimpgapfecoaa
open Go.RowKit
set_option maxRecDepth 100000
structure tinySt (n : Nat) (t : StatsD) : Prop where
  totals : t.totals.length ≤ n
  cells : t.cells.length ≤ n
  each : ∀ c ∈ t.cells, c.length ≤ n
theorem tinySt.ok {n : Nat} {t : StatsD} (h : tinySt n t) (hn : n ≤ 1000) : okSt t := ⟨by have := h.totals; omega, by have := h.cells; omega, fun c hc => by have := h.each c hc; omega⟩
theorem tinySt.up {n m : Nat} {t : StatsD} (h : tinySt n t) (hn : n ≤ m) : tinySt m t := ⟨by have := h.totals; omega, by have := h.cells; omega, fun c hc => by have := h.each c hc; omega⟩
theorem tiny_new (s : SchemaD) : tinySt 16 (statsNew s) := by
  unfold statsNew
  split
  · rename_i ho
    have hc := sch_classes ho
    have h5 : s.attrs.length ≤ 5 := by unfold schemaOk at ho; rw [Bool.and_eq_true] at ho; have := of_decide_eq_true ho.1; omega
    refine ⟨by simp; omega, by rw [newCells_len]; omega, fun c hc2 => ?_⟩
    obtain ⟨a, -, rfl⟩ := List.mem_map.1 hc2
    obtain ⟨b0, b1⟩ := small_bins a
    have := binsN_le a
    have h2 := Nat.mul_le_mul (show binsN a ≤ 4 by omega) hc.2
    rw [List.length_replicate]
    omega
  · exact ⟨by simp, by simp, fun c hc => by simp at hc⟩
theorem addTo_tiny (s : SchemaD) (e : ExD) (x : Int) (cs : List (List Int)) (M : Nat) (h : ∀ c ∈ cs, c.length ≤ M) : ∀ k, ∀ c ∈ addTo s e x cs k, c.length ≤ M
  | 0 => h
  | k + 1 => by
    intro c hc
    unfold addTo at hc
    split at hc
    · rcases List.mem_or_eq_of_mem_set hc with hc | rfl
      · exact addTo_tiny s e x cs M h k c hc
      · unfold cellPut
        rw [List.length_set]
        by_cases hk : k < cs.length
        · exact h _ (il_mem hk)
        · simp [il, List.getElem?_eq_none (Nat.le_of_not_lt hk)]
    · exact addTo_tiny s e x cs M h k c hc
theorem tiny_add {n : Nat} (s : SchemaD) (t : StatsD) (e : ExD) (x : Int) (h : tinySt n t) : tinySt n (statsAdd s t e x) := by
  unfold statsAdd
  split
  · refine ⟨?_, ?_, addTo_tiny s e x _ _ h.each _⟩
    · show (cellPut t.totals _ x).length ≤ _
      unfold cellPut
      rw [List.length_set]; exact h.totals
    · show (addTo s e x t.cells _).length ≤ _
      rw [addTo_len]; exact h.cells
  · exact h
theorem tiny_thin {n : Nat} (t : StatsD) (h : tinySt n t) : tinySt n (thinS t) := ⟨h.totals, by simp [thinS], fun c hc => by simp [thinS] at hc⟩
theorem SepII.curW {w w' : World} {b g n : Nat} {v : Value} {L : Nat → Value} {ys : List Value} {cs : List (List Int)} (h : SepII b w v L ys cs n) (hg : g < b) (hk : w.grownBy w' (some g)) : SepII b w' v L ys cs n :=
  ⟨own_curW h.row hg hk, h.cells, fun j hj => own_curW (h.ints j hj) hg hk, h.ord⟩
theorem OwnSt.curW {w w' : World} {b g : Nat} {v : Value} {t : StatsD} (h : OwnSt b w v t) (hg : g < b) (hk : w.grownBy w' (some g)) : OwnSt b w' v t := by
  obtain ⟨vt, vc, L, ys, rfl, h1, h2, h3⟩ := h
  exact ⟨vt, vc, L, ys, rfl, own_curW h1 hg hk, h2.curW hg hk, h3⟩
theorem OwnSt.alloc {w : World} {b : Nat} {v : Value} {t : StatsD} (h : OwnSt b w v t) (o : Obj) : OwnSt b (w.alloc o) v t := h.below ((Below.refl _ _).alloc (Nat.le_refl _) o)
theorem OwnSt.rowB {w : World} {b p : Nat} {v : Value} {t : StatsD} {T : TypeId} {cs : Array Value} (h : OwnSt b w v t) (hp : Blk T w p cs) (h1 : 3 ≠ T) (h2 : 28 ≠ T) (c : Array Value) : OwnSt b (w.setRow p c) v t := by
  obtain ⟨vt, vc, L, ys, rfl, o1, o2, o3⟩ := h
  exact ⟨vt, vc, L, ys, rfl, own_setRowN o1 _ _ (own_ne_blk o1 hp h1), ⟨own_setRowN o2.row _ _ (own_ne_blk o2.row hp h2), o2.cells, fun j hj => own_setRowN (o2.ints j hj) _ _ (own_ne_blk (o2.ints j hj) hp h1), o2.ord⟩, o3⟩
theorem OwnSt.cellB {w : World} {b p : Nat} {v : Value} {t : StatsD} {T : TypeId} {cs : Array Value} (h : OwnSt b w v t) (hp : Blk T w p cs) (h1 : 3 ≠ T) (h2 : 28 ≠ T) (k : Nat) (u : Value) : OwnSt b (w.setCell ⟨p, k, none⟩ u) v t := by
  obtain ⟨vt, vc, L, ys, rfl, o1, o2, o3⟩ := h
  exact ⟨vt, vc, L, ys, rfl, own_setCellN o1 _ _ _ (own_ne_blk o1 hp h1), ⟨own_setCellN o2.row _ _ _ (own_ne_blk o2.row hp h2), o2.cells, fun j hj => own_setCellN (o2.ints j hj) _ _ _ (own_ne_blk (o2.ints j hj) hp h1), o2.ord⟩, o3⟩
theorem OwnSt.rowX8 {w : World} {b k : Nat} {v : Value} {s : StatsD} (h : OwnSt b w v s) (c : Array Value) (hk : k < b) : OwnSt b (w.setRow k c) v s := by
  obtain ⟨vt, vc, L, ys, rfl, h1, h2, h3⟩ := h
  exact ⟨vt, vc, L, ys, rfl, own_setRow h1 k c hk, h2.setRow k c hk, h3⟩
end Go.Proofs.Ytobimpgapfecoaa
/- Draws of stage 2: one of a number of ways. -/
namespace Go.Proofs.Ytobimpgapfecoaa
open Go.RowKit
set_option maxRecDepth 100000

theorem once_any (g : Nat) (a : Option Addr) (len cap : Nat) (zs : List Int) (n : Nat) (w : World) (hc : IsCur w g a len cap) (hr : IsRow .u8 w a len cap zs) (h1 : 1 ≤ n) (h2 : n ≤ 256) :
    Calls Try.prog 111 #[.pointer (some ⟨g, 0, none⟩), .int .i64 (n : Int)] w fun e w' => ∃ b : Bool, e = .returned (.bool b) ∧ IsCur w' g a len cap ∧ w.grownBy w' (some g) := by
  go_enter Try.func111, Try.ntmps111
  go_wp2_with fail
  refine (l1Below_any g a len cap zs n w hc hr h1 h2).mono ?_
  rintro e w1 ⟨x, rfl, hx, hc1, hg1⟩
  clear hc hr
  go_wp2
  go_ret
  exact ⟨_, rfl, hc1, hg1⟩
end Go.Proofs.Ytobimpgapfecoaa
