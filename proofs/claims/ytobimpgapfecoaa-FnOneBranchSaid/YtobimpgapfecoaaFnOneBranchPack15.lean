/- Texts of this claim, put together: part 15. -/
import Derived.Test.YtobimpgapfecoaaFnOneBranchPack14
import Derived.Test.YtobimpgapfecoaaFnOneBranchPack3
import Derived.Test.YtobimpgapfecoaaFnOneBranchPack13
import Derived.Test.YtobimpgapfecoaaFnOneBranchPack8
import Derived.Test.YtobimpgapfecoaaFnOneBranchPack10
/- Draws of chapter 5 in plain words: which attributes and schemas are drawn. -/
namespace Go.Proofs.Ytobimpgapfecoaa
open Go.RowKit
def nmL : List ByteArray := [⟨#[97, 103, 101]⟩, ⟨#[115, 105, 122, 101]⟩, ⟨#[99, 111, 108, 111, 117, 114]⟩, ⟨#[107]⟩, ⟨#[108, 111, 110, 103, 110, 97, 109, 101]⟩]
def vlL : List ByteArray := [⟨#[114, 101, 100]⟩, ⟨#[98, 108, 117, 101]⟩, ⟨#[120]⟩, ⟨#[103, 114, 101, 101, 110]⟩]
/-- What is drawn is small. -/
structure tinyA (a : AttrD) : Prop where
  name : a.name.size ≤ 16
  cuts : a.cuts.length ≤ 4
  vals : a.vals.length ≤ 5
  each : ∀ s ∈ a.vals, s.size ≤ 16
  low : ∀ c ∈ a.cuts, -10000 ≤ c ∧ c ≤ 9999
structure tinyS (s : SchemaD) : Prop where
  attrs : s.attrs.length ≤ 6
  each : ∀ a ∈ s.attrs, tinyA a
  classes : s.classes.length ≤ 4
  sizes : ∀ t ∈ s.classes, t.size ≤ 16
theorem nm_ok : ∀ i, i < 5 → wordOk (nmL.getD i ByteArray.empty) = true ∧ (nmL.getD i ByteArray.empty).size ≤ 16 := by decide +kernel
theorem vl_ok : ∀ n, 2 ≤ n → n < 5 → choices (vlL.take n) 4 = true := by
  intro n h1 h2
  have h : n = 2 ∨ n = 3 ∨ n = 4 := by omega
  rcases h with rfl | rfl | rfl <;> decide +kernel
theorem vl_each : ∀ s ∈ vlL, s.size ≤ 16 := by decide +kernel
theorem right_cuts {i : Nat} {cs : List Int} (hi : i < 5) (h1 : 1 ≤ cs.length) (h3 : cs.length ≤ 3) (h : ∀ j, j < cs.length → cutAt cs j = true) : attrOk ⟨nmL.getD i ByteArray.empty, cs, []⟩ = true := by
  unfold attrOk
  rw [(nm_ok i hi).1]
  show (true && (if cs.length = 0 then choices [] 4 else decide (([] : List ByteArray).length = 0) && (decide (cs.length ≤ 3) && cutsRise cs))) = true
  rw [if_neg (by omega), decide_eq_true h3, rise_yes h]; rfl
theorem right_vals {i n : Nat} (hi : i < 5) (h1 : 2 ≤ n) (h3 : n < 5) : attrOk ⟨nmL.getD i ByteArray.empty, [], vlL.take n⟩ = true := by
  unfold attrOk
  rw [(nm_ok i hi).1]
  show (true && (if ([] : List Int).length = 0 then choices (vlL.take n) 4 else decide ((vlL.take n).length = 0) && (decide (([] : List Int).length ≤ 3) && cutsRise []))) = true
  rw [if_pos (show ([] : List Int).length = 0 from rfl), vl_ok n h1 h3]; rfl
theorem small_of_ok {a : AttrD} (h : attrOk a = true) : a.cuts.length ≤ 3 ∧ a.vals.length ≤ 4 := by
  unfold attrOk at h
  rw [Bool.and_eq_true] at h
  have h2 := h.2
  split at h2
  · unfold choices at h2
    rw [Bool.and_eq_true] at h2
    have := of_decide_eq_true h2.1
    omega
  · rw [Bool.and_eq_true, Bool.and_eq_true] at h2
    have h3 := of_decide_eq_true h2.1
    have h4 := of_decide_eq_true h2.2.1
    omega
theorem own_castD {w : World} {b e n n' : Nat} {v : Value} {xs ys : List Value} (h : w.ownsRow b e 1 v n xs) (hn : n = n') (hx : xs = ys) : w.ownsRow b e 1 v n' ys := by subst hn hx; exact h
end Go.Proofs.Ytobimpgapfecoaa
/- Beside a draw: what is left as it was. -/
namespace Go.Proofs.Ytobimpgapfecoaa
open Go.RowKit
set_option maxRecDepth 100000
theorem IsCur.cellW {w : World} {g p : Nat} {a : Option Addr} {len cap : Nat} (h : IsCur w g a len cap) (k : Nat) (v : Value) (hp : g ≠ p) : IsCur (w.setCell ⟨p, k, none⟩ v) g a len cap := by
  obtain ⟨i, y, hi, hb⟩ := h
  exact ⟨i, y, hi, (heap_setCell_other w ⟨p, k, none⟩ g v hp).trans hb⟩
theorem IsCur.rowW {w : World} {g p : Nat} {a : Option Addr} {len cap : Nat} (h : IsCur w g a len cap) (cs : Array Value) (hp : g ≠ p) : IsCur (w.setRow p cs) g a len cap := by
  obtain ⟨i, y, hi, hb⟩ := h
  exact ⟨i, y, hi, (Go.setRow_other _ _ _ _ hp).trans hb⟩
/-- A row behind the cursor's block is left by a draw. -/
theorem own_curW {w w' : World} {base n g e s : Nat} {v : Value} {xs : List Value} (h : w.ownsRow base e s v n xs) (hg : g < base) (hk : w.grownBy w' (some g)) : w'.ownsRow base e s v n xs := by
  refine h.kept hk ?_
  cases e : v.ownBlock with
  | none => exact .inl rfl
  | some k =>
    refine .inr fun e' => ?_
    have := (h.lt k e).1
    injection e'
    omega
theorem grown_row' {w w' : World} {r : Option Nat} (h : w.grownBy w' r) {p : Nat} (hp : w.heap.size ≤ p) (cs : Array Value) : w.grownBy (w'.setRow p cs) r := grown_row h hp cs
end Go.Proofs.Ytobimpgapfecoaa
/- Counts that are small: what draws answer. -/
namespace Go.Proofs.Ytobimpgapfecoaa
open Go.RowKit
set_option maxRecDepth 100000
structure tinySt (n : Nat) (t : StatsD) : Prop where
  totals : t.totals.length ≤ n
  cells : t.cells.length ≤ n
  each : ∀ c ∈ t.cells, c.length ≤ n
theorem tinySt.ok {n : Nat} {t : StatsD} (h : tinySt n t) (hn : n ≤ 1000) : okSt t := ⟨by have := h.totals; omega, by have := h.cells; omega, fun c hc => by have := h.each c hc; omega⟩
theorem tinySt.up {n m : Nat} {t : StatsD} (h : tinySt n t) (hn : n ≤ m) : tinySt m t := ⟨by have := h.totals; omega, by have := h.cells; omega, fun c hc => by have := h.each c hc; omega⟩
theorem tiny_new (s : SchemaD) : tinySt 16 (statsNew s) := by
  unfold statsNew
  split
  · rename_i ho
    have hc := sch_classes ho
    have h5 : s.attrs.length ≤ 5 := by unfold schemaOk at ho; rw [Bool.and_eq_true] at ho; have := of_decide_eq_true ho.1; omega
    refine ⟨by simp; omega, by rw [newCells_len]; omega, fun c hc2 => ?_⟩
    obtain ⟨a, -, rfl⟩ := List.mem_map.1 hc2
    obtain ⟨b0, b1⟩ := small_bins a
    have := binsN_le a
    have h2 := Nat.mul_le_mul (show binsN a ≤ 4 by omega) hc.2
    rw [List.length_replicate]
    omega
  · exact ⟨by simp, by simp, fun c hc => by simp at hc⟩
theorem addTo_tiny (s : SchemaD) (e : ExD) (x : Int) (cs : List (List Int)) (M : Nat) (h : ∀ c ∈ cs, c.length ≤ M) : ∀ k, ∀ c ∈ addTo s e x cs k, c.length ≤ M
  | 0 => h
  | k + 1 => by
    intro c hc
    unfold addTo at hc
    split at hc
    · rcases List.mem_or_eq_of_mem_set hc with hc | rfl
      · exact addTo_tiny s e x cs M h k c hc
      · unfold cellPut
        rw [List.length_set]
        by_cases hk : k < cs.length
        · exact h _ (il_mem hk)
        · simp [il, List.getElem?_eq_none (Nat.le_of_not_lt hk)]
    · exact addTo_tiny s e x cs M h k c hc
theorem tiny_add {n : Nat} (s : SchemaD) (t : StatsD) (e : ExD) (x : Int) (h : tinySt n t) : tinySt n (statsAdd s t e x) := by
  unfold statsAdd
  split
  · refine ⟨?_, ?_, addTo_tiny s e x _ _ h.each _⟩
    · show (cellPut t.totals _ x).length ≤ _
      unfold cellPut
      rw [List.length_set]; exact h.totals
    · show (addTo s e x t.cells _).length ≤ _
      rw [addTo_len]; exact h.cells
  · exact h
theorem tiny_thin {n : Nat} (t : StatsD) (h : tinySt n t) : tinySt n (thinS t) := ⟨h.totals, by simp [thinS], fun c hc => by simp [thinS] at hc⟩
theorem SepII.curW {w w' : World} {b g n : Nat} {v : Value} {L : Nat → Value} {ys : List Value} {cs : List (List Int)} (h : SepII b w v L ys cs n) (hg : g < b) (hk : w.grownBy w' (some g)) : SepII b w' v L ys cs n :=
  ⟨own_curW h.row hg hk, h.cells, fun j hj => own_curW (h.ints j hj) hg hk, h.ord⟩
theorem OwnSt.curW {w w' : World} {b g : Nat} {v : Value} {t : StatsD} (h : OwnSt b w v t) (hg : g < b) (hk : w.grownBy w' (some g)) : OwnSt b w' v t := by
  obtain ⟨vt, vc, L, ys, rfl, h1, h2, h3⟩ := h
  exact ⟨vt, vc, L, ys, rfl, own_curW h1 hg hk, h2.curW hg hk, h3⟩
theorem OwnSt.alloc {w : World} {b : Nat} {v : Value} {t : StatsD} (h : OwnSt b w v t) (o : Obj) : OwnSt b (w.alloc o) v t := h.below ((Below.refl _ _).alloc (Nat.le_refl _) o)
theorem OwnSt.rowB {w : World} {b p : Nat} {v : Value} {t : StatsD} {T : TypeId} {cs : Array Value} (h : OwnSt b w v t) (hp : Blk T w p cs) (h1 : 3 ≠ T) (h2 : 28 ≠ T) (c : Array Value) : OwnSt b (w.setRow p c) v t := by
  obtain ⟨vt, vc, L, ys, rfl, o1, o2, o3⟩ := h
  exact ⟨vt, vc, L, ys, rfl, own_setRowN o1 _ _ (own_ne_blk o1 hp h1), ⟨own_setRowN o2.row _ _ (own_ne_blk o2.row hp h2), o2.cells, fun j hj => own_setRowN (o2.ints j hj) _ _ (own_ne_blk (o2.ints j hj) hp h1), o2.ord⟩, o3⟩
theorem OwnSt.cellB {w : World} {b p : Nat} {v : Value} {t : StatsD} {T : TypeId} {cs : Array Value} (h : OwnSt b w v t) (hp : Blk T w p cs) (h1 : 3 ≠ T) (h2 : 28 ≠ T) (k : Nat) (u : Value) : OwnSt b (w.setCell ⟨p, k, none⟩ u) v t := by
  obtain ⟨vt, vc, L, ys, rfl, o1, o2, o3⟩ := h
  exact ⟨vt, vc, L, ys, rfl, own_setCellN o1 _ _ _ (own_ne_blk o1 hp h1), ⟨own_setCellN o2.row _ _ _ (own_ne_blk o2.row hp h2), o2.cells, fun j hj => own_setCellN (o2.ints j hj) _ _ _ (own_ne_blk (o2.ints j hj) hp h1), o2.ord⟩, o3⟩
theorem OwnSt.rowX8 {w : World} {b k : Nat} {v : Value} {s : StatsD} (h : OwnSt b w v s) (c : Array Value) (hk : k < b) : OwnSt b (w.setRow k c) v s := by
  obtain ⟨vt, vc, L, ys, rfl, h1, h2, h3⟩ := h
  exact ⟨vt, vc, L, ys, rfl, own_setRow h1 k c hk, h2.setRow k c hk, h3⟩
end Go.Proofs.Ytobimpgapfecoaa
/- Draws of stage 2: one of a number of ways. -/
namespace Go.Proofs.Ytobimpgapfecoaa
open Go.RowKit
set_option maxRecDepth 100000

theorem once_any (g : Nat) (a : Option Addr) (len cap : Nat) (zs : List Int) (n : Nat) (w : World) (hc : IsCur w g a len cap) (hr : IsRow .u8 w a len cap zs) (h1 : 1 ≤ n) (h2 : n ≤ 256) :
    Calls Try.prog 111 #[.pointer (some ⟨g, 0, none⟩), .int .i64 (n : Int)] w fun e w' => ∃ b : Bool, e = .returned (.bool b) ∧ IsCur w' g a len cap ∧ w.grownBy w' (some g) := by
  go_enter Try.func111, Try.ntmps111
  go_wp2_with fail
  refine (l1Below_any g a len cap zs n w hc hr h1 h2).mono ?_
  rintro e w1 ⟨x, rfl, hx, hc1, hg1⟩
  clear hc hr
  go_wp2
  go_ret
  exact ⟨_, rfl, hc1, hg1⟩
end Go.Proofs.Ytobimpgapfecoaa
