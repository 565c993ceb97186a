/- Texts of this claim, put together: part 6. -/
import Derived.Test.YtfekcckckmhioaaGreatDoorFnRowTextPack5
import Derived.Test.YtfekcckckmhioaaGreatDoorFnRowTextPack3
import Derived.Lib.QuietBelow
import Derived.Test.YtfekcckckmhioaaGreatDoorFnRowTextPack4
/- What the laws' own helpers do with a schema that came in: its size, a copy of it, two held against each other. (What is plain.) -/
namespace Go.Proofs.YtfekcckckmhioaaGreatDoor
open Go.RowKit
set_option maxRecDepth 100000
/-- What came in is small enough to be spoken of at all. -/
structure inS (s : SchemaD) : Prop where
  attrs : s.attrs.length ≤ 9223372036854775807
  each : ∀ a ∈ s.attrs, inA a
  classes : s.classes.length ≤ 9223372036854775807
  sizes : ∀ t ∈ s.classes, t.size ≤ 9223372036854775807
structure fitS (s : SchemaD) : Prop where
  attrs : s.attrs.length ≤ 1048576
  each : ∀ a ∈ s.attrs, fitA a
  classes : s.classes.length ≤ 1048576
  sizes : ∀ t ∈ s.classes, t.size ≤ 1048576
theorem fitS.ok {s : SchemaD} (h : fitS s) : okSch s := ⟨by have := h.attrs; omega, fun a ha => (h.each a ha).ok, by have := h.classes; omega, fun t ht => by have := h.sizes t ht; omega⟩
end Go.Proofs.YtfekcckckmhioaaGreatDoor
/- A copy of a schema that came in, by the laws' own helpers. (What is plain.) -/
namespace Go.Proofs.YtfekcckckmhioaaGreatDoor
open Go.RowKit
set_option maxRecDepth 100000
theorem atInfo : (Tryz.prog.info? 57).map (fun i => (i.zero, i.size, i.bytes)) = some (some (.agg #[.string ⟨#[]⟩, .slice none 0 0, .slice none 0 0]), 3, 64) := by kernel_rfl

/-- The first k attributes of a row of the call's own are these; their lists lie behind the row. -/
def DoneA (w : World) (b : Nat) (ys : List Value) (ls : List AttrD) (k : Nat) : Prop :=
  ∀ j, j < k → ∃ vc vv, ys[j * 3]? = some (.string (ad ls j).name) ∧ ys[j * 3 + 1]? = some vc ∧ ys[j * 3 + 2]? = some vv ∧
    w.ownsRow b 3 1 vc (ad ls j).cuts.length ((ad ls j).cuts.map (Value.int .i64)) ∧ w.ownsRow b 9 1 vv (ad ls j).vals.length ((ad ls j).vals.map Value.string)
theorem DoneA.below {w w' : World} {b : Nat} {ys : List Value} {ls : List AttrD} {k : Nat} (h : DoneA w b ys ls k) (hb : Below w.heap.size w w') : DoneA w' b ys ls k := by
  intro j hj
  obtain ⟨vc, vv, h0, h1, h2, h3, h4⟩ := h j hj
  exact ⟨vc, vv, h0, h1, h2, own_below h3 hb, own_below h4 hb⟩
theorem DoneA.base {w : World} {b b' : Nat} {ys : List Value} {ls : List AttrD} {k : Nat} (h : DoneA w b ys ls k) (hb : b' ≤ b) : DoneA w b' ys ls k := by
  intro j hj
  obtain ⟨vc, vv, h0, h1, h2, h3, h4⟩ := h j hj
  exact ⟨vc, vv, h0, h1, h2, own_base h3 hb, own_base h4 hb⟩
theorem DoneA.setCell {w : World} {b : Nat} {ys : List Value} {ls : List AttrD} {k : Nat} (h : DoneA w b ys ls k) (p : Addr) (u : Value) (hp : p.block < b) : DoneA (w.setCell p u) b ys ls k := by
  intro j hj
  obtain ⟨vc, vv, h0, h1, h2, h3, h4⟩ := h j hj
  exact ⟨vc, vv, h0, h1, h2, own_setCell h3 p u hp, own_setCell h4 p u hp⟩
theorem DoneA.setRow {w : World} {b : Nat} {ys : List Value} {ls : List AttrD} {k : Nat} (h : DoneA w b ys ls k) (p : Nat) (u : Array Value) (hp : p < b) : DoneA (w.setRow p u) b ys ls k := by
  intro j hj
  obtain ⟨vc, vv, h0, h1, h2, h3, h4⟩ := h j hj
  exact ⟨vc, vv, h0, h1, h2, own_setRow h3 p u hp, own_setRow h4 p u hp⟩
/-- A list of attributes that lies, with all that it has, in blocks from a base on. -/
def OwnL (base : Nat) (w : World) (v : Value) (ls : List AttrD) : Prop := ∃ ys, w.ownsRow base 57 3 v ls.length ys ∧ DoneA w base ys ls ls.length
theorem own3_setCell {w : World} {base e s n : Nat} {v : Value} {xs : List Value} (h : w.ownsRow base e s v n xs) (p : Addr) (u : Value) (hp : p.block < base) : (w.setCell p u).ownsRow base e s v n xs := by
  refine ⟨h.1, ?_⟩
  rcases h.2 with h' | ⟨g, cap, cur, hv, hg, hc, r⟩
  · exact .inl h'
  · refine .inr ⟨g, cap, cur, hv, hg, ?_, r⟩
    simp only [World.setCell, Array.getElem?_modify]
    rw [if_neg (by omega)]; exact hc
theorem own3_setRow {w : World} {base e s n : Nat} {v : Value} {xs : List Value} (h : w.ownsRow base e s v n xs) (k : Nat) (c : Array Value) (hp : k < base) : (w.setRow k c).ownsRow base e s v n xs := by
  refine ⟨h.1, ?_⟩
  rcases h.2 with h' | ⟨g, cap, cur, hv, hg, hc, r⟩
  · exact .inl h'
  · refine .inr ⟨g, cap, cur, hv, hg, ?_, r⟩
    rw [Go.setRow_other w k g c (by omega)]; exact hc
theorem OwnL.below {base : Nat} {w w' : World} {v : Value} {ls : List AttrD} (h : OwnL base w v ls) (hb : Below w.heap.size w w') : OwnL base w' v ls := by
  obtain ⟨ys, h1, h2⟩ := h
  exact ⟨ys, own_below h1 hb, h2.below hb⟩
theorem OwnL.base {b b' : Nat} {w : World} {v : Value} {ls : List AttrD} (h : OwnL b w v ls) (hb : b' ≤ b) : OwnL b' w v ls := by
  obtain ⟨ys, h1, h2⟩ := h
  exact ⟨ys, own_base h1 hb, h2.base hb⟩
theorem OwnL.setCell {base : Nat} {w : World} {v : Value} {ls : List AttrD} (h : OwnL base w v ls) (p : Addr) (u : Value) (hp : p.block < base) : OwnL base (w.setCell p u) v ls := by
  obtain ⟨ys, h1, h2⟩ := h
  exact ⟨ys, own3_setCell h1 p u hp, h2.setCell p u hp⟩
theorem OwnL.setRow {base : Nat} {w : World} {v : Value} {ls : List AttrD} (h : OwnL base w v ls) (k : Nat) (c : Array Value) (hp : k < base) : OwnL base (w.setRow k c) v ls := by
  obtain ⟨ys, h1, h2⟩ := h
  exact ⟨ys, own3_setRow h1 k c hp, h2.setRow k c hp⟩
theorem OwnL.at {base : Nat} {w : World} {v : Value} {ls : List AttrD} (h : OwnL base w v ls) : RowA w v ls := by
  obtain ⟨ys, ho, h⟩ := h
  rcases id ho.2 with ⟨rfl, h0⟩ | ⟨g, cap, cur, rfl, hg, hcur, hcap, r⟩
  · exact ⟨none, 0, by rw [h0], by omega, fun h1 => by omega⟩
  · refine ⟨_, _, rfl, hcap, fun h0 => ⟨g, 0, rfl, (ho.lt g rfl).2, fun j hj => ?_⟩⟩
    obtain ⟨vc, vv, h0, h1, h2, h3, h4⟩ := h j hj
    exact ⟨vc, vv, by rw [Nat.zero_add, ho.cellAt _ (by omega)]; exact h0, by rw [Nat.zero_add, ho.cellAt _ (by omega)]; exact h1, by rw [Nat.zero_add, ho.cellAt _ (by omega)]; exact h2, RowI.of_own h3 rfl, RowS.of_own h4 rfl⟩
theorem DoneA.stored {w : World} {g k : Nat} {ys : List Value} {ls : List AttrD} {x y z : Value} (h : DoneA w (g + 1) ys ls k) (hl : k * 3 + 2 < ys.length) (hx : x = .string (ad ls k).name)
    (hy : w.ownsRow (g + 1) 3 1 y (ad ls k).cuts.length ((ad ls k).cuts.map (Value.int .i64))) (hz : w.ownsRow (g + 1) 9 1 z (ad ls k).vals.length ((ad ls k).vals.map Value.string)) :
    DoneA (((w.setCell ⟨g, k * 3, none⟩ x).setCell ⟨g, k * 3 + 1, none⟩ y).setCell ⟨g, k * 3 + 2, none⟩ z) (g + 1) (((ys.set (k * 3) x).set (k * 3 + 1) y).set (k * 3 + 2) z) ls (k + 1) := by
  have key : ∀ {e n : Nat} {v : Value} {xs : List Value}, w.ownsRow (g + 1) e 1 v n xs → (((w.setCell ⟨g, k * 3, none⟩ x).setCell ⟨g, k * 3 + 1, none⟩ y).setCell ⟨g, k * 3 + 2, none⟩ z).ownsRow (g + 1) e 1 v n xs := fun h =>
    own_setCell (own_setCell (own_setCell h _ _ (by simp)) _ _ (by simp)) _ _ (by simp)
  intro j hj
  by_cases e : j = k
  · subst e
    refine ⟨y, z, ?_, ?_, ?_, key hy, key hz⟩
    · rw [List.getElem?_set_ne (by omega), List.getElem?_set_ne (by omega), List.getElem?_set_self (by omega), hx]
    · rw [List.getElem?_set_ne (by omega), List.getElem?_set_self (by simp; omega)]
    · rw [List.getElem?_set_self (by simp; omega)]
  · obtain ⟨vc, vv, h0, h1, h2, h3, h4⟩ := h j (by omega)
    refine ⟨vc, vv, ?_, ?_, ?_, key h3, key h4⟩
    · rw [List.getElem?_set_ne (by omega), List.getElem?_set_ne (by omega), List.getElem?_set_ne (by omega), h0]
    · rw [List.getElem?_set_ne (by omega), List.getElem?_set_ne (by omega), List.getElem?_set_ne (by omega), h1]
    · rw [List.getElem?_set_ne (by omega), List.getElem?_set_ne (by omega), List.getElem?_set_ne (by omega), h2]

theorem sch_size : (Tryz.prog.info? 35).map (·.size) = some 2 := by kernel_rfl
theorem wp_sc_load {ops : Array Oper} {rest : List Oper} {o : Oper} {a : Act} {w : World} {Q : Exit → Act → World → Prop} (hgd : o.guard = none) (x : Operand) (ho : o.op = .load 35 x)
    (h : ∃ g, a.eval x = .pointer (some ⟨g, 0, none⟩) ∧ ∃ c0 c1, Blk 35 w g #[c0, c1] ∧ wpList Tryz.prog ops Q rest (a.put o.dst (.agg #[c0, c1])) w) : wpList Tryz.prog ops Q (o :: rest) a w := by
  obtain ⟨g, hx, c0, c1, hA, hk⟩ := h
  exact wpList_load_row hgd 35 x ho g hx _ _ _ _ hA Tryz.underlying35 rfl sch_size hk
theorem wp_sc_store {ops : Array Oper} {rest : List Oper} {o : Oper} {a : Act} {w : World} {Q : Exit → Act → World → Prop} (hgd : o.guard = none) (x y : Operand) (ho : o.op = .store 35 x y)
    (h : ∃ g, a.eval x = .pointer (some ⟨g, 0, none⟩) ∧ ∃ o1 l1 k1 o2 l2 k2, a.eval y = .agg #[.slice o1 l1 k1, .slice o2 l2 k2] ∧ ∃ d0 d1, Blk 35 w g #[d0, d1] ∧ wpList Tryz.prog ops Q rest (a.put o.dst undef) (w.setRow g #[.slice o1 l1 k1, .slice o2 l2 k2])) : wpList Tryz.prog ops Q (o :: rest) a w := by
  obtain ⟨g, hx, o1, l1, k1, o2, l2, k2, hy, d0, d1, hA, hk⟩ := h
  exact wpList_store_row hgd 35 x y ho g _ hx hy _ _ hA sch_size rfl (by simp [Value.oneCell']) hk
theorem res_sc {fn : Func} {p : Tmp} (h : fn.results = #[.cell p 35]) (tmps : Array Value) (w : World) (g : Nat) (c0 c1 : Value)
    (hp : tmps.getD p undef = .pointer (some ⟨g, 0, none⟩)) (hg : Blk 35 w g #[c0, c1]) : (results fn tmps).run Tryz.prog w = .ok (.agg #[c0, c1]) w :=
  results_cell_row h tmps w g _ _ _ _ hp hg Tryz.underlying35 rfl sch_size

/-- A schema that lies in blocks from a base on. -/
def OwnS (base : Nat) (w : World) (v : Value) (s : SchemaD) : Prop :=
  ∃ va vc, v = .agg #[va, vc] ∧ OwnL base w va s.attrs ∧ w.ownsRow base 9 1 vc s.classes.length (s.classes.map Value.string)
theorem OwnS.at {base : Nat} {w : World} {v : Value} {s : SchemaD} (h : OwnS base w v s) : SchemaAt w v s := by
  obtain ⟨va, vc, rfl, h1, h2⟩ := h
  exact ⟨va, vc, rfl, h1.at, RowS.of_own h2 rfl⟩
end Go.Proofs.YtfekcckckmhioaaGreatDoor
/- Beside a draw: what is left as it was. -/
namespace Go.Proofs.YtfekcckckmhioaaGreatDoor
open Go.RowKit
set_option maxRecDepth 100000
theorem IsCur.cellW {w : World} {g p : Nat} {a : Option Addr} {len cap : Nat} (h : IsCur w g a len cap) (k : Nat) (v : Value) (hp : g ≠ p) : IsCur (w.setCell ⟨p, k, none⟩ v) g a len cap := by
  obtain ⟨i, y, hi, hb⟩ := h
  exact ⟨i, y, hi, (heap_setCell_other w ⟨p, k, none⟩ g v hp).trans hb⟩
theorem IsCur.rowW {w : World} {g p : Nat} {a : Option Addr} {len cap : Nat} (h : IsCur w g a len cap) (cs : Array Value) (hp : g ≠ p) : IsCur (w.setRow p cs) g a len cap := by
  obtain ⟨i, y, hi, hb⟩ := h
  exact ⟨i, y, hi, (Go.setRow_other _ _ _ _ hp).trans hb⟩
/-- A row behind the cursor's block is left by a draw. -/
theorem own_curW {w w' : World} {base n g e s : Nat} {v : Value} {xs : List Value} (h : w.ownsRow base e s v n xs) (hg : g < base) (hk : w.grownBy w' (some g)) : w'.ownsRow base e s v n xs := by
  refine h.kept hk ?_
  cases e : v.ownBlock with
  | none => exact .inl rfl
  | some k =>
    refine .inr fun e' => ?_
    have := (h.lt k e).1
    injection e'
    omega
theorem grown_row' {w w' : World} {r : Option Nat} (h : w.grownBy w' r) {p : Nat} (hp : w.heap.size ≤ p) (cs : Array Value) : w.grownBy (w'.setRow p cs) r := grown_row h hp cs
end Go.Proofs.YtfekcckckmhioaaGreatDoor
/- Draws of stage 2: one of a number of ways. -/
namespace Go.Proofs.YtfekcckckmhioaaGreatDoor
open Go.RowKit
set_option maxRecDepth 100000

theorem once_any (g : Nat) (a : Option Addr) (len cap : Nat) (zs : List Int) (n : Nat) (w : World) (hc : IsCur w g a len cap) (hr : IsRow .u8 w a len cap zs) (h1 : 1 ≤ n) (h2 : n ≤ 256) :
    Calls Tryz.prog 106 #[.pointer (some ⟨g, 0, none⟩), .int .i64 (n : Int)] w fun e w' => ∃ b : Bool, e = .returned (.bool b) ∧ IsCur w' g a len cap ∧ w.grownBy w' (some g) := by
  go_enter Tryz.func106, Tryz.ntmps106
  go_wp2_with fail
  refine (l1Below_any g a len cap zs n w hc hr h1 h2).mono ?_
  rintro e w1 ⟨x, rfl, hx, hc1, hg1⟩
  clear hc hr
  go_wp2
  go_ret
  exact ⟨_, rfl, hc1, hg1⟩
end Go.Proofs.YtfekcckckmhioaaGreatDoor
