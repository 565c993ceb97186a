/- Texts of this claim, put together: part 18. -/
import Derived.Test.YtfekcckckmhioaaGreatDoorRowOfPack17
import Derived.Test.YtfekcckckmhioaaGreatDoorRowOfPack2
import Derived.Test.YtfekcckckmhioaaGreatDoorRowOfPack1
/- A copy of a schema that came in, by the laws' own helpers. (What is plain.) -/
namespace Go.Proofs.YtfekcckckmhioaaGreatDoor
open Go.RowKit
set_option maxRecDepth 100000
theorem atInfo : (Tryz.prog.info? 57).map (fun i => (i.zero, i.size, i.bytes)) = some (some (.agg #[.string ⟨#[]⟩, .slice none 0 0, .slice none 0 0]), 3, 64) := by kernel_rfl

/-- The first k attributes of a row of the call's own are these; their lists lie behind the row. -/
def DoneA (w : World) (b : Nat) (ys : List Value) (ls : List AttrD) (k : Nat) : Prop :=
  ∀ j, j < k → ∃ vc vv, ys[j * 3]? = some (.string (ad ls j).name) ∧ ys[j * 3 + 1]? = some vc ∧ ys[j * 3 + 2]? = some vv ∧
    w.ownsRow b 3 1 vc (ad ls j).cuts.length ((ad ls j).cuts.map (Value.int .i64)) ∧ w.ownsRow b 9 1 vv (ad ls j).vals.length ((ad ls j).vals.map Value.string)
theorem DoneA.below {w w' : World} {b : Nat} {ys : List Value} {ls : List AttrD} {k : Nat} (h : DoneA w b ys ls k) (hb : Below w.heap.size w w') : DoneA w' b ys ls k := by
  intro j hj
  obtain ⟨vc, vv, h0, h1, h2, h3, h4⟩ := h j hj
  exact ⟨vc, vv, h0, h1, h2, own_below h3 hb, own_below h4 hb⟩
theorem DoneA.base {w : World} {b b' : Nat} {ys : List Value} {ls : List AttrD} {k : Nat} (h : DoneA w b ys ls k) (hb : b' ≤ b) : DoneA w b' ys ls k := by
  intro j hj
  obtain ⟨vc, vv, h0, h1, h2, h3, h4⟩ := h j hj
  exact ⟨vc, vv, h0, h1, h2, own_base h3 hb, own_base h4 hb⟩
theorem DoneA.setCell {w : World} {b : Nat} {ys : List Value} {ls : List AttrD} {k : Nat} (h : DoneA w b ys ls k) (p : Addr) (u : Value) (hp : p.block < b) : DoneA (w.setCell p u) b ys ls k := by
  intro j hj
  obtain ⟨vc, vv, h0, h1, h2, h3, h4⟩ := h j hj
  exact ⟨vc, vv, h0, h1, h2, own_setCell h3 p u hp, own_setCell h4 p u hp⟩
theorem DoneA.setRow {w : World} {b : Nat} {ys : List Value} {ls : List AttrD} {k : Nat} (h : DoneA w b ys ls k) (p : Nat) (u : Array Value) (hp : p < b) : DoneA (w.setRow p u) b ys ls k := by
  intro j hj
  obtain ⟨vc, vv, h0, h1, h2, h3, h4⟩ := h j hj
  exact ⟨vc, vv, h0, h1, h2, own_setRow h3 p u hp, own_setRow h4 p u hp⟩
/-- A list of attributes that lies, with all that it has, in blocks from a base on. -/
def OwnL (base : Nat) (w : World) (v : Value) (ls : List AttrD) : Prop := ∃ ys, w.ownsRow base 57 3 v ls.length ys ∧ DoneA w base ys ls ls.length
theorem own3_setCell {w : World} {base e s n : Nat} {v : Value} {xs : List Value} (h : w.ownsRow base e s v n xs) (p : Addr) (u : Value) (hp : p.block < base) : (w.setCell p u).ownsRow base e s v n xs := by
  refine ⟨h.1, ?_⟩
  rcases h.2 with h' | ⟨g, cap, cur, hv, hg, hc, r⟩
  · exact .inl h'
  · refine .inr ⟨g, cap, cur, hv, hg, ?_, r⟩
    simp only [World.setCell, Array.getElem?_modify]
    rw [if_neg (by omega)]; exact hc
theorem own3_setRow {w : World} {base e s n : Nat} {v : Value} {xs : List Value} (h : w.ownsRow base e s v n xs) (k : Nat) (c : Array Value) (hp : k < base) : (w.setRow k c).ownsRow base e s v n xs := by
  refine ⟨h.1, ?_⟩
  rcases h.2 with h' | ⟨g, cap, cur, hv, hg, hc, r⟩
  · exact .inl h'
  · refine .inr ⟨g, cap, cur, hv, hg, ?_, r⟩
    rw [Go.setRow_other w k g c (by omega)]; exact hc
theorem OwnL.below {base : Nat} {w w' : World} {v : Value} {ls : List AttrD} (h : OwnL base w v ls) (hb : Below w.heap.size w w') : OwnL base w' v ls := by
  obtain ⟨ys, h1, h2⟩ := h
  exact ⟨ys, own_below h1 hb, h2.below hb⟩
theorem OwnL.base {b b' : Nat} {w : World} {v : Value} {ls : List AttrD} (h : OwnL b w v ls) (hb : b' ≤ b) : OwnL b' w v ls := by
  obtain ⟨ys, h1, h2⟩ := h
  exact ⟨ys, own_base h1 hb, h2.base hb⟩
theorem OwnL.setCell {base : Nat} {w : World} {v : Value} {ls : List AttrD} (h : OwnL base w v ls) (p : Addr) (u : Value) (hp : p.block < base) : OwnL base (w.setCell p u) v ls := by
  obtain ⟨ys, h1, h2⟩ := h
  exact ⟨ys, own3_setCell h1 p u hp, h2.setCell p u hp⟩
theorem OwnL.setRow {base : Nat} {w : World} {v : Value} {ls : List AttrD} (h : OwnL base w v ls) (k : Nat) (c : Array Value) (hp : k < base) : OwnL base (w.setRow k c) v ls := by
  obtain ⟨ys, h1, h2⟩ := h
  exact ⟨ys, own3_setRow h1 k c hp, h2.setRow k c hp⟩
theorem OwnL.at {base : Nat} {w : World} {v : Value} {ls : List AttrD} (h : OwnL base w v ls) : RowA w v ls := by
  obtain ⟨ys, ho, h⟩ := h
  rcases id ho.2 with ⟨rfl, h0⟩ | ⟨g, cap, cur, rfl, hg, hcur, hcap, r⟩
  · exact ⟨none, 0, by rw [h0], by omega, fun h1 => by omega⟩
  · refine ⟨_, _, rfl, hcap, fun h0 => ⟨g, 0, rfl, (ho.lt g rfl).2, fun j hj => ?_⟩⟩
    obtain ⟨vc, vv, h0, h1, h2, h3, h4⟩ := h j hj
    exact ⟨vc, vv, by rw [Nat.zero_add, ho.cellAt _ (by omega)]; exact h0, by rw [Nat.zero_add, ho.cellAt _ (by omega)]; exact h1, by rw [Nat.zero_add, ho.cellAt _ (by omega)]; exact h2, RowI.of_own h3 rfl, RowS.of_own h4 rfl⟩
theorem DoneA.stored {w : World} {g k : Nat} {ys : List Value} {ls : List AttrD} {x y z : Value} (h : DoneA w (g + 1) ys ls k) (hl : k * 3 + 2 < ys.length) (hx : x = .string (ad ls k).name)
    (hy : w.ownsRow (g + 1) 3 1 y (ad ls k).cuts.length ((ad ls k).cuts.map (Value.int .i64))) (hz : w.ownsRow (g + 1) 9 1 z (ad ls k).vals.length ((ad ls k).vals.map Value.string)) :
    DoneA (((w.setCell ⟨g, k * 3, none⟩ x).setCell ⟨g, k * 3 + 1, none⟩ y).setCell ⟨g, k * 3 + 2, none⟩ z) (g + 1) (((ys.set (k * 3) x).set (k * 3 + 1) y).set (k * 3 + 2) z) ls (k + 1) := by
  have key : ∀ {e n : Nat} {v : Value} {xs : List Value}, w.ownsRow (g + 1) e 1 v n xs → (((w.setCell ⟨g, k * 3, none⟩ x).setCell ⟨g, k * 3 + 1, none⟩ y).setCell ⟨g, k * 3 + 2, none⟩ z).ownsRow (g + 1) e 1 v n xs := fun h =>
    own_setCell (own_setCell (own_setCell h _ _ (by simp)) _ _ (by simp)) _ _ (by simp)
  intro j hj
  by_cases e : j = k
  · subst e
    refine ⟨y, z, ?_, ?_, ?_, key hy, key hz⟩
    · rw [List.getElem?_set_ne (by omega), List.getElem?_set_ne (by omega), List.getElem?_set_self (by omega), hx]
    · rw [List.getElem?_set_ne (by omega), List.getElem?_set_self (by simp; omega)]
    · rw [List.getElem?_set_self (by simp; omega)]
  · obtain ⟨vc, vv, h0, h1, h2, h3, h4⟩ := h j (by omega)
    refine ⟨vc, vv, ?_, ?_, ?_, key h3, key h4⟩
    · rw [List.getElem?_set_ne (by omega), List.getElem?_set_ne (by omega), List.getElem?_set_ne (by omega), h0]
    · rw [List.getElem?_set_ne (by omega), List.getElem?_set_ne (by omega), List.getElem?_set_ne (by omega), h1]
    · rw [List.getElem?_set_ne (by omega), List.getElem?_set_ne (by omega), List.getElem?_set_ne (by omega), h2]

theorem sch_size : (Tryz.prog.info? 35).map (·.size) = some 2 := by kernel_rfl
theorem wp_sc_load {ops : Array Oper} {rest : List Oper} {o : Oper} {a : Act} {w : World} {Q : Exit → Act → World → Prop} (hgd : o.guard = none) (x : Operand) (ho : o.op = .load 35 x)
    (h : ∃ g, a.eval x = .pointer (some ⟨g, 0, none⟩) ∧ ∃ c0 c1, Blk 35 w g #[c0, c1] ∧ wpList Tryz.prog ops Q rest (a.put o.dst (.agg #[c0, c1])) w) : wpList Tryz.prog ops Q (o :: rest) a w := by
  obtain ⟨g, hx, c0, c1, hA, hk⟩ := h
  exact wpList_load_row hgd 35 x ho g hx _ _ _ _ hA Tryz.underlying35 rfl sch_size hk
theorem wp_sc_store {ops : Array Oper} {rest : List Oper} {o : Oper} {a : Act} {w : World} {Q : Exit → Act → World → Prop} (hgd : o.guard = none) (x y : Operand) (ho : o.op = .store 35 x y)
    (h : ∃ g, a.eval x = .pointer (some ⟨g, 0, none⟩) ∧ ∃ o1 l1 k1 o2 l2 k2, a.eval y = .agg #[.slice o1 l1 k1, .slice o2 l2 k2] ∧ ∃ d0 d1, Blk 35 w g #[d0, d1] ∧ wpList Tryz.prog ops Q rest (a.put o.dst undef) (w.setRow g #[.slice o1 l1 k1, .slice o2 l2 k2])) : wpList Tryz.prog ops Q (o :: rest) a w := by
  obtain ⟨g, hx, o1, l1, k1, o2, l2, k2, hy, d0, d1, hA, hk⟩ := h
  exact wpList_store_row hgd 35 x y ho g _ hx hy _ _ hA sch_size rfl (by simp [Value.oneCell']) hk
theorem res_sc {fn : Func} {p : Tmp} (h : fn.results = #[.cell p 35]) (tmps : Array Value) (w : World) (g : Nat) (c0 c1 : Value)
    (hp : tmps.getD p undef = .pointer (some ⟨g, 0, none⟩)) (hg : Blk 35 w g #[c0, c1]) : (results fn tmps).run Tryz.prog w = .ok (.agg #[c0, c1]) w :=
  results_cell_row h tmps w g _ _ _ _ hp hg Tryz.underlying35 rfl sch_size

/-- A schema that lies in blocks from a base on. -/
def OwnS (base : Nat) (w : World) (v : Value) (s : SchemaD) : Prop :=
  ∃ va vc, v = .agg #[va, vc] ∧ OwnL base w va s.attrs ∧ w.ownsRow base 9 1 vc s.classes.length (s.classes.map Value.string)
theorem OwnS.at {base : Nat} {w : World} {v : Value} {s : SchemaD} (h : OwnS base w v s) : SchemaAt w v s := by
  obtain ⟨va, vc, rfl, h1, h2⟩ := h
  exact ⟨va, vc, rfl, h1.at, RowS.of_own h2 rfl⟩
end Go.Proofs.YtfekcckckmhioaaGreatDoor
/- A list of attributes of the call's own: no two of its lists share memory. -/
namespace Go.Proofs.YtfekcckckmhioaaGreatDoor
open Go.RowKit
set_option maxRecDepth 100000
/-- The attributes that a row leads to, each list in a block of its own. -/
structure SepL (base : Nat) (w : World) (v : Value) (L : Nat → Value × Value) (ys : List Value) (ls : List AttrD) (n : Nat) : Prop where
  row : w.ownsRow base 57 3 v n ys
  cells : ∀ j, j < n → ys[j * 3]? = some (.string (ad ls j).name) ∧ ys[j * 3 + 1]? = some (L j).1 ∧ ys[j * 3 + 2]? = some (L j).2
  ints : ∀ j, j < n → w.ownsRow base 3 1 (L j).1 (ad ls j).cuts.length ((ad ls j).cuts.map (Value.int .i64))
  strs : ∀ j, j < n → w.ownsRow base 9 1 (L j).2 (ad ls j).vals.length ((ad ls j).vals.map Value.string)
  ord1 : ∀ i j a b, i < j → j < n → (L i).1.ownBlock = some a → (L j).1.ownBlock = some b → a < b
  ord2 : ∀ i j a b, i < j → j < n → (L i).2.ownBlock = some a → (L j).2.ownBlock = some b → a < b
theorem SepL.nil (base : Nat) (w : World) (L : Nat → Value × Value) : SepL base w (.slice none 0 0) L [] [] 0 :=
  ⟨⟨by simp, .inl ⟨rfl, rfl⟩⟩, fun j hj => by omega, fun j hj => by omega, fun j hj => by omega, fun _ _ _ _ _ h => by omega, fun _ _ _ _ _ h => by omega⟩
theorem apart_t {w : World} {v v' : Value} {b b' e e' s s' n n' : Nat} {xs xs' : List Value} (h : w.ownsRow b e s v n xs) (h' : w.ownsRow b' e' s' v' n' xs') (he : e ≠ e') : v.ownBlock = none ∨ v.ownBlock ≠ v'.ownBlock := by
  rcases h.2 with ⟨rfl, _⟩ | ⟨g, cap, cur, rfl, _, hc, _⟩
  · exact .inl rfl
  · refine .inr fun eq => ?_
    rcases h'.2 with ⟨rfl, _⟩ | ⟨g', cap', cur', rfl, _, hc', _⟩
    · cases eq
    · injection eq with eq
      simp only at eq
      subst eq
      rw [hc] at hc'
      injection hc' with hc'
      injection hc' with _ h2 _
      exact he h2
theorem SepL.below {base : Nat} {w w' : World} {v : Value} {L : Nat → Value × Value} {ys : List Value} {ls : List AttrD} {n : Nat} (h : SepL base w v L ys ls n) (hb : Below w.heap.size w w') : SepL base w' v L ys ls n :=
  ⟨own_below h.row hb, h.cells, fun j hj => own_below (h.ints j hj) hb, fun j hj => own_below (h.strs j hj) hb, h.ord1, h.ord2⟩
theorem SepL.setCell {base : Nat} {w : World} {v : Value} {L : Nat → Value × Value} {ys : List Value} {ls : List AttrD} {n : Nat} (h : SepL base w v L ys ls n) (p : Addr) (u : Value) (hp : p.block < base) : SepL base (w.setCell p u) v L ys ls n :=
  ⟨own3_setCell h.row p u hp, h.cells, fun j hj => own_setCell (h.ints j hj) p u hp, fun j hj => own_setCell (h.strs j hj) p u hp, h.ord1, h.ord2⟩
theorem SepL.setRow {base : Nat} {w : World} {v : Value} {L : Nat → Value × Value} {ys : List Value} {ls : List AttrD} {n : Nat} (h : SepL base w v L ys ls n) (k : Nat) (c : Array Value) (hp : k < base) : SepL base (w.setRow k c) v L ys ls n :=
  ⟨own3_setRow h.row k c hp, h.cells, fun j hj => own_setRow (h.ints j hj) k c hp, fun j hj => own_setRow (h.strs j hj) k c hp, h.ord1, h.ord2⟩
theorem SepL.base {b b' : Nat} {w : World} {v : Value} {L : Nat → Value × Value} {ys : List Value} {ls : List AttrD} {n : Nat} (h : SepL b w v L ys ls n) (hb : b' ≤ b) : SepL b' w v L ys ls n :=
  ⟨own_base h.row hb, h.cells, fun j hj => own_base (h.ints j hj) hb, fun j hj => own_base (h.strs j hj) hb, h.ord1, h.ord2⟩
theorem ad_app {zs : List AttrD} {x : AttrD} {j : Nat} (h : j < zs.length) : ad (zs ++ [x]) j = ad zs j := by simp [ad, List.getElem?_append_left h]
theorem ad_last {zs : List AttrD} {x : AttrD} : ad (zs ++ [x]) zs.length = x := by simp [ad]
/-- One attribute more: its row grows, its lists lie behind all that was there. -/
theorem SepL.snoc {base b : Nat} {w w1 w' : World} {v v' : Value} {L : Nat → Value × Value} {ys : List Value} {zs : List AttrD} {n : Nat} {x : AttrD} {c1 c2 : Value} (h : SepL base w v L ys zs n) (hn : zs.length = n)
    (hb : ∀ j, j < n → (∀ a, (L j).1.ownBlock = some a → a < b) ∧ ∀ a, (L j).2.ownBlock = some a → a < b)
    (hw : ∀ {e m : Nat} {u : Value} {xs : List Value}, w.ownsRow base e 1 u m xs → w1.ownsRow base e 1 u m xs)
    (o1 : w1.ownsRow b 3 1 c1 x.cuts.length (x.cuts.map (Value.int .i64))) (o2 : w1.ownsRow b 9 1 c2 x.vals.length (x.vals.map Value.string)) (hbb : base ≤ b)
    (hr1 : w1.ownsRow base 57 3 v n ys) (hg : w1.grownBy w' v.ownBlock) (hr : w'.ownsRow base 57 3 v' (n + 1) (ys ++ [.string x.name, c1, c2])) :
    SepL base w' v' (fun j => if j = n then (c1, c2) else L j) (ys ++ [.string x.name, c1, c2]) (zs ++ [x]) (n + 1) := by
  have hl : ys.length = n * 3 := h.row.1
  have kp : ∀ {e m : Nat} {u : Value} {xs : List Value}, w1.ownsRow base e 1 u m xs → e ≠ 57 → w'.ownsRow base e 1 u m xs := fun ho he => ho.kept hg (apart_t ho hr1 he)
  refine ⟨hr, fun j hj => ?_, fun j hj => ?_, fun j hj => ?_, fun i j a c hij hj ha hc => ?_, fun i j a c hij hj ha hc => ?_⟩
  · by_cases e : j = n
    · subst e
      have e2 : ad (zs ++ [x]) j = x := by rw [← hn]; exact ad_last
      rw [e2, if_pos rfl]
      refine ⟨?_, ?_, ?_⟩
      · rw [List.getElem?_append_right (by omega), hl, Nat.sub_self]; rfl
      · rw [List.getElem?_append_right (by omega), hl, show j * 3 + 1 - j * 3 = 1 by omega]; rfl
      · rw [List.getElem?_append_right (by omega), hl, show j * 3 + 2 - j * 3 = 2 by omega]; rfl
    · have hj' : j < n := by omega
      rw [ad_app (by omega), if_neg e, List.getElem?_append_left (by omega), List.getElem?_append_left (by omega), List.getElem?_append_left (by omega)]
      exact h.cells j hj'
  · by_cases e : j = n
    · subst e
      have e2 : ad (zs ++ [x]) j = x := by rw [← hn]; exact ad_last
      rw [e2, if_pos rfl]
      exact kp (own_base o1 hbb) (by decide)
    · rw [ad_app (by omega), if_neg e]
      exact kp (hw (h.ints j (by omega))) (by decide)
  · by_cases e : j = n
    · subst e
      have e2 : ad (zs ++ [x]) j = x := by rw [← hn]; exact ad_last
      rw [e2, if_pos rfl]
      exact kp (own_base o2 hbb) (by decide)
    · rw [ad_app (by omega), if_neg e]
      exact kp (hw (h.strs j (by omega))) (by decide)
  · rw [if_neg (by omega)] at ha
    by_cases e : j = n
    · rw [if_pos e] at hc
      have h1 := (hb i (by omega)).1 a ha
      have h2 := (o1.lt c hc).1
      omega
    · rw [if_neg e] at hc
      exact h.ord1 i j a c hij (by omega) ha hc
  · rw [if_neg (by omega)] at ha
    by_cases e : j = n
    · rw [if_pos e] at hc
      have h1 := (hb i (by omega)).2 a ha
      have h2 := (o2.lt c hc).1
      omega
    · rw [if_neg e] at hc
      exact h.ord2 i j a c hij (by omega) ha hc
theorem SepL.own {base : Nat} {w : World} {v : Value} {L : Nat → Value × Value} {ys : List Value} {ls : List AttrD} (h : SepL base w v L ys ls ls.length) : OwnL base w v ls :=
  ⟨ys, h.row, fun j hj => ⟨_, _, (h.cells j hj).1, (h.cells j hj).2.1, (h.cells j hj).2.2, h.ints j hj, h.strs j hj⟩⟩
theorem own_form {w : World} {b e s n : Nat} {v : Value} {xs : List Value} (h : w.ownsRow b e s v n xs) : ∃ a c, v = .slice a n c := by
  rcases h.2 with ⟨rfl, h0⟩ | ⟨g, cap, cur, hv, _⟩
  · exact ⟨none, 0, by rw [h0]⟩
  · exact ⟨_, _, hv⟩
end Go.Proofs.YtfekcckckmhioaaGreatDoor
/- What the law's own helpers do with list of integers: held against each other, written over, looked at again. -/
namespace Go.Proofs.YtfekcckckmhioaaGreatDoor
open Go.RowKit
set_option maxRecDepth 100000

theorem eqI_zero (oa ob : Option Addr) (ca cb : Nat) (w : World) : Calls Tryz.prog 33 #[.slice oa 0 ca, .slice ob 0 cb] w fun e w' => e = .returned (.bool true) ∧ w' = w := by
  go_enter Tryz.func33, Tryz.ntmps33
  go_wp2
  refine wp_loop_rounds 1 ?_
  rw [rounds_succ]
  go_wp2
  go_ret
  exact ⟨rfl, rfl⟩

set_option maxHeartbeats 400000 in
theorem eqI_pos (ga oa gb ob n ca cb : Nat) (zs : List Int) (w : World) (hn : n ≤ 140737488351232) (hz : zs.length = n)
    (ha : ∀ j, j < n → w.cell? ⟨ga, oa + j, none⟩ = some (.int .i64 (zs.getD j 0))) (hb : ∀ j, j < n → w.cell? ⟨gb, ob + j, none⟩ = some (.int .i64 (zs.getD j 0))) :
    Calls Tryz.prog 33 #[.slice (some ⟨ga, oa, none⟩) n ca, .slice (some ⟨gb, ob, none⟩) n cb] w fun e w' => e = .returned (.bool true) ∧ Below w.heap.size w w' := by
  go_enter Tryz.func33, Tryz.ntmps33
  go_wp2
  go_loopw [5] (fun i wr => ∃ k : Nat, i = .int .i64 k ∧ k ≤ n ∧ ∃ q, wr = w.drewN q) (fun i _ => n - (intOf i).toNat)
  case atStart => exact ⟨0, rfl, by omega, 0, rfl⟩
  case round =>
    obtain ⟨k, rfl, hk, q, rfl⟩ := hrel
    by_cases hlt : k < n
    · have ha' : (w.drewN q).cell? ⟨ga, oa + k, none⟩ = some (.int .i64 (zs.getD k 0)) := ha k hlt
      have hb' : (w.drewN q).cell? ⟨gb, ob + k, none⟩ = some (.int .i64 (zs.getD k 0)) := hb k hlt
      go_wp2
      go_quiet (fail)
      all_goals go_wp2
      all_goals go_roundw
      case rel => exact ⟨k + 1, by go_num, by omega, _, by first | rfl | (simp only [World.drewN_drewN]; rfl)⟩
      case measure => simp [intOf]; omega
    · go_wp2
      go_ret
      exact ⟨rfl, below_drewN (Below.refl _ _) _⟩

theorem eqI_any (zs : List Int) (va vb : Value) (b1 b2 : Nat) (w : World) (hn : zs.length ≤ 140737488351232)
    (ha : w.ownsRow b1 3 1 va zs.length (zs.map (Value.int .i64))) (hb : w.ownsRow b2 3 1 vb zs.length (zs.map (Value.int .i64))) :
    Calls Tryz.prog 33 #[va, vb] w fun e w' => e = .returned (.bool true) ∧ Below w.heap.size w w' := by
  have z : ∀ oa ob ca cb, Calls Tryz.prog 33 #[.slice oa 0 ca, .slice ob 0 cb] w fun e w' => e = .returned (.bool true) ∧ Below w.heap.size w w' := fun oa ob ca cb =>
    (eqI_zero oa ob ca cb w).mono fun e w' ⟨h1, h2⟩ => ⟨h1, by rw [h2]; exact Below.refl _ _⟩
  rcases ha.2 with ⟨rfl, h0⟩ | ⟨ga, ca, cua, rfl, _⟩ <;> rcases hb.2 with ⟨rfl, h1⟩ | ⟨gb, cb, cub, rfl, _⟩
  · exact z _ _ _ _
  · rw [h0]; exact z _ _ _ _
  · rw [h1]; exact z _ _ _ _
  · exact eqI_pos ga 0 gb 0 zs.length ca cb zs w hn rfl (fun j hj => by rw [Nat.zero_add, ha.cellAt j (by omega)]; exact getD_mapI zs j hj) (fun j hj => by rw [Nat.zero_add, hb.cellAt j (by omega)]; exact getD_mapI zs j hj)


theorem eqI_at {w : World} {b1 b2 n : Nat} {va vb : Value} {zs : List Int} (hz : zs.length = n) (hn : n ≤ 140737488351232) (ha : w.ownsRow b1 3 1 va n (zs.map (Value.int .i64))) (hb : w.ownsRow b2 3 1 vb n (zs.map (Value.int .i64))) :
    Calls Tryz.prog 33 #[va, vb] w fun e w' => e = .returned (.bool true) ∧ Below w.heap.size w w' := by
  subst hz
  exact eqI_any zs va vb b1 b2 w hn ha hb
end Go.Proofs.YtfekcckckmhioaaGreatDoor
/- A list of integers that came in, copied by the law into memory of its own. -/
namespace Go.Proofs.YtfekcckckmhioaaGreatDoor
open Go.RowKit
set_option maxRecDepth 100000

set_option maxHeartbeats 400000 in
theorem toI_pos (b o n cap : Nat) (zs : List Int) (w : World) (hn : n ≤ 1048576) (hz : zs.length = n) (hb : b < w.heap.size)
    (hc : ∀ j, j < n → w.cell? ⟨b, o + j, none⟩ = some (.int .i64 (zs.getD j 0))) :
    Calls Tryz.prog 77 #[.slice (some ⟨b, o, none⟩) n cap] w fun e w' => ∃ g, e = .returned (.slice (some ⟨g, 0, none⟩) n n) ∧ w'.ownsRow w.heap.size 3 1 (.slice (some ⟨g, 0, none⟩) n n) n (zs.map (Value.int .i64)) ∧ Below w.heap.size w w' := by
  obtain ⟨i0, hi, hz0, hz1, hz2⟩ := info_parts intInfo
  go_enter Tryz.func77, Tryz.ntmps77
  go_wp2_with (at_make; refine wpList_make_full _ rfl _ _ 28 rfl w.heap.size 3 i0 (.int .i64 0) 1 Tryz.underlying28 hi hz0 hz1 .i64 .i64 _ _ n rfl rfl rfl rfl ?c1 ?c2 ?c3 ?_)
  case c1 => rw [hz2]; omega
  case c2 => unfold maxLen; omega
  case c3 => omega
  intro w1 ho1 hg1
  have hb1 : Below w.heap.size w w1 := (Below.refl _ _).grown hg1 (Nat.le_refl _) (by intro k hk; cases hk)
  clear hg1
  go_wp2
  go_loopw [4] (fun i wr => ∃ (k : Nat) (ys : List Value), i = .int .i64 k ∧ k ≤ n ∧ wr.ownsRow w.heap.size 3 1 (.slice (some ⟨w.heap.size, 0, none⟩) n n) n ys ∧ (∀ j, j < k → ys[j]? = some (.int .i64 (zs.getD j 0))) ∧ Below w.heap.size w wr) (fun i _ => n - (intOf i).toNat)
  case atStart => exact ⟨0, _, rfl, by omega, ho1, by omega, hb1⟩
  case round =>
    obtain ⟨k, ys, rfl, hk, hown, hys, hbr⟩ := hrel
    clear ho1 hb1
    by_cases hlt : k < n
    · have hlen : ys.length = n := by have := hown.1; omega
      have hcs : wr.cell? ⟨b, o + k, none⟩ = some (.int .i64 (zs.getD k 0)) := (hbr.cell (p := ⟨b, o + k, none⟩) hb).trans (hc k hlt)
      have hcd : wr.cell? ⟨w.heap.size, k, none⟩ = some (ys[k]'(by omega)) := by rw [hown.cellAt k (by omega)]; exact List.getElem?_eq_getElem _
      have hf : wr.frozen? ⟨w.heap.size, k, none⟩ = false := hown.frozenAt k
      have hs := hown.stored k (.int .i64 (zs.getD k 0))
      have hbs := hbr.setCell (p := ⟨w.heap.size, k, none⟩) (Nat.le_refl _) (.int .i64 (zs.getD k 0))
      generalize hzz : zs.getD k 0 = z at hcs hs hbs
      have HZZ : Hid (zs.getD k 0 = z) := hzz
      clear hzz
      go_wp2
      go_roundw
      case rel =>
        refine ⟨k + 1, _, by go_num, by omega, hs.1, ?_, hbs⟩
        intro j hj
        rw [List.getElem?_set]
        by_cases e : k = j
        · subst e; rw [if_pos rfl, if_pos (by omega), HZZ.out]
        · rw [if_neg e]; exact hys j (by omega)
      case measure => simp [intOf]; omega
    · go_wp2
      go_ret
      have hlen : ys.length = n := by have := hown.1; omega
      have e : ys = zs.map (Value.int .i64) := by
        apply List.ext_getElem?
        intro j
        by_cases hj : j < n
        · rw [hys j (by omega), getD_mapI zs j (by omega)]
        · rw [List.getElem?_eq_none (by omega), List.getElem?_eq_none (by simp; omega)]
      exact ⟨_, rfl, e ▸ hown, hbr⟩

set_option maxHeartbeats 400000 in
theorem toI_zero (a : Option Addr) (cap : Nat) (w : World) :
    Calls Tryz.prog 77 #[.slice a 0 cap] w fun e w' => ∃ g, e = .returned (.slice (some ⟨g, 0, none⟩) 0 0) ∧ w'.ownsRow w.heap.size 3 1 (.slice (some ⟨g, 0, none⟩) 0 0) 0 [] ∧ Below w.heap.size w w' := by
  obtain ⟨i0, hi, hz0, hz1, hz2⟩ := info_parts intInfo
  go_enter Tryz.func77, Tryz.ntmps77
  go_wp2_with (at_make; refine wpList_make_full _ rfl _ _ 28 rfl w.heap.size 3 i0 (.int .i64 0) 1 Tryz.underlying28 hi hz0 hz1 .i64 .i64 _ _ 0 rfl rfl rfl rfl ?c1 ?c2 ?c3 ?_)
  case c1 => omega
  case c2 => unfold maxLen; omega
  case c3 => omega
  intro w1 ho1 hg1
  have hb1 : Below w.heap.size w w1 := (Below.refl _ _).grown hg1 (Nat.le_refl _) (by intro k hk; cases hk)
  rw [toList_madeCells_one] at ho1
  clear hg1
  go_wp2
  refine wp_loop_rounds 1 ?_
  rw [rounds_succ]
  go_wp2
  go_ret
  exact ⟨_, rfl, ho1, hb1⟩

/-- Whatever came in. -/
theorem toI_any (a : Option Addr) (len cap : Nat) (zs : List Int) (w : World) (h : IsRow .i64 w a len cap zs) (hn : len ≤ 1048576) :
    Calls Tryz.prog 77 #[.slice a len cap] w fun e w' => ∃ g, e = .returned (.slice (some ⟨g, 0, none⟩) len len) ∧ w'.ownsRow w.heap.size 3 1 (.slice (some ⟨g, 0, none⟩) len len) len ((zs.take len).map (Value.int .i64)) ∧ Below w.heap.size w w' := by
  by_cases h0 : 0 < len
  · obtain ⟨b, o, rfl, hb, hc⟩ := h.at h0
    exact toI_pos b o len cap (zs.take len) w hn h.len hb hc
  · obtain rfl : len = 0 := by omega
    simpa using toI_zero a cap w
end Go.Proofs.YtfekcckckmhioaaGreatDoor
