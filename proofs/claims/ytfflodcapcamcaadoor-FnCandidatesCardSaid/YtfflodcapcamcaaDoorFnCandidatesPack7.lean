/- Texts of this claim, put together: part 7. -/
import Derived.Test.YtfflodcapcamcaaDoorFnCandidatesPack6
import Derived.Test.YtfflodcapcamcaaDoorFnCandidatesPack5
import Derived.Test.YtfflodcapcamcaaDoorFnCandidatesPack2
import Derived.Deep.RegionLaw
import Derived.Test.YtfflodcapcamcaaDoorFnCandidatesPack4
import Derived.Test.YtfflodcapcamcaaDoorFnCandidatesPack1
/- A copy of a schema that came in, by the laws' own helpers. (What is plain.) -/
namespace Go.Proofs.YtfflodcapcamcaaDoor
open Go.RowKit
set_option maxRecDepth 100000
theorem atInfo : (Tryd.prog.info? 46).map (fun i => (i.zero, i.size, i.bytes)) = some (some (.agg #[.string ⟨#[]⟩, .slice none 0 0, .slice none 0 0]), 3, 64) := by kernel_rfl

/-- The first k attributes of a row of the call's own are these; their lists lie behind the row. -/
def DoneA (w : World) (b : Nat) (ys : List Value) (ls : List AttrD) (k : Nat) : Prop :=
  ∀ j, j < k → ∃ vc vv, ys[j * 3]? = some (.string (ad ls j).name) ∧ ys[j * 3 + 1]? = some vc ∧ ys[j * 3 + 2]? = some vv ∧
    w.ownsRow b 3 1 vc (ad ls j).cuts.length ((ad ls j).cuts.map (Value.int .i64)) ∧ w.ownsRow b 9 1 vv (ad ls j).vals.length ((ad ls j).vals.map Value.string)
theorem DoneA.below {w w' : World} {b : Nat} {ys : List Value} {ls : List AttrD} {k : Nat} (h : DoneA w b ys ls k) (hb : Below w.heap.size w w') : DoneA w' b ys ls k := by
  intro j hj
  obtain ⟨vc, vv, h0, h1, h2, h3, h4⟩ := h j hj
  exact ⟨vc, vv, h0, h1, h2, own_below h3 hb, own_below h4 hb⟩
theorem DoneA.base {w : World} {b b' : Nat} {ys : List Value} {ls : List AttrD} {k : Nat} (h : DoneA w b ys ls k) (hb : b' ≤ b) : DoneA w b' ys ls k := by
  intro j hj
  obtain ⟨vc, vv, h0, h1, h2, h3, h4⟩ := h j hj
  exact ⟨vc, vv, h0, h1, h2, own_base h3 hb, own_base h4 hb⟩
theorem DoneA.setCell {w : World} {b : Nat} {ys : List Value} {ls : List AttrD} {k : Nat} (h : DoneA w b ys ls k) (p : Addr) (u : Value) (hp : p.block < b) : DoneA (w.setCell p u) b ys ls k := by
  intro j hj
  obtain ⟨vc, vv, h0, h1, h2, h3, h4⟩ := h j hj
  exact ⟨vc, vv, h0, h1, h2, own_setCell h3 p u hp, own_setCell h4 p u hp⟩
theorem DoneA.setRow {w : World} {b : Nat} {ys : List Value} {ls : List AttrD} {k : Nat} (h : DoneA w b ys ls k) (p : Nat) (u : Array Value) (hp : p < b) : DoneA (w.setRow p u) b ys ls k := by
  intro j hj
  obtain ⟨vc, vv, h0, h1, h2, h3, h4⟩ := h j hj
  exact ⟨vc, vv, h0, h1, h2, own_setRow h3 p u hp, own_setRow h4 p u hp⟩
/-- A list of attributes that lies, with all that it has, in blocks from a base on. -/
def OwnL (base : Nat) (w : World) (v : Value) (ls : List AttrD) : Prop := ∃ ys, w.ownsRow base 46 3 v ls.length ys ∧ DoneA w base ys ls ls.length
theorem own3_setCell {w : World} {base e s n : Nat} {v : Value} {xs : List Value} (h : w.ownsRow base e s v n xs) (p : Addr) (u : Value) (hp : p.block < base) : (w.setCell p u).ownsRow base e s v n xs := by
  refine ⟨h.1, ?_⟩
  rcases h.2 with h' | ⟨g, cap, cur, hv, hg, hc, r⟩
  · exact .inl h'
  · refine .inr ⟨g, cap, cur, hv, hg, ?_, r⟩
    simp only [World.setCell, Array.getElem?_modify]
    rw [if_neg (by omega)]; exact hc
theorem own3_setRow {w : World} {base e s n : Nat} {v : Value} {xs : List Value} (h : w.ownsRow base e s v n xs) (k : Nat) (c : Array Value) (hp : k < base) : (w.setRow k c).ownsRow base e s v n xs := by
  refine ⟨h.1, ?_⟩
  rcases h.2 with h' | ⟨g, cap, cur, hv, hg, hc, r⟩
  · exact .inl h'
  · refine .inr ⟨g, cap, cur, hv, hg, ?_, r⟩
    rw [Go.setRow_other w k g c (by omega)]; exact hc
theorem OwnL.below {base : Nat} {w w' : World} {v : Value} {ls : List AttrD} (h : OwnL base w v ls) (hb : Below w.heap.size w w') : OwnL base w' v ls := by
  obtain ⟨ys, h1, h2⟩ := h
  exact ⟨ys, own_below h1 hb, h2.below hb⟩
theorem OwnL.base {b b' : Nat} {w : World} {v : Value} {ls : List AttrD} (h : OwnL b w v ls) (hb : b' ≤ b) : OwnL b' w v ls := by
  obtain ⟨ys, h1, h2⟩ := h
  exact ⟨ys, own_base h1 hb, h2.base hb⟩
theorem OwnL.setCell {base : Nat} {w : World} {v : Value} {ls : List AttrD} (h : OwnL base w v ls) (p : Addr) (u : Value) (hp : p.block < base) : OwnL base (w.setCell p u) v ls := by
  obtain ⟨ys, h1, h2⟩ := h
  exact ⟨ys, own3_setCell h1 p u hp, h2.setCell p u hp⟩
theorem OwnL.setRow {base : Nat} {w : World} {v : Value} {ls : List AttrD} (h : OwnL base w v ls) (k : Nat) (c : Array Value) (hp : k < base) : OwnL base (w.setRow k c) v ls := by
  obtain ⟨ys, h1, h2⟩ := h
  exact ⟨ys, own3_setRow h1 k c hp, h2.setRow k c hp⟩
theorem OwnL.at {base : Nat} {w : World} {v : Value} {ls : List AttrD} (h : OwnL base w v ls) : RowA w v ls := by
  obtain ⟨ys, ho, h⟩ := h
  rcases id ho.2 with ⟨rfl, h0⟩ | ⟨g, cap, cur, rfl, hg, hcur, hcap, r⟩
  · exact ⟨none, 0, by rw [h0], by omega, fun h1 => by omega⟩
  · refine ⟨_, _, rfl, hcap, fun h0 => ⟨g, 0, rfl, (ho.lt g rfl).2, fun j hj => ?_⟩⟩
    obtain ⟨vc, vv, h0, h1, h2, h3, h4⟩ := h j hj
    exact ⟨vc, vv, by rw [Nat.zero_add, ho.cellAt _ (by omega)]; exact h0, by rw [Nat.zero_add, ho.cellAt _ (by omega)]; exact h1, by rw [Nat.zero_add, ho.cellAt _ (by omega)]; exact h2, RowI.of_own h3 rfl, RowS.of_own h4 rfl⟩
theorem DoneA.stored {w : World} {g k : Nat} {ys : List Value} {ls : List AttrD} {x y z : Value} (h : DoneA w (g + 1) ys ls k) (hl : k * 3 + 2 < ys.length) (hx : x = .string (ad ls k).name)
    (hy : w.ownsRow (g + 1) 3 1 y (ad ls k).cuts.length ((ad ls k).cuts.map (Value.int .i64))) (hz : w.ownsRow (g + 1) 9 1 z (ad ls k).vals.length ((ad ls k).vals.map Value.string)) :
    DoneA (((w.setCell ⟨g, k * 3, none⟩ x).setCell ⟨g, k * 3 + 1, none⟩ y).setCell ⟨g, k * 3 + 2, none⟩ z) (g + 1) (((ys.set (k * 3) x).set (k * 3 + 1) y).set (k * 3 + 2) z) ls (k + 1) := by
  have key : ∀ {e n : Nat} {v : Value} {xs : List Value}, w.ownsRow (g + 1) e 1 v n xs → (((w.setCell ⟨g, k * 3, none⟩ x).setCell ⟨g, k * 3 + 1, none⟩ y).setCell ⟨g, k * 3 + 2, none⟩ z).ownsRow (g + 1) e 1 v n xs := fun h =>
    own_setCell (own_setCell (own_setCell h _ _ (by simp)) _ _ (by simp)) _ _ (by simp)
  intro j hj
  by_cases e : j = k
  · subst e
    refine ⟨y, z, ?_, ?_, ?_, key hy, key hz⟩
    · rw [List.getElem?_set_ne (by omega), List.getElem?_set_ne (by omega), List.getElem?_set_self (by omega), hx]
    · rw [List.getElem?_set_ne (by omega), List.getElem?_set_self (by simp; omega)]
    · rw [List.getElem?_set_self (by simp; omega)]
  · obtain ⟨vc, vv, h0, h1, h2, h3, h4⟩ := h j (by omega)
    refine ⟨vc, vv, ?_, ?_, ?_, key h3, key h4⟩
    · rw [List.getElem?_set_ne (by omega), List.getElem?_set_ne (by omega), List.getElem?_set_ne (by omega), h0]
    · rw [List.getElem?_set_ne (by omega), List.getElem?_set_ne (by omega), List.getElem?_set_ne (by omega), h1]
    · rw [List.getElem?_set_ne (by omega), List.getElem?_set_ne (by omega), List.getElem?_set_ne (by omega), h2]

theorem sch_size : (Tryd.prog.info? 27).map (·.size) = some 2 := by kernel_rfl
theorem wp_sc_load {ops : Array Oper} {rest : List Oper} {o : Oper} {a : Act} {w : World} {Q : Exit → Act → World → Prop} (hgd : o.guard = none) (x : Operand) (ho : o.op = .load 27 x)
    (h : ∃ g, a.eval x = .pointer (some ⟨g, 0, none⟩) ∧ ∃ c0 c1, Blk 27 w g #[c0, c1] ∧ wpList Tryd.prog ops Q rest (a.put o.dst (.agg #[c0, c1])) w) : wpList Tryd.prog ops Q (o :: rest) a w := by
  obtain ⟨g, hx, c0, c1, hA, hk⟩ := h
  exact wpList_load_row hgd 27 x ho g hx _ _ _ _ hA Tryd.underlying27 rfl sch_size hk
theorem wp_sc_store {ops : Array Oper} {rest : List Oper} {o : Oper} {a : Act} {w : World} {Q : Exit → Act → World → Prop} (hgd : o.guard = none) (x y : Operand) (ho : o.op = .store 27 x y)
    (h : ∃ g, a.eval x = .pointer (some ⟨g, 0, none⟩) ∧ ∃ o1 l1 k1 o2 l2 k2, a.eval y = .agg #[.slice o1 l1 k1, .slice o2 l2 k2] ∧ ∃ d0 d1, Blk 27 w g #[d0, d1] ∧ wpList Tryd.prog ops Q rest (a.put o.dst undef) (w.setRow g #[.slice o1 l1 k1, .slice o2 l2 k2])) : wpList Tryd.prog ops Q (o :: rest) a w := by
  obtain ⟨g, hx, o1, l1, k1, o2, l2, k2, hy, d0, d1, hA, hk⟩ := h
  exact wpList_store_row hgd 27 x y ho g _ hx hy _ _ hA sch_size rfl (by simp [Value.oneCell']) hk
theorem res_sc {fn : Func} {p : Tmp} (h : fn.results = #[.cell p 27]) (tmps : Array Value) (w : World) (g : Nat) (c0 c1 : Value)
    (hp : tmps.getD p undef = .pointer (some ⟨g, 0, none⟩)) (hg : Blk 27 w g #[c0, c1]) : (results fn tmps).run Tryd.prog w = .ok (.agg #[c0, c1]) w :=
  results_cell_row h tmps w g _ _ _ _ hp hg Tryd.underlying27 rfl sch_size

/-- A schema that lies in blocks from a base on. -/
def OwnS (base : Nat) (w : World) (v : Value) (s : SchemaD) : Prop :=
  ∃ va vc, v = .agg #[va, vc] ∧ OwnL base w va s.attrs ∧ w.ownsRow base 9 1 vc s.classes.length (s.classes.map Value.string)
theorem OwnS.at {base : Nat} {w : World} {v : Value} {s : SchemaD} (h : OwnS base w v s) : SchemaAt w v s := by
  obtain ⟨va, vc, rfl, h1, h2⟩ := h
  exact ⟨va, vc, rfl, h1.at, RowS.of_own h2 rfl⟩
end Go.Proofs.YtfflodcapcamcaaDoor
/- Beside a draw: what is left as it was. -/
namespace Go.Proofs.YtfflodcapcamcaaDoor
open Go.RowKit
set_option maxRecDepth 100000
theorem IsCur.cellW {w : World} {g p : Nat} {a : Option Addr} {len cap : Nat} (h : IsCur w g a len cap) (k : Nat) (v : Value) (hp : g ≠ p) : IsCur (w.setCell ⟨p, k, none⟩ v) g a len cap := by
  obtain ⟨i, y, hi, hb⟩ := h
  exact ⟨i, y, hi, (heap_setCell_other w ⟨p, k, none⟩ g v hp).trans hb⟩
theorem IsCur.rowW {w : World} {g p : Nat} {a : Option Addr} {len cap : Nat} (h : IsCur w g a len cap) (cs : Array Value) (hp : g ≠ p) : IsCur (w.setRow p cs) g a len cap := by
  obtain ⟨i, y, hi, hb⟩ := h
  exact ⟨i, y, hi, (Go.setRow_other _ _ _ _ hp).trans hb⟩
/-- A row behind the cursor's block is left by a draw. -/
theorem own_curW {w w' : World} {base n g e s : Nat} {v : Value} {xs : List Value} (h : w.ownsRow base e s v n xs) (hg : g < base) (hk : w.grownBy w' (some g)) : w'.ownsRow base e s v n xs := by
  refine h.kept hk ?_
  cases e : v.ownBlock with
  | none => exact .inl rfl
  | some k =>
    refine .inr fun e' => ?_
    have := (h.lt k e).1
    injection e'
    omega
theorem grown_row' {w w' : World} {r : Option Nat} (h : w.grownBy w' r) {p : Nat} (hp : w.heap.size ≤ p) (cs : Array Value) : w.grownBy (w'.setRow p cs) r := grown_row h hp cs
end Go.Proofs.YtfflodcapcamcaaDoor
/- Draws of chapter 5: an attribute that is right. -/
namespace Go.Proofs.YtfflodcapcamcaaDoor
open Go.RowKit
set_option maxRecDepth 100000
set_option maxHeartbeats 3200000 in
theorem rightAttr_any (g : Nat) (a : Option Addr) (len cap : Nat) (zs : List Int) (i : Nat) (w : World) (hc : IsCur w g a len cap) (hr : IsRow .u8 w a len cap zs) (hi5 : i < 5) :
    Calls Tryd.prog 46 #[.pointer (some ⟨g, 0, none⟩), .int .i64 (i : Int)] w fun e w' => ∃ v d, e = .returned v ∧ OwnA w.heap.size w' v d ∧ d.name = nmL.getD i ByteArray.empty ∧ attrOk d = true ∧ tinyA d ∧ IsCur w' g a len cap ∧ w.grownBy w' (some g) := by
  have hgw : g < w.heap.size := hc.lt
  have HR : Hid (∀ w', w.grownBy w' (some g) → IsRow .u8 w' a len cap zs) := fun w' h => hr.aside hc h
  obtain ⟨i0, hi, hz0, hz1, hz2⟩ := info_parts intInfo
  obtain ⟨j0, hj, hj0, hj1, hj2⟩ := info_parts strInfo
  obtain ⟨NM, HE, HN1⟩ : ∃ NM, Hid (nmL.getD i ByteArray.empty = NM) ∧ Hid (wordOk NM = true ∧ NM.size ≤ 16) := ⟨_, rfl, nm_ok i hi5⟩
  have g3 : w.grownBy (((w.alloc (.cells #[.string ⟨#[]⟩, .slice none 0 0, .slice none 0 0] 46)).alloc (.cells #[.string ⟨#[97, 103, 101]⟩, .string ⟨#[115, 105, 122, 101]⟩, .string ⟨#[99, 111, 108, 111, 117, 114]⟩, .string ⟨#[107]⟩, .string ⟨#[108, 111, 110, 103, 110, 97, 109, 101]⟩] 9)).alloc (.cells #[.string ⟨#[]⟩, .slice none 0 0, .slice none 0 0] 46)) (some g) := grown_trans (grown_trans (grown_alloc w _ _) (grown_alloc _ _ _)) (grown_alloc _ _ _)
  have c3 := ((hc.alloc (.cells #[.string ⟨#[]⟩, .slice none 0 0, .slice none 0 0] 46)).alloc (.cells #[.string ⟨#[97, 103, 101]⟩, .string ⟨#[115, 105, 122, 101]⟩, .string ⟨#[99, 111, 108, 111, 117, 114]⟩, .string ⟨#[107]⟩, .string ⟨#[108, 111, 110, 103, 110, 97, 109, 101]⟩] 9)).alloc (.cells #[.string ⟨#[]⟩, .slice none 0 0, .slice none 0 0] 46)
  have R3 := ((Blk.new 46 w #[.string ⟨#[]⟩, .slice none 0 0, .slice none 0 0]).alloc (.cells #[.string ⟨#[97, 103, 101]⟩, .string ⟨#[115, 105, 122, 101]⟩, .string ⟨#[99, 111, 108, 111, 117, 114]⟩, .string ⟨#[107]⟩, .string ⟨#[108, 111, 110, 103, 110, 97, 109, 101]⟩] 9)).alloc (.cells #[.string ⟨#[]⟩, .slice none 0 0, .slice none 0 0] 46)
  have A3 : Blk 46 (((w.alloc (.cells #[.string ⟨#[]⟩, .slice none 0 0, .slice none 0 0] 46)).alloc (.cells #[.string ⟨#[97, 103, 101]⟩, .string ⟨#[115, 105, 122, 101]⟩, .string ⟨#[99, 111, 108, 111, 117, 114]⟩, .string ⟨#[107]⟩, .string ⟨#[108, 111, 110, 103, 110, 97, 109, 101]⟩] 9)).alloc (.cells #[.string ⟨#[]⟩, .slice none 0 0, .slice none 0 0] 46)) (w.heap.size + 1 + 1) #[.string ⟨#[]⟩, .slice none 0 0, .slice none 0 0] := by have := Blk.new 46 ((w.alloc (.cells #[.string ⟨#[]⟩, .slice none 0 0, .slice none 0 0] 46)).alloc (.cells #[.string ⟨#[97, 103, 101]⟩, .string ⟨#[115, 105, 122, 101]⟩, .string ⟨#[99, 111, 108, 111, 117, 114]⟩, .string ⟨#[107]⟩, .string ⟨#[108, 111, 110, 103, 110, 97, 109, 101]⟩] 9)) #[.string ⟨#[]⟩, .slice none 0 0, .slice none 0 0]; rwa [show ((w.alloc (.cells #[.string ⟨#[]⟩, .slice none 0 0, .slice none 0 0] 46)).alloc (.cells #[.string ⟨#[97, 103, 101]⟩, .string ⟨#[115, 105, 122, 101]⟩, .string ⟨#[99, 111, 108, 111, 117, 114]⟩, .string ⟨#[107]⟩, .string ⟨#[108, 111, 110, 103, 110, 97, 109, 101]⟩] 9)).heap.size = w.heap.size + 1 + 1 by simp] at this
  have nm : ((w.alloc (.cells #[.string ⟨#[]⟩, .slice none 0 0, .slice none 0 0] 46)).alloc (.cells #[.string ⟨#[97, 103, 101]⟩, .string ⟨#[115, 105, 122, 101]⟩, .string ⟨#[99, 111, 108, 111, 117, 114]⟩, .string ⟨#[107]⟩, .string ⟨#[108, 111, 110, 103, 110, 97, 109, 101]⟩] 9)).cell? ⟨w.heap.size + 1, i % 5, none⟩ = some (.string NM) := by
    rw [Nat.mod_eq_of_lt hi5, World.cell?_alloc_at _ _ _ _ (by simp), ← HE.out]
    have h : i = 0 ∨ i = 1 ∨ i = 2 ∨ i = 3 ∨ i = 4 := by omega
    rcases h with rfl | rfl | rfl | rfl | rfl <;> rfl
  have g4 := grown_row g3 (show w.heap.size ≤ w.heap.size + 1 + 1 by omega) #[.string NM, .slice none 0 0, .slice none 0 0]
  have c4 := c3.rowW #[.string NM, .slice none 0 0, .slice none 0 0] (show g ≠ w.heap.size + 1 + 1 by omega)
  have R4 := R3.setRow_other #[.string NM, .slice none 0 0, .slice none 0 0] (show w.heap.size ≠ w.heap.size + 1 + 1 by omega)
  have A4 := A3.setRow #[.string NM, .slice none 0 0, .slice none 0 0]
  clear hc hr g3 c3 R3
  go_enter Tryd.func46, Tryd.ntmps46
  go_wp2_with (with_reducible refine wp_at_store rfl _ _ rfl ?_; refine ⟨w.heap.size + 1 + 1, rfl, NM, none, 0, 0, none, 0, 0, rfl, _, _, _, A3, ?_⟩; clear A3 nm; generalize (((w.alloc (.cells #[.string ⟨#[]⟩, .slice none 0 0, .slice none 0 0] 46)).alloc (.cells #[.string ⟨#[97, 103, 101]⟩, .string ⟨#[115, 105, 122, 101]⟩, .string ⟨#[99, 111, 108, 111, 117, 114]⟩, .string ⟨#[107]⟩, .string ⟨#[108, 111, 110, 103, 110, 97, 109, 101]⟩] 9)).alloc (.cells #[.string ⟨#[]⟩, .slice none 0 0, .slice none 0 0] 46)).setRow (w.heap.size + 1 + 1) #[.string NM, .slice none 0 0, .slice none 0 0] = W at g4 c4 R4 A4 ⊢)
  obtain ⟨p, hp, hp1, hp2⟩ : ∃ p, w.heap.size + 1 + 1 = p ∧ w.heap.size + 2 ≤ p ∧ p < w.heap.size + 3 := ⟨_, rfl, by omega, by omega⟩
  rw [hp] at A4 ⊢
  clear hp
  have e1 := once_any g a len cap zs 2 W c4 (HR.out _ g4) (by decide) (by decide)
  have hA := A4.lt
  go_wp2_with fail
  refine e1.mono ?_
  clear e1
  rintro e w5 ⟨b, rfl, c5, h5⟩
  have g5 := grown_trans g4 h5
  have R5 := R4.kept h5 (by intro e; cases e; omega)
  have A5 := A4.kept h5 (by intro e; cases e; omega)
  clear h5 g4 c4 R4 A4 hA
  cases b with
  | true =>
    have e1 := l1Below_any g a len cap zs 3 w5 c5 (HR.out _ g5) (by decide) (by decide)
    go_wp2_with fail
    refine e1.mono ?_
    clear e1
    rintro e w6 ⟨x, rfl, hx, c6, h6⟩
    have g6 := grown_trans g5 h6
    have R6 := R5.kept h6 (by intro e; cases e; omega)
    have A6 := A5.kept h6 (by intro e; cases e; omega)
    clear h6 g5 c5 R5 A5
    have e1 := pickN [-9999, -7, 0, 3, 20] g a len cap zs w6 c6 (HR.out _ g6) (by simp) (by simp)
    simp only [List.map_cons, List.map_nil, List.length_cons, List.length_nil, Nat.zero_add, Nat.reduceAdd] at e1
    go_wp2_with fail
    refine e1.mono ?_
    clear e1
    rintro e w7 ⟨at0, rfl, hat, c7, h7⟩
    have hat0 : -9999 ≤ at0 ∧ at0 ≤ 20 := by
      simp only [List.mem_cons, List.not_mem_nil, or_false] at hat
      omega
    have g7 := grown_trans g6 h7
    have R7 := R6.kept h7 (by intro e; cases e; omega)
    have A7 := A6.kept h7 (by intro e; cases e; omega)
    clear h7 g6 c6 R6 A6 hat
    obtain ⟨l0, l1⟩ := hat0
    go_wp2
    go_loopw [7, 8] (fun t j wr => ∃ (k : Nat) (at' : Int) (vc : Value) (cs : List Int), j = .int .i64 k ∧ t = .int .i64 at' ∧ k ≤ x + 1 ∧ cs.length = k ∧ -9999 ≤ at' ∧ at' ≤ 20 + 6 * k ∧ Hid (∀ j, j < cs.length → cutAt cs j = true) ∧ Hid (cs.length = 0 ∨ cs.getD (cs.length - 1) 0 < at') ∧ Hid (∀ c ∈ cs, -9999 ≤ c ∧ c ≤ 38) ∧
        Blk 46 wr w.heap.size #[.string ⟨#[]⟩, .slice none 0 0, .slice none 0 0] ∧ Blk 46 wr (p) #[.string NM, vc, .slice none 0 0] ∧ wr.ownsRow (w.heap.size + 3) 3 1 vc cs.length (cs.map (Value.int .i64)) ∧ IsCur wr g a len cap ∧ w.grownBy wr (some g)) (fun _ j _ => x + 1 - (intOf j).toNat)
    case atStart => exact ⟨0, at0, _, [], rfl, rfl, by omega, rfl, l0, by omega, fun j hj => by simp at hj, .inl rfl, fun c hc => by simp at hc, R7, A7, World.ownsRow_nil _ _ _ _, c7, g7⟩
    case round =>
      obtain ⟨k, at', vc, cs, rfl, rfl, hk, hcl, t0, t1, HC, HB, HL, R, A, own, c8, g8⟩ := hrel
      clear R7 A7 c7 g7 l0 l1
      have hAl := A.lt
      have a1 := A.cell 1
      have a1' : wr.cell? ⟨p, 1, none⟩ = some vc := a1
      clear a1
      have hvo : ∀ j, vc.ownBlock = some j → w.heap.size + 3 ≤ j := fun j hj => (own.lt j hj).1
      by_cases hlt : k < x + 1
      · go_wp2_with (at_builtin; refine wpList_append_own _ rfl _ _ 28 rfl (w.heap.size + 3) 3 i0 (.int .i64 0) 1 8 Tryd.underlying28 hi hz0 hz1 hz2 rfl (by decide) _ _ _ rfl (own.alloc _) ⟨wr.heap.size, 0, none⟩ 1 1 [_] rfl rfl (newc _ _ _) (ints_oneCell .i64 [_]) (by unfold maxLen; omega) (by omega) (by simp; omega) ?_)
        intro v' w2 ho hg2 hnil
        obtain ⟨ov, cv, rfl⟩ := own_slice ho
        have A2 := (A.alloc (.cells #[.int .i64 at'] 3)).kept hg2 (fun e => by have := hvo _ e; omega)
        have R2 := (R.alloc (.cells #[.int .i64 at'] 3)).kept hg2 (fun e => by have := hvo _ e; omega)
        have c2 := (c8.alloc (.cells #[.int .i64 at'] 3)).kept hg2 (fun e => by have := hvo _ e; omega)
        have g2 := grown_own (grown_trans g8 (grown_alloc wr (.cells #[.int .i64 at'] 3) _)) hg2 (fun j e => by have := hvo _ e; omega)
        have a2 : w2.cell? ⟨p, 1, none⟩ = some vc := A2.cell 1
        have f2 := A2.frozen 1
        have A3 : Blk 46 (w2.setCell ⟨p, 1, none⟩ (.slice ov (k + 1) cv)) (p) #[.string NM, (.slice ov (k + 1) cv), .slice none 0 0] := A2.setCell 1 (.slice ov (k + 1) cv)
        have R3 := R2.setCell_other ⟨p, 1, none⟩ (.slice ov (k + 1) cv) (show p ≠ w.heap.size by omega)
        have o3 := own_setCell ho ⟨p, 1, none⟩ (.slice ov (k + 1) cv) (show p < w.heap.size + 3 by omega)
        have c3 := c2.cellW 1 (.slice ov (k + 1) cv) (show g ≠ p by omega)
        have g3 := grown_cell g2 (p := p) (k := 1) (by omega) (.slice ov (k + 1) cv)
        clear hg2 hnil A R c8 g8 own a1' ho A2 R2 c2 g2 hvo
        have e1 := l1Below_any g a len cap zs 6 _ c3 (HR.out _ g3) (by decide) (by decide)
        go_wp2_with fail
        refine e1.mono ?_
        clear e1
        rintro e w9 ⟨y, rfl, hy, c9, h9⟩
        have g9 := grown_trans g3 h9
        have R9 := R3.kept h9 (by intro e; cases e; omega)
        have A9 := A3.kept h9 (by intro e; cases e; omega)
        have o9 := own_curW o3 (by omega) h9
        clear h9 g3 c3 R3 A3 o3 a2 f2
        go_wp2
        go_roundw
        case rel =>
          refine ⟨k + 1, at' + 1 + y, (.slice ov (k + 1) cv), cs ++ [at'], by go_num, rfl, by omega, by simp [hcl], by omega, by omega, rise_snoc HC.out HB.out (by omega), .inr ?_, fun c hc => ?_, R9, A9, ?_, c9, g9⟩
          · rw [List.length_append, List.length_singleton, Nat.add_sub_cancel]
            simp [List.getD]; omega
          · rcases List.mem_append.1 hc with hc | hc
            · exact HL.out c hc
            · rw [List.mem_singleton] at hc; omega
          · rw [List.length_append, List.map_append, hcl]; exact o9
        case measure => simp [intOf]; omega
      · obtain ⟨ov, cv, rfl, -, -⟩ := RowI.of_own own rfl
        go_wp2_with (first | (with_reducible refine wp_at_load rfl _ rfl ?_; refine ⟨p, rfl, _, _, _, A, ?_⟩) | (with_reducible refine wp_at_store rfl _ _ rfl ?_; refine ⟨w.heap.size, rfl, _, _, _, _, _, _, _, rfl, _, _, _, R, ?_⟩))
        refine bodyPost_ret (res_at rfl _ _ _ _ _ _ rfl (R.setRow _)) rfl ⟨_, ⟨NM, cs, []⟩, rfl, ⟨_, _, rfl, own_base (own_setRow own _ _ (by omega)) (by omega), World.ownsRow_nil _ _ _ _⟩, HE.out.symm, ?_, ?_, c8.rowW _ (by omega), grown_row g8 (Nat.le_refl _) _⟩
        · have := right_cuts (i := i) (cs := cs) hi5 (by omega) (by omega) HC.out
          rwa [HE.out] at this
        · exact ⟨HN1.out.2, by show cs.length ≤ 4; omega, by show ([] : List ByteArray).length ≤ 5; simp, fun s hs => by simp at hs, fun c hc => by have := HL.out c hc; omega⟩
  | false =>
    have e1 := l1Below_any g a len cap zs 3 w5 c5 (HR.out _ g5) (by decide) (by decide)
    go_wp2_with fail
    refine e1.mono ?_
    clear e1
    rintro e w7 ⟨x, rfl, hx, c7, h7⟩
    have g7 := grown_trans g5 h7
    have R7 := R5.kept h7 (by intro e; cases e; omega)
    have A7 := A5.kept h7 (by intro e; cases e; omega)
    clear h7 g5 c5 R5 A5
    go_wp2
    go_loopw [10] (fun j wr => ∃ (k : Nat) (vv : Value), j = .int .i64 k ∧ k ≤ x + 2 ∧
        Blk 46 wr w.heap.size #[.string ⟨#[]⟩, .slice none 0 0, .slice none 0 0] ∧ Blk 46 wr p #[.string NM, .slice none 0 0, vv] ∧ wr.ownsRow (w.heap.size + 3) 9 1 vv k ((vlL.take k).map Value.string) ∧ IsCur wr g a len cap ∧ w.grownBy wr (some g)) (fun j _ => x + 2 - (intOf j).toNat)
    case atStart => exact ⟨0, _, rfl, by omega, R7, A7, World.ownsRow_nil _ _ _ _, c7, g7⟩
    case round =>
      obtain ⟨k, vv, rfl, hk, R, A, own, c8, g8⟩ := hrel
      clear R7 A7 c7 g7
      have hAl := A.lt
      have hvo : ∀ j, vv.ownBlock = some j → w.heap.size + 3 ≤ j := fun j hj => (own.lt j hj).1
      by_cases hlt : k < x + 2
      · obtain ⟨T, HT⟩ : ∃ T, Hid (vlL.getD k ByteArray.empty = T) := ⟨_, rfl⟩
        have HS : Hid ((vlL.take (k + 1)).map Value.string = (vlL.take k).map Value.string ++ [.string T]) := by
          rw [← HT.out]
          have h : k = 0 ∨ k = 1 ∨ k = 2 ∨ k = 3 := by omega
          rcases h with rfl | rfl | rfl | rfl <;> rfl
        have Ad : Blk 46 wr.drew p #[.string NM, .slice none 0 0, vv] := A
        have Rd : Blk 46 wr.drew w.heap.size #[.string ⟨#[]⟩, .slice none 0 0, .slice none 0 0] := R
        have cd : IsCur wr.drew g a len cap := c8
        have od : wr.drew.ownsRow (w.heap.size + 3) 9 1 vv k ((vlL.take k).map Value.string) := own
        have gd : w.grownBy wr.drew (some g) := ⟨g8.os, g8.tape, g8.output, g8.size, g8.block⟩
        have d0 : wr.drew.cell? ⟨p, 2, none⟩ = some vv := Ad.cell 2
        have d1 : (wr.drew.alloc (.cells #[.string ⟨#[114, 101, 100]⟩, .string ⟨#[98, 108, 117, 101]⟩, .string ⟨#[120]⟩, .string ⟨#[103, 114, 101, 101, 110]⟩] 9)).cell? ⟨p, 2, none⟩ = some vv := (Ad.alloc _).cell 2
        have d2 : ((wr.drew.alloc (.cells #[.string ⟨#[114, 101, 100]⟩, .string ⟨#[98, 108, 117, 101]⟩, .string ⟨#[120]⟩, .string ⟨#[103, 114, 101, 101, 110]⟩] 9)).alloc (.cells #[.string T] 9)).cell? ⟨p, 2, none⟩ = some vv := ((Ad.alloc _).alloc _).cell 2
        have d3 : wr.cell? ⟨p, 2, none⟩ = some vv := A.cell 2
        have d4 : (wr.alloc (.cells #[.string ⟨#[114, 101, 100]⟩, .string ⟨#[98, 108, 117, 101]⟩, .string ⟨#[120]⟩, .string ⟨#[103, 114, 101, 101, 110]⟩] 9)).cell? ⟨p, 2, none⟩ = some vv := (A.alloc _).cell 2
        have d5 : ((wr.alloc (.cells #[.string ⟨#[114, 101, 100]⟩, .string ⟨#[98, 108, 117, 101]⟩, .string ⟨#[120]⟩, .string ⟨#[103, 114, 101, 101, 110]⟩] 9)).alloc (.cells #[.string T] 9)).cell? ⟨p, 2, none⟩ = some vv := ((A.alloc _).alloc _).cell 2
        have n1 : (wr.drew.alloc (.cells #[.string ⟨#[114, 101, 100]⟩, .string ⟨#[98, 108, 117, 101]⟩, .string ⟨#[120]⟩, .string ⟨#[103, 114, 101, 101, 110]⟩] 9)).cell? ⟨wr.heap.size, k, none⟩ = some (.string T) := by
          show (wr.drew.alloc _).cell? ⟨wr.drew.heap.size, k, none⟩ = _
          rw [World.cell?_alloc_at _ _ _ _ rfl, ← HT.out]
          have h : k = 0 ∨ k = 1 ∨ k = 2 ∨ k = 3 := by omega
          rcases h with rfl | rfl | rfl | rfl <;> rfl
        have hk4 : k < 4 := by omega
        have hget : ([.string ⟨#[114, 101, 100]⟩, .string ⟨#[98, 108, 117, 101]⟩, .string ⟨#[120]⟩, .string ⟨#[103, 114, 101, 101, 110]⟩] : List Value)[k]'hk4 = .string T := by
          have h : k = 0 ∨ k = 1 ∨ k = 2 ∨ k = 3 := by omega
          rw [← HT.out]
          rcases h with rfl | rfl | rfl | rfl <;> rfl
        have hk4i : (k : Int) < 4 := by omega
        have hk4j : (0 : Int) ≤ (k : Int) := by omega
        have hk4k : (k : Int).toNat = k := by omega
        clear R A c8 g8 own
        go_wp2
        go_region_law (refine step_wp rfl (wp_append_own _ _ _ 25 rfl (w.heap.size + 3) 9 j0 (.string ⟨#[]⟩) 1 16 Tryd.underlying25 hj hj0 hj1 hj2 rfl (by decide) _ _ _ rfl ((od.alloc (.cells #[.string ⟨#[114, 101, 100]⟩, .string ⟨#[98, 108, 117, 101]⟩, .string ⟨#[120]⟩, .string ⟨#[103, 114, 101, 101, 110]⟩] 9)).alloc (.cells #[.string T] 9)) ⟨wr.heap.size + 1, 0, none⟩ 1 1 [.string T] rfl rfl (newc2 _ _ _ _) (by simp [Value.oneCell']) (by unfold maxLen; omega) (by omega) (by simp; omega) ?_); intro v' w2 ho hg2 hnil; obtain ⟨ov, cv, rfl⟩ := own_slice ho; have A2 := ((Ad.alloc (.cells #[.string ⟨#[114, 101, 100]⟩, .string ⟨#[98, 108, 117, 101]⟩, .string ⟨#[120]⟩, .string ⟨#[103, 114, 101, 101, 110]⟩] 9)).alloc (.cells #[.string T] 9)).kept hg2 (fun e => by have := hvo _ e; omega); have a2 : w2.cell? ⟨p, 2, none⟩ = some vv := A2.cell 2; have f2 := A2.frozen 2)
        all_goals
          have R2 := ((Rd.alloc (.cells #[.string ⟨#[114, 101, 100]⟩, .string ⟨#[98, 108, 117, 101]⟩, .string ⟨#[120]⟩, .string ⟨#[103, 114, 101, 101, 110]⟩] 9)).alloc (.cells #[.string T] 9)).kept hg2 (fun e => by have := hvo _ e; omega)
          have c2 := ((cd.alloc (.cells #[.string ⟨#[114, 101, 100]⟩, .string ⟨#[98, 108, 117, 101]⟩, .string ⟨#[120]⟩, .string ⟨#[103, 114, 101, 101, 110]⟩] 9)).alloc (.cells #[.string T] 9)).kept hg2 (fun e => by have := hvo _ e; omega)
          have g2 := grown_own (grown_trans (grown_trans gd (grown_alloc _ (.cells #[.string ⟨#[114, 101, 100]⟩, .string ⟨#[98, 108, 117, 101]⟩, .string ⟨#[120]⟩, .string ⟨#[103, 114, 101, 101, 110]⟩] 9) _)) (grown_alloc _ (.cells #[.string T] 9) _)) hg2 (fun j e => by have := hvo _ e; omega)
          have A3 : Blk 46 (w2.setCell ⟨p, 2, none⟩ (.slice ov (k + 1) cv)) p #[.string NM, .slice none 0 0, .slice ov (k + 1) cv] := A2.setCell 2 (.slice ov (k + 1) cv)
          have R3 := R2.setCell_other ⟨p, 2, none⟩ (.slice ov (k + 1) cv) (show p ≠ w.heap.size by omega)
          have o3 := own_setCell ho ⟨p, 2, none⟩ (.slice ov (k + 1) cv) (show p < w.heap.size + 3 by omega)
          have c3 := c2.cellW 2 (.slice ov (k + 1) cv) (show g ≠ p by omega)
          have g3 := grown_cell g2 (p := p) (k := 2) (by omega) (.slice ov (k + 1) cv)
          clear hg2 hnil A2 R2 c2 g2 ho a2 f2 Ad Rd cd od gd d0 d1 d2 d3 d4 d5 n1 hget hvo
          go_wp2
          go_roundw
          case rel =>
            refine ⟨k + 1, _, by go_num, by omega, R3, A3, ?_, c3, g3⟩
            rw [HS.out]
            exact o3
          case measure => simp [intOf]; omega
      · obtain ⟨ov, cv, rfl⟩ := own_slice own
        go_wp2_with (first | (with_reducible refine wp_at_load rfl _ rfl ?_; refine ⟨p, rfl, _, _, _, A, ?_⟩) | (with_reducible refine wp_at_store rfl _ _ rfl ?_; refine ⟨w.heap.size, rfl, _, _, _, _, _, _, _, rfl, _, _, _, R, ?_⟩))
        refine bodyPost_ret (res_at rfl _ _ _ _ _ _ rfl (R.setRow _)) rfl ⟨_, ⟨NM, [], vlL.take k⟩, rfl, ⟨_, _, rfl, World.ownsRow_nil _ _ _ _, ?_⟩, HE.out.symm, ?_, ?_, c8.rowW _ (by omega), grown_row g8 (Nat.le_refl _) _⟩
        · have hl : (vlL.take k).length = k := by rw [List.length_take]; show min k 4 = k; omega
          show World.ownsRow _ _ _ _ _ (vlL.take k).length _
          rw [hl]
          exact own_base (own_setRow own _ _ (by omega)) (by omega)
        · have := right_vals (i := i) (n := k) hi5 (by omega) (by omega)
          rwa [HE.out] at this
        · refine ⟨HN1.out.2, by show ([] : List Int).length ≤ 4; simp, ?_, fun s hs => vl_each s (List.mem_of_mem_take hs), fun c hc => by simp at hc⟩
          show (vlL.take k).length ≤ 5
          rw [List.length_take]; omega
end Go.Proofs.YtfflodcapcamcaaDoor
/- Rows beside blocks of another kind. -/
namespace Go.Proofs.YtfflodcapcamcaaDoor
open Go.RowKit
set_option maxRecDepth 100000
theorem apart_d {w : World} {v v' : Value} {b b' e e' s s' n n' : Nat} {xs xs' : List Value} (h : w.ownsRow b e s v n xs) (h' : w.ownsRow b' e' s' v' n' xs') (he : e ≠ e') : v.ownBlock = none ∨ v.ownBlock ≠ v'.ownBlock := by
  rcases h.2 with ⟨rfl, _⟩ | ⟨g, cap, cur, rfl, _, hc, _⟩
  · exact .inl rfl
  · refine .inr fun eq => ?_
    rcases h'.2 with ⟨rfl, _⟩ | ⟨g', cap', cur', rfl, _, hc', _⟩
    · cases eq
    · injection eq with eq
      simp only at eq
      subst eq
      rw [hc] at hc'
      injection hc' with hc'
      injection hc' with _ h2 _
      exact he h2
theorem own_ne_blk {w : World} {v : Value} {b e s n p : Nat} {t : TypeId} {cs : Array Value} {xs : List Value} (h : w.ownsRow b e s v n xs) (hp : Blk t w p cs) (he : e ≠ t) : v.ownBlock ≠ some p := by
  rcases h.2 with ⟨rfl, _⟩ | ⟨g, cap, cur, rfl, _, hc, _⟩
  · intro e'; cases e'
  · intro e'
    injection e' with e'
    simp only at e'
    subst e'
    unfold Blk at hp
    rw [hc] at hp
    injection hp with hp
    injection hp with _ h2 _
    exact he h2
theorem own_setCellN {w : World} {base e s n : Nat} {v : Value} {xs : List Value} (h : w.ownsRow base e s v n xs) (p k : Nat) (u : Value) (hp : v.ownBlock ≠ some p) : (w.setCell ⟨p, k, none⟩ u).ownsRow base e s v n xs := by
  refine ⟨h.1, ?_⟩
  rcases h.2 with h' | ⟨g, cap, cur, rfl, hg, hc, r⟩
  · exact .inl h'
  · refine .inr ⟨g, cap, cur, rfl, hg, ?_, r⟩
    have : p ≠ g := fun e => hp (by rw [e]; rfl)
    simp only [World.setCell, Array.getElem?_modify]
    rw [if_neg this]; exact hc
theorem own_setRowN {w : World} {base e s n : Nat} {v : Value} {xs : List Value} (h : w.ownsRow base e s v n xs) (p : Nat) (c : Array Value) (hp : v.ownBlock ≠ some p) : (w.setRow p c).ownsRow base e s v n xs := by
  refine ⟨h.1, ?_⟩
  rcases h.2 with h' | ⟨g, cap, cur, rfl, hg, hc, r⟩
  · exact .inl h'
  · refine .inr ⟨g, cap, cur, rfl, hg, ?_, r⟩
    have : g ≠ p := fun e => hp (by rw [← e]; rfl)
    rw [Go.setRow_other w p g c this]; exact hc
end Go.Proofs.YtfflodcapcamcaaDoor
