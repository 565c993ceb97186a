/- A copy of a schema that came in, by the laws' own helpers. -/
import Derived.Test.YtlpjigpnpafkiabDoorVf
namespace Go.Proofs.YtlpjigpnpafkiabDoor
open Go.RowKit
set_option maxRecDepth 100000

theorem atInfo : (Tryd.prog.info? 28).map (fun i => (i.zero, i.size, i.bytes)) = some (some (.agg #[.string ⟨#[]⟩, .slice none 0 0, .slice none 0 0]), 3, 64) := by kernel_rfl

/-- The first k attributes of a row of the call's own are these; their lists lie behind the row. -/
def DoneA (w : World) (b : Nat) (ys : List Value) (ls : List AttrD) (k : Nat) : Prop :=
  ∀ j, j < k → ∃ vc vv, ys[j * 3]? = some (.string (ad ls j).name) ∧ ys[j * 3 + 1]? = some vc ∧ ys[j * 3 + 2]? = some vv ∧
    w.ownsRow b 3 1 vc (ad ls j).cuts.length ((ad ls j).cuts.map (Value.int .i64)) ∧ w.ownsRow b 9 1 vv (ad ls j).vals.length ((ad ls j).vals.map Value.string)
theorem DoneA.below {w w' : World} {b : Nat} {ys : List Value} {ls : List AttrD} {k : Nat} (h : DoneA w b ys ls k) (hb : Below w.heap.size w w') : DoneA w' b ys ls k := by
  intro j hj
  obtain ⟨vc, vv, h0, h1, h2, h3, h4⟩ := h j hj
  exact ⟨vc, vv, h0, h1, h2, own_below h3 hb, own_below h4 hb⟩
theorem DoneA.base {w : World} {b b' : Nat} {ys : List Value} {ls : List AttrD} {k : Nat} (h : DoneA w b ys ls k) (hb : b' ≤ b) : DoneA w b' ys ls k := by
  intro j hj
  obtain ⟨vc, vv, h0, h1, h2, h3, h4⟩ := h j hj
  exact ⟨vc, vv, h0, h1, h2, own_base h3 hb, own_base h4 hb⟩
theorem DoneA.setCell {w : World} {b : Nat} {ys : List Value} {ls : List AttrD} {k : Nat} (h : DoneA w b ys ls k) (p : Addr) (u : Value) (hp : p.block < b) : DoneA (w.setCell p u) b ys ls k := by
  intro j hj
  obtain ⟨vc, vv, h0, h1, h2, h3, h4⟩ := h j hj
  exact ⟨vc, vv, h0, h1, h2, own_setCell h3 p u hp, own_setCell h4 p u hp⟩
theorem DoneA.setRow {w : World} {b : Nat} {ys : List Value} {ls : List AttrD} {k : Nat} (h : DoneA w b ys ls k) (p : Nat) (u : Array Value) (hp : p < b) : DoneA (w.setRow p u) b ys ls k := by
  intro j hj
  obtain ⟨vc, vv, h0, h1, h2, h3, h4⟩ := h j hj
  exact ⟨vc, vv, h0, h1, h2, own_setRow h3 p u hp, own_setRow h4 p u hp⟩
/-- A list of attributes that lies, with all that it has, in blocks from a base on. -/
def OwnL (base : Nat) (w : World) (v : Value) (ls : List AttrD) : Prop := ∃ ys, w.ownsRow base 28 3 v ls.length ys ∧ DoneA w base ys ls ls.length
theorem own3_setCell {w : World} {base e s n : Nat} {v : Value} {xs : List Value} (h : w.ownsRow base e s v n xs) (p : Addr) (u : Value) (hp : p.block < base) : (w.setCell p u).ownsRow base e s v n xs := by
  refine ⟨h.1, ?_⟩
  rcases h.2 with h' | ⟨g, cap, cur, hv, hg, hc, r⟩
  · exact .inl h'
  · refine .inr ⟨g, cap, cur, hv, hg, ?_, r⟩
    simp only [World.setCell, Array.getElem?_modify]
    rw [if_neg (by omega)]; exact hc
theorem own3_setRow {w : World} {base e s n : Nat} {v : Value} {xs : List Value} (h : w.ownsRow base e s v n xs) (k : Nat) (c : Array Value) (hp : k < base) : (w.setRow k c).ownsRow base e s v n xs := by
  refine ⟨h.1, ?_⟩
  rcases h.2 with h' | ⟨g, cap, cur, hv, hg, hc, r⟩
  · exact .inl h'
  · refine .inr ⟨g, cap, cur, hv, hg, ?_, r⟩
    rw [Go.setRow_other w k g c (by omega)]; exact hc
theorem OwnL.below {base : Nat} {w w' : World} {v : Value} {ls : List AttrD} (h : OwnL base w v ls) (hb : Below w.heap.size w w') : OwnL base w' v ls := by
  obtain ⟨ys, h1, h2⟩ := h
  exact ⟨ys, own_below h1 hb, h2.below hb⟩
theorem OwnL.base {b b' : Nat} {w : World} {v : Value} {ls : List AttrD} (h : OwnL b w v ls) (hb : b' ≤ b) : OwnL b' w v ls := by
  obtain ⟨ys, h1, h2⟩ := h
  exact ⟨ys, own_base h1 hb, h2.base hb⟩
theorem OwnL.setCell {base : Nat} {w : World} {v : Value} {ls : List AttrD} (h : OwnL base w v ls) (p : Addr) (u : Value) (hp : p.block < base) : OwnL base (w.setCell p u) v ls := by
  obtain ⟨ys, h1, h2⟩ := h
  exact ⟨ys, own3_setCell h1 p u hp, h2.setCell p u hp⟩
theorem OwnL.setRow {base : Nat} {w : World} {v : Value} {ls : List AttrD} (h : OwnL base w v ls) (k : Nat) (c : Array Value) (hp : k < base) : OwnL base (w.setRow k c) v ls := by
  obtain ⟨ys, h1, h2⟩ := h
  exact ⟨ys, own3_setRow h1 k c hp, h2.setRow k c hp⟩
theorem OwnL.at {base : Nat} {w : World} {v : Value} {ls : List AttrD} (h : OwnL base w v ls) : RowA w v ls := by
  obtain ⟨ys, ho, h⟩ := h
  rcases id ho.2 with ⟨rfl, h0⟩ | ⟨g, cap, cur, rfl, hg, hcur, hcap, r⟩
  · exact ⟨none, 0, by rw [h0], by omega, fun h1 => by omega⟩
  · refine ⟨_, _, rfl, hcap, fun h0 => ⟨g, 0, rfl, (ho.lt g rfl).2, fun j hj => ?_⟩⟩
    obtain ⟨vc, vv, h0, h1, h2, h3, h4⟩ := h j hj
    exact ⟨vc, vv, by rw [Nat.zero_add, ho.cellAt _ (by omega)]; exact h0, by rw [Nat.zero_add, ho.cellAt _ (by omega)]; exact h1, by rw [Nat.zero_add, ho.cellAt _ (by omega)]; exact h2, RowI.of_own h3 rfl, RowS.of_own h4 rfl⟩
theorem DoneA.stored {w : World} {g k : Nat} {ys : List Value} {ls : List AttrD} {x y z : Value} (h : DoneA w (g + 1) ys ls k) (hl : k * 3 + 2 < ys.length) (hx : x = .string (ad ls k).name)
    (hy : w.ownsRow (g + 1) 3 1 y (ad ls k).cuts.length ((ad ls k).cuts.map (Value.int .i64))) (hz : w.ownsRow (g + 1) 9 1 z (ad ls k).vals.length ((ad ls k).vals.map Value.string)) :
    DoneA (((w.setCell ⟨g, k * 3, none⟩ x).setCell ⟨g, k * 3 + 1, none⟩ y).setCell ⟨g, k * 3 + 2, none⟩ z) (g + 1) (((ys.set (k * 3) x).set (k * 3 + 1) y).set (k * 3 + 2) z) ls (k + 1) := by
  have key : ∀ {e n : Nat} {v : Value} {xs : List Value}, w.ownsRow (g + 1) e 1 v n xs → (((w.setCell ⟨g, k * 3, none⟩ x).setCell ⟨g, k * 3 + 1, none⟩ y).setCell ⟨g, k * 3 + 2, none⟩ z).ownsRow (g + 1) e 1 v n xs := fun h =>
    own_setCell (own_setCell (own_setCell h _ _ (by simp)) _ _ (by simp)) _ _ (by simp)
  intro j hj
  by_cases e : j = k
  · subst e
    refine ⟨y, z, ?_, ?_, ?_, key hy, key hz⟩
    · rw [List.getElem?_set_ne (by omega), List.getElem?_set_ne (by omega), List.getElem?_set_self (by omega), hx]
    · rw [List.getElem?_set_ne (by omega), List.getElem?_set_self (by simp; omega)]
    · rw [List.getElem?_set_self (by simp; omega)]
  · obtain ⟨vc, vv, h0, h1, h2, h3, h4⟩ := h j (by omega)
    refine ⟨vc, vv, ?_, ?_, ?_, key h3, key h4⟩
    · rw [List.getElem?_set_ne (by omega), List.getElem?_set_ne (by omega), List.getElem?_set_ne (by omega), h0]
    · rw [List.getElem?_set_ne (by omega), List.getElem?_set_ne (by omega), List.getElem?_set_ne (by omega), h1]
    · rw [List.getElem?_set_ne (by omega), List.getElem?_set_ne (by omega), List.getElem?_set_ne (by omega), h2]

set_option maxHeartbeats 1600000 in
theorem toAttrS_row (v : Value) (ls : List AttrD) (w : World) (h : RowA w v ls) (hn : ls.length ≤ 1048576) (hf : ∀ a ∈ ls, fitA a) :
    Calls Tryd.prog 47 #[v] w fun e w' => ∃ g, e = .returned (.slice (some ⟨g, 0, none⟩) ls.length ls.length) ∧ OwnL w.heap.size w' (.slice (some ⟨g, 0, none⟩) ls.length ls.length) ls ∧ Below w.heap.size w w' := by
  obtain ⟨i0, hi, hz0, hz1, hz2⟩ := info_parts atInfo
  obtain ⟨oa, cap, rfl, hc, hr⟩ := h
  have HR : Hid (0 < ls.length → ∃ g o, oa = some ⟨g, o, none⟩ ∧ g < w.heap.size ∧ ∀ j, j < ls.length → CellsA w g (o + j * 3) (ad ls j)) := hr
  have HF : Hid (∀ a ∈ ls, fitA a) := hf
  clear hr hf
  go_enter Tryd.func47, Tryd.ntmps47
  go_wp2_with (at_make; refine wpList_make_full _ rfl _ _ 41 rfl w.heap.size 28 i0 (.agg #[.string ⟨#[]⟩, .slice none 0 0, .slice none 0 0]) 3 Tryd.underlying41 hi hz0 hz1 .i64 .i64 _ _ ls.length rfl rfl rfl rfl ?c1 ?c2 ?c3 ?_)
  case c1 => rw [hz2]; omega
  case c2 => unfold maxLen; omega
  case c3 => omega
  intro w1 ho1 hg1
  have hb1 : Below w.heap.size w w1 := (Below.refl _ _).grown hg1 (Nat.le_refl _) (by intro k hk; cases hk)
  clear hg1
  go_wp2
  go_loopw [4] (fun i wr => ∃ (k : Nat) (ys : List Value), i = .int .i64 k ∧ k ≤ ls.length ∧ wr.ownsRow w.heap.size 28 3 (.slice (some ⟨w.heap.size, 0, none⟩) ls.length ls.length) ls.length ys ∧ DoneA wr (w.heap.size + 1) ys ls k ∧ Below w.heap.size w wr) (fun i _ => ls.length - (intOf i).toNat)
  case atStart => exact ⟨0, _, rfl, by omega, ho1, fun j hj => by omega, hb1⟩
  case round =>
    obtain ⟨k, ys, rfl, hk, hown, hys, hbr⟩ := hrel
    clear ho1 hb1
    have HOW : Hid (wr.ownsRow w.heap.size 28 3 (.slice (some ⟨w.heap.size, 0, none⟩) ls.length ls.length) ls.length ys) := hown
    have HD : Hid (DoneA wr (w.heap.size + 1) ys ls k) := hys
    clear hown hys
    by_cases hlt : k < ls.length
    · obtain ⟨b, o, rfl, hb, hj⟩ := HR.out (by omega)
      obtain ⟨vc, vv, q0, q1, q2, r1, r2⟩ := (hj k hlt).later hbr hb
      obtain ⟨o1, c1, rfl, -, -⟩ := id r1
      obtain ⟨o2, c2, rfl, -, -⟩ := id r2
      have hfk := HF.out _ (ad_mem hlt)
      have c := toAttr_row _ (ad ls k) wr ⟨_, _, rfl, r1, r2⟩ hfk.cuts hfk.vals
      clear hj r1 r2 hfk
      go_wp2_with fail
      refine c.mono ?_
      rintro e w2 ⟨v', rfl, hoa, hb2⟩
      clear c q0 q1 q2
      have hgl : w.heap.size < wr.heap.size := (HOW.out.lt w.heap.size rfl).2
      obtain ⟨yc, yv, rfl, hyc, hyv⟩ := hoa
      have hyc := own_base hyc (b' := w.heap.size + 1) (by omega)
      have hyv := own_base hyv (b' := w.heap.size + 1) (by omega)
      obtain ⟨o3, c3, rfl, -, -⟩ := RowI.of_own hyc rfl
      obtain ⟨o4, c4, rfl, -, -⟩ := RowS.of_own hyv rfl
      have hown := own_below HOW.out hb2
      have hdone := HD.out.below hb2
      have hbw := hbr.trans (hb2.mono hbr.size)
      have hlen : ys.length = ls.length * 3 := hown.1
      have hc0 : ∃ u, w2.cell? ⟨w.heap.size, k * 3, none⟩ = some u := ⟨ys[k * 3]'(by omega), by rw [hown.cellAt (k * 3) (by omega)]; exact List.getElem?_eq_getElem _⟩
      have hc1 : ∃ u, w2.cell? ⟨w.heap.size, k * 3 + 1, none⟩ = some u := ⟨ys[k * 3 + 1]'(by omega), by rw [hown.cellAt (k * 3 + 1) (by omega)]; exact List.getElem?_eq_getElem _⟩
      have hc2 : ∃ u, w2.cell? ⟨w.heap.size, k * 3 + 2, none⟩ = some u := ⟨ys[k * 3 + 2]'(by omega), by rw [hown.cellAt (k * 3 + 2) (by omega)]; exact List.getElem?_eq_getElem _⟩
      obtain ⟨u0, hc0⟩ := hc0
      obtain ⟨u1, hc1⟩ := hc1
      obtain ⟨u2, hc2⟩ := hc2
      have hf0 : w2.frozen? ⟨w.heap.size, k * 3, none⟩ = false := hown.frozenAt _
      have hf1 : w2.frozen? ⟨w.heap.size, k * 3 + 1, none⟩ = false := hown.frozenAt _
      have hf2 : w2.frozen? ⟨w.heap.size, k * 3 + 2, none⟩ = false := hown.frozenAt _
      have DS := hdone.stored (x := .string (ad ls k).name) (by omega) rfl hyc hyv
      have OS := (((hown.stored (k * 3) (.string (ad ls k).name)).1.stored (k * 3 + 1) (.slice o3 (ad ls k).cuts.length c3)).1.stored (k * 3 + 2) (.slice o4 (ad ls k).vals.length c4)).1
      have BS : Below w.heap.size w (((w2.setCell ⟨w.heap.size, k * 3, none⟩ (.string (ad ls k).name)).setCell ⟨w.heap.size, k * 3 + 1, none⟩ (.slice o3 (ad ls k).cuts.length c3)).setCell ⟨w.heap.size, k * 3 + 2, none⟩ (.slice o4 (ad ls k).vals.length c4)) :=
        ((hbw.setCell (p := ⟨w.heap.size, k * 3, none⟩) (Nat.le_refl _) _).setCell (p := ⟨w.heap.size, k * 3 + 1, none⟩) (Nat.le_refl _) _).setCell (p := ⟨w.heap.size, k * 3 + 2, none⟩) (Nat.le_refl _) _
      have HX : Hid ((((w2.setCell ⟨w.heap.size, k * 3, none⟩ (.string (ad ls k).name)).setCell ⟨w.heap.size, k * 3 + 1, none⟩ (.slice o3 (ad ls k).cuts.length c3)).setCell ⟨w.heap.size, k * 3 + 2, none⟩ (.slice o4 (ad ls k).vals.length c4)).ownsRow w.heap.size 28 3 (.slice (some ⟨w.heap.size, 0, none⟩) ls.length ls.length) ls.length (((ys.set (k * 3) (.string (ad ls k).name)).set (k * 3 + 1) (.slice o3 (ad ls k).cuts.length c3)).set (k * 3 + 2) (.slice o4 (ad ls k).vals.length c4)) ∧
        DoneA (((w2.setCell ⟨w.heap.size, k * 3, none⟩ (.string (ad ls k).name)).setCell ⟨w.heap.size, k * 3 + 1, none⟩ (.slice o3 (ad ls k).cuts.length c3)).setCell ⟨w.heap.size, k * 3 + 2, none⟩ (.slice o4 (ad ls k).vals.length c4)) (w.heap.size + 1) (((ys.set (k * 3) (.string (ad ls k).name)).set (k * 3 + 1) (.slice o3 (ad ls k).cuts.length c3)).set (k * 3 + 2) (.slice o4 (ad ls k).vals.length c4)) ls (k + 1) ∧
        Below w.heap.size w (((w2.setCell ⟨w.heap.size, k * 3, none⟩ (.string (ad ls k).name)).setCell ⟨w.heap.size, k * 3 + 1, none⟩ (.slice o3 (ad ls k).cuts.length c3)).setCell ⟨w.heap.size, k * 3 + 2, none⟩ (.slice o4 (ad ls k).vals.length c4))) := ⟨OS, DS, BS⟩
      clear DS OS BS hown hdone hbw hyc hyv hb2 hbr HOW HD
      go_wp2
      go_roundw
      case rel => exact ⟨k + 1, _, by go_num, by omega, HX.out.1, HX.out.2.1, HX.out.2.2⟩
      case measure => simp [intOf]; omega
    · obtain rfl : k = ls.length := by omega
      go_wp2
      go_ret
      exact ⟨_, rfl, ⟨ys, HOW.out, HD.out.base (by omega)⟩, hbr⟩

theorem sch_size : (Tryd.prog.info? 43).map (·.size) = some 2 := by kernel_rfl
theorem wp_sc_load {ops : Array Oper} {rest : List Oper} {o : Oper} {a : Act} {w : World} {Q : Exit → Act → World → Prop} (hgd : o.guard = none) (x : Operand) (ho : o.op = .load 43 x)
    (h : ∃ g, a.eval x = .pointer (some ⟨g, 0, none⟩) ∧ ∃ c0 c1, Blk 43 w g #[c0, c1] ∧ wpList Tryd.prog ops Q rest (a.put o.dst (.agg #[c0, c1])) w) : wpList Tryd.prog ops Q (o :: rest) a w := by
  obtain ⟨g, hx, c0, c1, hA, hk⟩ := h
  exact wpList_load_row hgd 43 x ho g hx _ _ _ _ hA Tryd.underlying43 rfl sch_size hk
theorem wp_sc_store {ops : Array Oper} {rest : List Oper} {o : Oper} {a : Act} {w : World} {Q : Exit → Act → World → Prop} (hgd : o.guard = none) (x y : Operand) (ho : o.op = .store 43 x y)
    (h : ∃ g, a.eval x = .pointer (some ⟨g, 0, none⟩) ∧ ∃ o1 l1 k1 o2 l2 k2, a.eval y = .agg #[.slice o1 l1 k1, .slice o2 l2 k2] ∧ ∃ d0 d1, Blk 43 w g #[d0, d1] ∧ wpList Tryd.prog ops Q rest (a.put o.dst undef) (w.setRow g #[.slice o1 l1 k1, .slice o2 l2 k2])) : wpList Tryd.prog ops Q (o :: rest) a w := by
  obtain ⟨g, hx, o1, l1, k1, o2, l2, k2, hy, d0, d1, hA, hk⟩ := h
  exact wpList_store_row hgd 43 x y ho g _ hx hy _ _ hA sch_size rfl (by simp [Value.oneCell']) hk
theorem res_sc {fn : Func} {p : Tmp} (h : fn.results = #[.cell p 43]) (tmps : Array Value) (w : World) (g : Nat) (c0 c1 : Value)
    (hp : tmps.getD p undef = .pointer (some ⟨g, 0, none⟩)) (hg : Blk 43 w g #[c0, c1]) : (results fn tmps).run Tryd.prog w = .ok (.agg #[c0, c1]) w :=
  results_cell_row h tmps w g _ _ _ _ hp hg Tryd.underlying43 rfl sch_size

/-- A schema that lies in blocks from a base on. -/
def OwnS (base : Nat) (w : World) (v : Value) (s : SchemaD) : Prop :=
  ∃ va vc, v = .agg #[va, vc] ∧ OwnL base w va s.attrs ∧ w.ownsRow base 9 1 vc s.classes.length (s.classes.map Value.string)
theorem OwnS.at {base : Nat} {w : World} {v : Value} {s : SchemaD} (h : OwnS base w v s) : SchemaAt w v s := by
  obtain ⟨va, vc, rfl, h1, h2⟩ := h
  exact ⟨va, vc, rfl, h1.at, RowS.of_own h2 rfl⟩

set_option maxHeartbeats 800000 in
theorem toSchema_row (v : Value) (a : SchemaD) (w : World) (h : SchemaAt w v a) (hf : fitS a) :
    Calls Tryd.prog 18 #[v] w fun e w' => ∃ v', e = .returned v' ∧ OwnS w.heap.size w' v' a ∧ Below w.heap.size w w' := by
  obtain ⟨vc, vv, rfl, hc, hv⟩ := h
  have HC : Hid (RowA w vc a.attrs) := hc
  have HV : Hid (RowS w vv a.classes) := hv
  clear hc hv
  go_enter Tryd.func18, Tryd.ntmps18
  go_wp2_with fail
  obtain ⟨K1, K2, K3, B0⟩ := blk_3 38 43 43 w #[vc, vv] #[.slice none 0 0, .slice none 0 0] #[.slice none 0 0, .slice none 0 0]
  refine (toAttrS_row vc a.attrs _ (HC.out.later B0) hf.attrs hf.each).mono ?_
  rintro e w1 ⟨g1, rfl, ho1, hb1⟩
  replace K1 := K1.below hb1
  replace K2 := K2.below hb1
  replace K3 := K3.below hb1
  have hsz := hb1.size
  simp at hsz
  have ho1 := ho1.base (b' := w.heap.size + 3) (by simp)
  have B1 : Below w.heap.size w w1 := B0.trans (hb1.mono (by simp; omega))
  clear hb1 B0
  generalize hV1 : Value.slice (some ⟨g1, 0, none⟩) a.attrs.length a.attrs.length = V1 at ho1
  have HV1 : Hid (Value.slice (some ⟨g1, 0, none⟩) a.attrs.length a.attrs.length = V1) := hV1
  have c3 : w1.cell? ⟨w.heap.size + 1 + 1, 0, none⟩ = some (.slice none 0 0) := K3.cell 0
  have f3 := K3.frozen 0
  have S1 := K1.setCell_other ⟨w.heap.size + 1 + 1, 0, none⟩ V1 (by simp; omega)
  have S2 := K2.setCell_other ⟨w.heap.size + 1 + 1, 0, none⟩ V1 (by simp)
  have S3 := K3.setCell 0 V1
  have B2 : Below w.heap.size w (w1.setCell ⟨w.heap.size + 1 + 1, 0, none⟩ V1) := B1.setCell (p := ⟨w.heap.size + 1 + 1, 0, none⟩) (by simp; omega) _
  have hsz2 : (w1.setCell ⟨w.heap.size + 1 + 1, 0, none⟩ V1).heap.size = w1.heap.size := by simp [World.setCell]
  have O1 := ho1.setCell ⟨w.heap.size + 1 + 1, 0, none⟩ V1 (by simp)
  have cS : (w1.setCell ⟨w.heap.size + 1 + 1, 0, none⟩ V1).cell? ⟨w.heap.size, 1, none⟩ = some vv := S1.cell 1
  subst hV1
  have HO1 : Hid (OwnL (w.heap.size + 3) (w1.setCell ⟨w.heap.size + 1 + 1, 0, none⟩ (.slice (some ⟨g1, 0, none⟩) a.attrs.length a.attrs.length)) (.slice (some ⟨g1, 0, none⟩) a.attrs.length a.attrs.length) a.attrs) := O1
  have HS : Hid (Blk 43 (w1.setCell ⟨w.heap.size + 1 + 1, 0, none⟩ (.slice (some ⟨g1, 0, none⟩) a.attrs.length a.attrs.length)) (w.heap.size + 1) #[.slice none 0 0, .slice none 0 0] ∧ Blk 43 (w1.setCell ⟨w.heap.size + 1 + 1, 0, none⟩ (.slice (some ⟨g1, 0, none⟩) a.attrs.length a.attrs.length)) (w.heap.size + 1 + 1) #[(.slice (some ⟨g1, 0, none⟩) a.attrs.length a.attrs.length), .slice none 0 0] ∧ Below w.heap.size w (w1.setCell ⟨w.heap.size + 1 + 1, 0, none⟩ (.slice (some ⟨g1, 0, none⟩) a.attrs.length a.attrs.length))) := ⟨S2, S3, B2⟩
  clear K1 K2 K3 S1 S2 S3 B2 O1 ho1 B1 HV1
  go_wp2_with fail
  clear c3 f3
  refine (toS_row vv a.classes _ (HV.out.later HS.out.2.2) hf.classes).mono ?_
  rintro e w2 ⟨g2, rfl, ho2, hb2⟩
  have O1 := HO1.out.below hb2
  obtain ⟨S2, S3, B2⟩ := HS.out
  replace S2 := S2.below hb2
  replace S3 := S3.below hb2
  have B3 := B2.trans (hb2.mono B2.size)
  have hsz3 := hb2.size
  have ho2 := own_base ho2 (b' := w.heap.size + 3) (by omega)
  clear HS HO1 HC HV hb2 B2
  have c3 : w2.cell? ⟨w.heap.size + 1 + 1, 1, none⟩ = some (.slice none 0 0) := S3.cell 1
  have f3 := S3.frozen 1
  have T2 := S2.setCell_other ⟨w.heap.size + 1 + 1, 1, none⟩ (.slice (some ⟨g2, 0, none⟩) a.classes.length a.classes.length) (by simp)
  have T3 := S3.setCell 1 (.slice (some ⟨g2, 0, none⟩) a.classes.length a.classes.length)
  have B4 : Below w.heap.size w (w2.setCell ⟨w.heap.size + 1 + 1, 1, none⟩ (.slice (some ⟨g2, 0, none⟩) a.classes.length a.classes.length)) := B3.setCell (p := ⟨w.heap.size + 1 + 1, 1, none⟩) (by simp; omega) _
  have O1 := O1.setCell ⟨w.heap.size + 1 + 1, 1, none⟩ (.slice (some ⟨g2, 0, none⟩) a.classes.length a.classes.length) (by simp)
  have O2 := own_setCell ho2 ⟨w.heap.size + 1 + 1, 1, none⟩ (.slice (some ⟨g2, 0, none⟩) a.classes.length a.classes.length) (by simp)
  have HT : Hid (Below w.heap.size w (w2.setCell ⟨w.heap.size + 1 + 1, 1, none⟩ (.slice (some ⟨g2, 0, none⟩) a.classes.length a.classes.length)) ∧ OwnL (w.heap.size + 3) (w2.setCell ⟨w.heap.size + 1 + 1, 1, none⟩ (.slice (some ⟨g2, 0, none⟩) a.classes.length a.classes.length)) (.slice (some ⟨g1, 0, none⟩) a.attrs.length a.attrs.length) a.attrs ∧ (w2.setCell ⟨w.heap.size + 1 + 1, 1, none⟩ (.slice (some ⟨g2, 0, none⟩) a.classes.length a.classes.length)).ownsRow (w.heap.size + 3) 9 1 (.slice (some ⟨g2, 0, none⟩) a.classes.length a.classes.length) a.classes.length (a.classes.map Value.string)) := ⟨B4, O1, O2⟩
  have HT2 : Hid (Blk 43 (w2.setCell ⟨w.heap.size + 1 + 1, 1, none⟩ (.slice (some ⟨g2, 0, none⟩) a.classes.length a.classes.length)) (w.heap.size + 1) #[.slice none 0 0, .slice none 0 0] ∧ Blk 43 (w2.setCell ⟨w.heap.size + 1 + 1, 1, none⟩ (.slice (some ⟨g2, 0, none⟩) a.classes.length a.classes.length)) (w.heap.size + 1 + 1) #[(.slice (some ⟨g1, 0, none⟩) a.attrs.length a.attrs.length), (.slice (some ⟨g2, 0, none⟩) a.classes.length a.classes.length)]) := ⟨T2, T3⟩
  clear S2 S3 T2 T3 B4 O1 O2 ho2 B3
  go_wp2_with (first | (with_reducible refine wp_sc_load rfl _ rfl ?_; refine ⟨_, rfl, _, _, HT2.out.2, ?_⟩) | (with_reducible refine wp_sc_store rfl _ _ rfl ?_; refine ⟨_, rfl, _, _, _, _, _, _, rfl, _, _, HT2.out.1, ?_⟩))
  refine bodyPost_ret (res_sc Tryd.results18 _ _ _ _ _ rfl (HT2.out.1.setRow _)) rfl ⟨_, rfl, ⟨_, _, rfl, ?_, ?_⟩, ?_⟩
  · exact (HT.out.2.1.setRow _ _ (by omega)).base (by omega)
  · exact own_base (own_setRow HT.out.2.2 _ _ (by omega)) (by omega)
  · exact below_row HT.out.1 (by omega) _
end Go.Proofs.YtlpjigpnpafkiabDoor
