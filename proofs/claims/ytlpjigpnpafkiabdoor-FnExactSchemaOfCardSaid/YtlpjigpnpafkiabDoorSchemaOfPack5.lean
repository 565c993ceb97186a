/- Texts of this claim, put together: part 5. -/
import Derived.Test.YtlpjigpnpafkiabDoorSchemaOfPack4
import Derived.Test.YtlpjigpnpafkiabDoorSchemaOfPack1
import Derived.Test.YtlpjigpnpafkiabDoorSchemaOfPack2
import Derived.Test.YtlpjigpnpafkiabDoorSchemaOfPack3
import Derived.Lib.QuietBelow
/- A text read as a schema, in plain words. -/
namespace Go.Proofs.YtlpjigpnpafkiabDoor
open Go.RowKit
set_option maxRecDepth 100000

def emptyS : SchemaD := ⟨[], []⟩
def attrsOf : List ByteArray → Option (List AttrD)
  | [] => some []
  | p :: r => match attrOfS p with
    | none => none
    | some a => match attrsOf r with
      | none => none
      | some l => some (a :: l)
def preSch (s : ByteArray) : Option SchemaD := match pieces 124 s with
  | [x, y] => match attrsOf (pieces 59 x) with
    | none => none
    | some ls => some ⟨ls, pieces 44 y⟩
  | _ => none
def schemaOf (s : ByteArray) : Option SchemaD := match preSch s with
  | none => none
  | some t => if schemaOk t = true then some t else none
theorem attrs_app : ∀ (ps qs : List ByteArray) (zs : List AttrD), attrsOf ps = some zs → attrsOf (ps ++ qs) = (attrsOf qs).map (zs ++ ·)
  | [], qs, zs, h => by
    simp [attrsOf] at h; subst h
    rw [List.nil_append]
    cases attrsOf qs <;> rfl
  | p :: r, qs, zs, h => by
    unfold attrsOf at h
    cases hp : attrOfS p with
    | none => rw [hp] at h; cases h
    | some x =>
      rw [hp] at h
      cases hr : attrsOf r with
      | none => rw [hr] at h; cases h
      | some l =>
        rw [hr] at h
        simp only [Option.some.injEq] at h
        subst h
        rw [List.cons_append, attrsOf, hp, attrs_app r qs l hr]
        cases attrsOf qs <;> rfl
theorem attrs_len : ∀ {ps : List ByteArray} {zs : List AttrD}, attrsOf ps = some zs → zs.length = ps.length
  | [], zs, h => by simp [attrsOf] at h; subst h; rfl
  | p :: r, zs, h => by
    unfold attrsOf at h
    cases hp : attrOfS p with
    | none => rw [hp] at h; cases h
    | some x =>
      rw [hp] at h
      cases hr : attrsOf r with
      | none => rw [hr] at h; cases h
      | some l =>
        rw [hr] at h
        simp only [Option.some.injEq] at h
        subst h
        rw [List.length_cons, List.length_cons, attrs_len hr]
theorem attrs_text : ∀ {ps : List ByteArray} {zs : List AttrD}, attrsOf ps = some zs → zs.map attrText = ps ∧ ∀ a ∈ zs, attrOk a = true
  | [], zs, h => by simp [attrsOf] at h; subst h; exact ⟨rfl, fun _ h => by cases h⟩
  | p :: r, zs, h => by
    unfold attrsOf at h
    cases hp : attrOfS p with
    | none => rw [hp] at h; cases h
    | some x =>
      rw [hp] at h
      cases hr : attrsOf r with
      | none => rw [hr] at h; cases h
      | some l =>
        rw [hr] at h
        simp only [Option.some.injEq] at h
        subst h
        obtain ⟨h1, h2⟩ := attrs_text hr
        obtain ⟨h3, h4⟩ := (attrOfS_iff p x).1 hp
        refine ⟨by rw [List.map_cons, h4, h1], fun a ha => ?_⟩
        rcases List.mem_cons.1 ha with rfl | ha
        · exact h3
        · exact h2 a ha
theorem attrs_of : ∀ {zs : List AttrD}, (∀ a ∈ zs, attrOk a = true) → attrsOf (zs.map attrText) = some zs
  | [], _ => rfl
  | z :: r, h => by
    have hz := h z List.mem_cons_self
    rw [List.map_cons, attrsOf, (attrOfS_iff _ z).2 ⟨hz, rfl⟩, attrs_of fun y hy => h y (List.mem_cons_of_mem _ hy)]
theorem attrs_step {ps : List ByteArray} {k : Nat} {zs : List AttrD} {x : AttrD} (hk : k < ps.length) (h : attrsOf (ps.take k) = some zs) (hx : attrOfS (tx ps k) = some x) : attrsOf (ps.take (k + 1)) = some (zs ++ [x]) := by
  rw [List.take_succ_eq_append_getElem hk, ← tx_eq hk, attrs_app _ _ zs h]
  unfold attrsOf
  rw [hx]
  rfl
theorem attrs_stop {ps : List ByteArray} {k : Nat} {zs : List AttrD} (hk : k < ps.length) (h : attrsOf (ps.take k) = some zs) (hx : attrOfS (tx ps k) = none) : attrsOf ps = none := by
  have e : ps = ps.take k ++ (tx ps k :: ps.drop (k + 1)) := by rw [tx_eq hk, ← List.drop_eq_getElem_cons hk, List.take_append_drop]
  rw [e, attrs_app _ _ zs h]
  unfold attrsOf
  rw [hx]
  rfl
theorem attrsOk_each {ls : List AttrD} (h : attrsOk ls = true) : ∀ a ∈ ls, attrOk a = true := by
  intro a ha
  obtain ⟨j, hj, rfl⟩ := List.mem_iff_getElem.1 ha
  unfold attrsOk at h
  rw [List.all_eq_true] at h
  have := h j (List.mem_range.2 hj)
  unfold attrAt at this
  rw [Bool.and_eq_true, ad_eq hj] at this
  exact this.1

/-- A text without the signs that part attributes. -/
theorem clean_attr {a : AttrD} (h : attrOk a = true) {b : UInt8} (h0 : b = 59 ∨ b = 124) : clean b (attrText a) := by
  have hw := ok_name h
  have e1 : ¬ (97 ≤ b.toNat ∧ b.toNat ≤ 122) := by rcases h0 with rfl | rfl <;> decide
  have e2 : b.toNat ≠ 45 := by rcases h0 with rfl | rfl <;> decide
  have e3 : ¬ (48 ≤ b.toNat ∧ b.toNat ≤ 57) := by rcases h0 with rfl | rfl <;> decide
  have e4 : (58 : UInt8) ≠ b := by rcases h0 with rfl | rfl <;> decide
  have e5 : (61 : UInt8) ≠ b := by rcases h0 with rfl | rfl <;> decide
  have e6 : (44 : UInt8) ≠ b := by rcases h0 with rfl | rfl <;> decide
  by_cases hv : a.vals.length = 0
  · rw [text_cuts h hv]
    exact clean_app (clean_app (clean_word hw e1) (clean_one e4)) (clean_join (fun s hs => by obtain ⟨z, _, rfl⟩ := List.mem_map.1 hs; exact clean_it z e2 e3) (clean_one e6))
  · rw [text_vals h hv]
    exact clean_app (clean_app (clean_word hw e1) (clean_one e5)) (clean_join (fun s hs => clean_word (words_all (ok_vals h hv).2.2.2 s hs) e1) (clean_one e6))
theorem schemaOf_iff (s : ByteArray) (t : SchemaD) : schemaOf s = some t ↔ schemaOk t = true ∧ schemaText t = s := by
  unfold schemaOf
  constructor
  · intro h
    cases hp : preSch s with
    | none => rw [hp] at h; cases h
    | some u =>
      rw [hp] at h
      by_cases hc : schemaOk u = true
      · simp only [if_pos hc, Option.some.injEq] at h
        subst h
        refine ⟨hc, ?_⟩
        unfold preSch at hp
        split at hp
        · rename_i x y hxy
          cases ha : attrsOf (pieces 59 x) with
          | none => rw [ha] at hp; cases hp
          | some ls =>
            rw [ha] at hp
            simp only [Option.some.injEq] at hp
            subst hp
            unfold schemaText
            rw [if_pos hc]
            simp only
            rw [(attrs_text ha).1, joinT_pieces, joinT_pieces, pieces_eq_two hxy]
        · cases hp
      · simp only [if_neg hc] at h; cases h
  · rintro ⟨ho, rfl⟩
    obtain ⟨⟨h1, h5⟩, ⟨h2, h3⟩, hwo, hat⟩ := sch_parts ho
    have hea := attrsOk_each hat
    have hp : preSch (schemaText t) = some t := by
      have e : schemaText t = joinT (t.attrs.map attrText) ⟨#[59]⟩ ++ ⟨#[124]⟩ ++ joinT t.classes ⟨#[44]⟩ := by unfold schemaText; rw [if_pos ho]
      rw [e, preSch, pieces_two 124 _ _ (clean_join (fun s hs => by obtain ⟨a, ha, rfl⟩ := List.mem_map.1 hs; exact clean_attr (hea a ha) (.inr rfl)) (clean_one (by decide))) (clean_join (fun s hs => clean_word (words_all hwo s hs) (by decide)) (clean_one (by decide)))]
      simp only
      rw [pieces_joinT 59 _ (by intro e; rw [List.map_eq_nil_iff] at e; simp [e] at h1) (fun s hs => by obtain ⟨a, ha, rfl⟩ := List.mem_map.1 hs; exact clean_attr (hea a ha) (.inl rfl)), attrs_of hea]
      simp only
      rw [pieces_joinT 44 _ (by intro e; simp [e] at h2) (fun s hs => clean_word (words_all hwo s hs) (by decide))]
    rw [hp]
    simp [ho]
theorem sof_no0 {s : ByteArray} (h : preSch s = none) : schemaOf s = none := by unfold schemaOf; rw [h]
theorem sof_no1 {s : ByteArray} {t : SchemaD} (h : preSch s = some t) (h2 : schemaOk t = false) : schemaOf s = none := by unfold schemaOf; rw [h]; simp [h2]
theorem sof_yes {s : ByteArray} {t : SchemaD} (h : preSch s = some t) (h2 : schemaOk t = true) : schemaOf s = some t := by unfold schemaOf; rw [h]; simp [h2]
theorem psch_len {s : ByteArray} (h : (pieces 124 s).length ≠ 2) : preSch s = none := by
  unfold preSch
  split
  · rename_i e; rw [e] at h; exact absurd rfl h
  · rfl
theorem psch_no {s x y : ByteArray} (h : pieces 124 s = [x, y]) (ha : attrsOf (pieces 59 x) = none) : preSch s = none := by unfold preSch; rw [h]; simp only; rw [ha]
theorem psch_yes {s x y : ByteArray} {ls : List AttrD} (h : pieces 124 s = [x, y]) (ha : attrsOf (pieces 59 x) = some ls) : preSch s = some ⟨ls, pieces 44 y⟩ := by unfold preSch; rw [h]; simp only; rw [ha]
end Go.Proofs.YtlpjigpnpafkiabDoor
/- What the laws' own helpers do with lists of texts and of integers that came in: their sizes, copies of them, held against each other. (What is plain.) -/
namespace Go.Proofs.YtlpjigpnpafkiabDoor
open Go.RowKit
set_option maxRecDepth 100000
theorem strInfo : (Tryd.prog.info? 9).map (fun i => (i.zero, i.size, i.bytes)) = some (some (.string ⟨#[]⟩), 1, 16) := by kernel_rfl
end Go.Proofs.YtlpjigpnpafkiabDoor
/- What the laws' own helpers do with an attribute that came in: its size, a copy of it, two held against each other. (What is plain.) -/
namespace Go.Proofs.YtlpjigpnpafkiabDoor
open Go.RowKit
set_option maxRecDepth 100000
/-- An attribute whose lists are the call's own. -/
def OwnA (base : Nat) (w : World) (v : Value) (a : AttrD) : Prop :=
  ∃ vc vv, v = .agg #[.string a.name, vc, vv] ∧ w.ownsRow base 3 1 vc a.cuts.length (a.cuts.map (Value.int .i64)) ∧ w.ownsRow base 9 1 vv a.vals.length (a.vals.map Value.string)
theorem OwnA.at {base : Nat} {w : World} {v : Value} {a : AttrD} (h : OwnA base w v a) : AttrAt w v a := by
  obtain ⟨vc, vv, rfl, h1, h2⟩ := h
  exact ⟨vc, vv, rfl, RowI.of_own h1 rfl, RowS.of_own h2 rfl⟩
theorem attr_size : (Tryd.prog.info? 28).map (·.size) = some 3 := by kernel_rfl
theorem wp_at_load {ops : Array Oper} {rest : List Oper} {o : Oper} {a : Act} {w : World} {Q : Exit → Act → World → Prop} (hgd : o.guard = none) (x : Operand) (ho : o.op = .load 28 x)
    (h : ∃ g, a.eval x = .pointer (some ⟨g, 0, none⟩) ∧ ∃ c0 c1 c2, Blk 28 w g #[c0, c1, c2] ∧ wpList Tryd.prog ops Q rest (a.put o.dst (.agg #[c0, c1, c2])) w) : wpList Tryd.prog ops Q (o :: rest) a w := by
  obtain ⟨g, hx, c0, c1, c2, hA, hk⟩ := h
  exact wpList_load_row hgd 28 x ho g hx _ _ _ _ hA Tryd.underlying28 rfl attr_size hk
theorem wp_at_store {ops : Array Oper} {rest : List Oper} {o : Oper} {a : Act} {w : World} {Q : Exit → Act → World → Prop} (hgd : o.guard = none) (x y : Operand) (ho : o.op = .store 28 x y)
    (h : ∃ g, a.eval x = .pointer (some ⟨g, 0, none⟩) ∧ ∃ n o1 l1 k1 o2 l2 k2, a.eval y = .agg #[.string n, .slice o1 l1 k1, .slice o2 l2 k2] ∧ ∃ d0 d1 d2, Blk 28 w g #[d0, d1, d2] ∧ wpList Tryd.prog ops Q rest (a.put o.dst undef) (w.setRow g #[.string n, .slice o1 l1 k1, .slice o2 l2 k2])) : wpList Tryd.prog ops Q (o :: rest) a w := by
  obtain ⟨g, hx, n, o1, l1, k1, o2, l2, k2, hy, d0, d1, d2, hA, hk⟩ := h
  exact wpList_store_row hgd 28 x y ho g _ hx hy _ _ hA attr_size rfl (by simp [Value.oneCell']) hk
theorem res_at {fn : Func} {p : Tmp} (h : fn.results = #[.cell p 28]) (tmps : Array Value) (w : World) (g : Nat) (c0 c1 c2 : Value)
    (hp : tmps.getD p undef = .pointer (some ⟨g, 0, none⟩)) (hg : Blk 28 w g #[c0, c1, c2]) : (results fn tmps).run Tryd.prog w = .ok (.agg #[c0, c1, c2]) w :=
  results_cell_row h tmps w g _ _ _ _ hp hg Tryd.underlying28 rfl attr_size
theorem own_setRow {w : World} {base e n : Nat} {v : Value} {xs : List Value} (h : w.ownsRow base e 1 v n xs) (k : Nat) (c : Array Value) (hp : k < base) : (w.setRow k c).ownsRow base e 1 v n xs := by
  refine ⟨h.1, ?_⟩
  rcases h.2 with h' | ⟨g, cap, cur, hv, hg, hc, r⟩
  · exact .inl h'
  · refine .inr ⟨g, cap, cur, hv, hg, ?_, r⟩
    rw [Go.setRow_other w k g c (by omega)]; exact hc
theorem own_setCell {w : World} {base e n : Nat} {v : Value} {xs : List Value} (h : w.ownsRow base e 1 v n xs) (p : Addr) (u : Value) (hp : p.block < base) : (w.setCell p u).ownsRow base e 1 v n xs := by
  refine ⟨h.1, ?_⟩
  rcases h.2 with h' | ⟨g, cap, cur, hv, hg, hc, r⟩
  · exact .inl h'
  · refine .inr ⟨g, cap, cur, hv, hg, ?_, r⟩
    simp only [World.setCell, Array.getElem?_modify]
    rw [if_neg (by omega)]; exact hc
theorem own_ge {w : World} {base base' e n : Nat} {v : Value} {xs : List Value} (h : w.ownsRow base e 1 v n xs) (hb : base' ≤ base) : w.ownsRow base' e 1 v n xs := own_base h hb

/-- What came in is small enough to be spoken of at all. -/
structure inA (a : AttrD) : Prop where
  name : a.name.size ≤ 9223372036854775807
  cuts : a.cuts.length ≤ 9223372036854775807
  vals : a.vals.length ≤ 9223372036854775807
  each : ∀ s ∈ a.vals, s.size ≤ 9223372036854775807
structure fitA (a : AttrD) : Prop where
  name : a.name.size ≤ 1048576
  cuts : a.cuts.length ≤ 1048576
  vals : a.vals.length ≤ 1048576
  each : ∀ s ∈ a.vals, s.size ≤ 1048576
theorem fitA.ok {a : AttrD} (h : fitA a) : okA a := ⟨by have := h.name; omega, by have := h.cuts; omega, by have := h.vals; omega, fun s hs => by have := h.each s hs; omega⟩
end Go.Proofs.YtlpjigpnpafkiabDoor
/- What the laws' own helpers do with a schema that came in: its size, a copy of it, two held against each other. (What is plain.) -/
namespace Go.Proofs.YtlpjigpnpafkiabDoor
open Go.RowKit
set_option maxRecDepth 100000
/-- What came in is small enough to be spoken of at all. -/
structure inS (s : SchemaD) : Prop where
  attrs : s.attrs.length ≤ 9223372036854775807
  each : ∀ a ∈ s.attrs, inA a
  classes : s.classes.length ≤ 9223372036854775807
  sizes : ∀ t ∈ s.classes, t.size ≤ 9223372036854775807
structure fitS (s : SchemaD) : Prop where
  attrs : s.attrs.length ≤ 1048576
  each : ∀ a ∈ s.attrs, fitA a
  classes : s.classes.length ≤ 1048576
  sizes : ∀ t ∈ s.classes, t.size ≤ 1048576
theorem fitS.ok {s : SchemaD} (h : fitS s) : okSch s := ⟨by have := h.attrs; omega, fun a ha => (h.each a ha).ok, by have := h.classes; omega, fun t ht => by have := h.sizes t ht; omega⟩
end Go.Proofs.YtlpjigpnpafkiabDoor
