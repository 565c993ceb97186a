/- A schema of the call's own: no two of its lists share memory. -/
import Derived.Test.YtlpjigpnpafkiabDoorSop
import Derived.Test.YtlpjigpnpafkiabDoorVg
import Derived.Test.YtlpjigpnpafkiabDoorRd
namespace Go.Proofs.YtlpjigpnpafkiabDoor
open Go.RowKit
set_option maxRecDepth 100000

/-- The attributes that a row leads to, each list in a block of its own. -/
structure SepL (base : Nat) (w : World) (v : Value) (L : Nat → Value × Value) (ys : List Value) (ls : List AttrD) (n : Nat) : Prop where
  row : w.ownsRow base 28 3 v n ys
  cells : ∀ j, j < n → ys[j * 3]? = some (.string (ad ls j).name) ∧ ys[j * 3 + 1]? = some (L j).1 ∧ ys[j * 3 + 2]? = some (L j).2
  ints : ∀ j, j < n → w.ownsRow base 3 1 (L j).1 (ad ls j).cuts.length ((ad ls j).cuts.map (Value.int .i64))
  strs : ∀ j, j < n → w.ownsRow base 9 1 (L j).2 (ad ls j).vals.length ((ad ls j).vals.map Value.string)
  ord1 : ∀ i j a b, i < j → j < n → (L i).1.ownBlock = some a → (L j).1.ownBlock = some b → a < b
  ord2 : ∀ i j a b, i < j → j < n → (L i).2.ownBlock = some a → (L j).2.ownBlock = some b → a < b
theorem SepL.nil (base : Nat) (w : World) (L : Nat → Value × Value) : SepL base w (.slice none 0 0) L [] [] 0 :=
  ⟨⟨by simp, .inl ⟨rfl, rfl⟩⟩, fun j hj => by omega, fun j hj => by omega, fun j hj => by omega, fun _ _ _ _ _ h => by omega, fun _ _ _ _ _ h => by omega⟩
theorem apart_t {w : World} {v v' : Value} {b b' e e' s s' n n' : Nat} {xs xs' : List Value} (h : w.ownsRow b e s v n xs) (h' : w.ownsRow b' e' s' v' n' xs') (he : e ≠ e') : v.ownBlock = none ∨ v.ownBlock ≠ v'.ownBlock := by
  rcases h.2 with ⟨rfl, _⟩ | ⟨g, cap, cur, rfl, _, hc, _⟩
  · exact .inl rfl
  · refine .inr fun eq => ?_
    rcases h'.2 with ⟨rfl, _⟩ | ⟨g', cap', cur', rfl, _, hc', _⟩
    · cases eq
    · injection eq with eq
      simp only at eq
      subst eq
      rw [hc] at hc'
      injection hc' with hc'
      injection hc' with _ h2 _
      exact he h2
theorem SepL.below {base : Nat} {w w' : World} {v : Value} {L : Nat → Value × Value} {ys : List Value} {ls : List AttrD} {n : Nat} (h : SepL base w v L ys ls n) (hb : Below w.heap.size w w') : SepL base w' v L ys ls n :=
  ⟨own_below h.row hb, h.cells, fun j hj => own_below (h.ints j hj) hb, fun j hj => own_below (h.strs j hj) hb, h.ord1, h.ord2⟩
theorem SepL.setCell {base : Nat} {w : World} {v : Value} {L : Nat → Value × Value} {ys : List Value} {ls : List AttrD} {n : Nat} (h : SepL base w v L ys ls n) (p : Addr) (u : Value) (hp : p.block < base) : SepL base (w.setCell p u) v L ys ls n :=
  ⟨own3_setCell h.row p u hp, h.cells, fun j hj => own_setCell (h.ints j hj) p u hp, fun j hj => own_setCell (h.strs j hj) p u hp, h.ord1, h.ord2⟩
theorem SepL.setRow {base : Nat} {w : World} {v : Value} {L : Nat → Value × Value} {ys : List Value} {ls : List AttrD} {n : Nat} (h : SepL base w v L ys ls n) (k : Nat) (c : Array Value) (hp : k < base) : SepL base (w.setRow k c) v L ys ls n :=
  ⟨own3_setRow h.row k c hp, h.cells, fun j hj => own_setRow (h.ints j hj) k c hp, fun j hj => own_setRow (h.strs j hj) k c hp, h.ord1, h.ord2⟩
theorem SepL.base {b b' : Nat} {w : World} {v : Value} {L : Nat → Value × Value} {ys : List Value} {ls : List AttrD} {n : Nat} (h : SepL b w v L ys ls n) (hb : b' ≤ b) : SepL b' w v L ys ls n :=
  ⟨own_base h.row hb, h.cells, fun j hj => own_base (h.ints j hj) hb, fun j hj => own_base (h.strs j hj) hb, h.ord1, h.ord2⟩
theorem ad_app {zs : List AttrD} {x : AttrD} {j : Nat} (h : j < zs.length) : ad (zs ++ [x]) j = ad zs j := by simp [ad, List.getElem?_append_left h]
theorem ad_last {zs : List AttrD} {x : AttrD} : ad (zs ++ [x]) zs.length = x := by simp [ad]
/-- One attribute more: its row grows, its lists lie behind all that was there. -/
theorem SepL.snoc {base b : Nat} {w w1 w' : World} {v v' : Value} {L : Nat → Value × Value} {ys : List Value} {zs : List AttrD} {n : Nat} {x : AttrD} {c1 c2 : Value} (h : SepL base w v L ys zs n) (hn : zs.length = n)
    (hb : ∀ j, j < n → (∀ a, (L j).1.ownBlock = some a → a < b) ∧ ∀ a, (L j).2.ownBlock = some a → a < b)
    (hw : ∀ {e m : Nat} {u : Value} {xs : List Value}, w.ownsRow base e 1 u m xs → w1.ownsRow base e 1 u m xs)
    (o1 : w1.ownsRow b 3 1 c1 x.cuts.length (x.cuts.map (Value.int .i64))) (o2 : w1.ownsRow b 9 1 c2 x.vals.length (x.vals.map Value.string)) (hbb : base ≤ b)
    (hr1 : w1.ownsRow base 28 3 v n ys) (hg : w1.grownBy w' v.ownBlock) (hr : w'.ownsRow base 28 3 v' (n + 1) (ys ++ [.string x.name, c1, c2])) :
    SepL base w' v' (fun j => if j = n then (c1, c2) else L j) (ys ++ [.string x.name, c1, c2]) (zs ++ [x]) (n + 1) := by
  have hl : ys.length = n * 3 := h.row.1
  have kp : ∀ {e m : Nat} {u : Value} {xs : List Value}, w1.ownsRow base e 1 u m xs → e ≠ 28 → w'.ownsRow base e 1 u m xs := fun ho he => ho.kept hg (apart_t ho hr1 he)
  refine ⟨hr, fun j hj => ?_, fun j hj => ?_, fun j hj => ?_, fun i j a c hij hj ha hc => ?_, fun i j a c hij hj ha hc => ?_⟩
  · by_cases e : j = n
    · subst e
      have e2 : ad (zs ++ [x]) j = x := by rw [← hn]; exact ad_last
      rw [e2, if_pos rfl]
      refine ⟨?_, ?_, ?_⟩
      · rw [List.getElem?_append_right (by omega), hl, Nat.sub_self]; rfl
      · rw [List.getElem?_append_right (by omega), hl, show j * 3 + 1 - j * 3 = 1 by omega]; rfl
      · rw [List.getElem?_append_right (by omega), hl, show j * 3 + 2 - j * 3 = 2 by omega]; rfl
    · have hj' : j < n := by omega
      rw [ad_app (by omega), if_neg e, List.getElem?_append_left (by omega), List.getElem?_append_left (by omega), List.getElem?_append_left (by omega)]
      exact h.cells j hj'
  · by_cases e : j = n
    · subst e
      have e2 : ad (zs ++ [x]) j = x := by rw [← hn]; exact ad_last
      rw [e2, if_pos rfl]
      exact kp (own_base o1 hbb) (by decide)
    · rw [ad_app (by omega), if_neg e]
      exact kp (hw (h.ints j (by omega))) (by decide)
  · by_cases e : j = n
    · subst e
      have e2 : ad (zs ++ [x]) j = x := by rw [← hn]; exact ad_last
      rw [e2, if_pos rfl]
      exact kp (own_base o2 hbb) (by decide)
    · rw [ad_app (by omega), if_neg e]
      exact kp (hw (h.strs j (by omega))) (by decide)
  · rw [if_neg (by omega)] at ha
    by_cases e : j = n
    · rw [if_pos e] at hc
      have h1 := (hb i (by omega)).1 a ha
      have h2 := (o1.lt c hc).1
      omega
    · rw [if_neg e] at hc
      exact h.ord1 i j a c hij (by omega) ha hc
  · rw [if_neg (by omega)] at ha
    by_cases e : j = n
    · rw [if_pos e] at hc
      have h1 := (hb i (by omega)).2 a ha
      have h2 := (o2.lt c hc).1
      omega
    · rw [if_neg e] at hc
      exact h.ord2 i j a c hij (by omega) ha hc
theorem SepL.own {base : Nat} {w : World} {v : Value} {L : Nat → Value × Value} {ys : List Value} {ls : List AttrD} (h : SepL base w v L ys ls ls.length) : OwnL base w v ls :=
  ⟨ys, h.row, fun j hj => ⟨_, _, (h.cells j hj).1, (h.cells j hj).2.1, (h.cells j hj).2.2, h.ints j hj, h.strs j hj⟩⟩
/-- A schema of the call's own, no two lists in one block. -/
def OwnSep (base : Nat) (w : World) (v : Value) (s : SchemaD) : Prop :=
  ∃ va vc L ys, v = .agg #[va, vc] ∧ SepL base w va L ys s.attrs s.attrs.length ∧ w.ownsRow base 9 1 vc s.classes.length (s.classes.map Value.string) ∧
    ∀ j c b, j < s.attrs.length → vc.ownBlock = some c → (L j).2.ownBlock = some b → c < b
theorem OwnSep.own {base : Nat} {w : World} {v : Value} {s : SchemaD} (h : OwnSep base w v s) : OwnS base w v s := by
  obtain ⟨va, vc, L, ys, rfl, h1, h2, _⟩ := h
  exact ⟨va, vc, rfl, h1.own, h2⟩
theorem OwnSep.empty (base : Nat) (w : World) : OwnSep base w (.agg #[.slice none 0 0, .slice none 0 0]) emptyS :=
  ⟨_, _, fun _ => (.slice none 0 0, .slice none 0 0), [], rfl, SepL.nil _ _ _, own_nilS _ _, fun j _ _ hj => by simp [emptyS] at hj⟩
theorem newc3 (w : World) (x y z : Value) (e : TypeId) : ∀ (j : Nat) (u : Value), [x, y, z][j]? = some u → (w.alloc (.cells #[x, y, z] e)).cell? ((⟨w.heap.size, 0, none⟩ : Addr).add j) = some u := by
  intro j u hj
  match j, hj with
  | 0, hj => simp at hj; subst hj; simp [Addr.add]
  | 1, hj => simp at hj; subst hj; simp [Addr.add]
  | 2, hj => simp at hj; subst hj; simp [Addr.add]
theorem got_ok (s : ByteArray) {a : AttrD} (h : attrOfS s = some a) : okA a := by
  have ho := ((attrOfS_iff s a).1 h).1
  have hn := (word_size (ok_name ho)).2
  by_cases h0 : a.vals.length = 0
  · have hc := ok_cuts ho h0
    refine ⟨by omega, by omega, by omega, fun t ht => ?_⟩
    rw [List.eq_nil_of_length_eq_zero h0] at ht; cases ht
  · obtain ⟨hc, l2, l4, hwo⟩ := ok_vals ho h0
    refine ⟨by omega, by omega, by omega, fun t ht => ?_⟩
    have := (word_size (words_all hwo t ht)).2
    omega
theorem got_each : ∀ {ps : List ByteArray} {zs : List AttrD}, attrsOf ps = some zs → ∀ a ∈ zs, okA a
  | [], zs, h, a, ha => by simp [attrsOf] at h; subst h; cases ha
  | p :: r, zs, h, a, ha => by
    unfold attrsOf at h
    cases hp : attrOfS p with
    | none => rw [hp] at h; cases h
    | some x =>
      rw [hp] at h
      cases hr : attrsOf r with
      | none => rw [hr] at h; cases h
      | some l =>
        rw [hr] at h
        simp only [Option.some.injEq] at h
        subst h
        rcases List.mem_cons.1 ha with rfl | ha
        · exact got_ok p hp
        · exact got_each hr a ha
theorem res_sc1 {fn : Func} {p q : Tmp} (h : fn.results = #[.cell p 43, .tmp q]) (tmps : Array Value) (w : World) (g : Nat) (c0 c1 v : Value)
    (hp : tmps.getD p undef = .pointer (some ⟨g, 0, none⟩)) (hq : tmps.getD q undef = v) (hg : Blk 43 w g #[c0, c1]) : (results fn tmps).run Tryd.prog w = .ok (.tuple #[.agg #[c0, c1], v]) w := by
  have hp' : tmps[p]?.getD undef = .pointer (some ⟨g, 0, none⟩) := by simpa using hp
  have hq' : tmps[q]?.getD undef = v := by simpa using hq
  simp [results, h, hp', hq', asAddr, run_loadVar_row w g _ 43 _ _ _ hg Tryd.underlying43 rfl sch_size]
end Go.Proofs.YtlpjigpnpafkiabDoor
