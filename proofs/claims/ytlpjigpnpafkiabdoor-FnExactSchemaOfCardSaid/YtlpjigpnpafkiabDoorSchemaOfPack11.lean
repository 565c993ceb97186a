/- Texts of this claim, put together: part 11. -/
import Derived.Test.YtlpjigpnpafkiabDoorSchemaOfPack5
import Derived.Test.YtlpjigpnpafkiabDoorSchemaOfPack6
import Derived.Test.YtlpjigpnpafkiabDoorSchemaOfPack10
import Derived.Test.YtlpjigpnpafkiabDoorSchemaOfPack4
/- A schema of the call's own: no two of its lists share memory. -/
namespace Go.Proofs.YtlpjigpnpafkiabDoor
open Go.RowKit
set_option maxRecDepth 100000

/-- The attributes that a row leads to, each list in a block of its own. -/
structure SepL (base : Nat) (w : World) (v : Value) (L : Nat → Value × Value) (ys : List Value) (ls : List AttrD) (n : Nat) : Prop where
  row : w.ownsRow base 28 3 v n ys
  cells : ∀ j, j < n → ys[j * 3]? = some (.string (ad ls j).name) ∧ ys[j * 3 + 1]? = some (L j).1 ∧ ys[j * 3 + 2]? = some (L j).2
  ints : ∀ j, j < n → w.ownsRow base 3 1 (L j).1 (ad ls j).cuts.length ((ad ls j).cuts.map (Value.int .i64))
  strs : ∀ j, j < n → w.ownsRow base 9 1 (L j).2 (ad ls j).vals.length ((ad ls j).vals.map Value.string)
  ord1 : ∀ i j a b, i < j → j < n → (L i).1.ownBlock = some a → (L j).1.ownBlock = some b → a < b
  ord2 : ∀ i j a b, i < j → j < n → (L i).2.ownBlock = some a → (L j).2.ownBlock = some b → a < b
theorem SepL.nil (base : Nat) (w : World) (L : Nat → Value × Value) : SepL base w (.slice none 0 0) L [] [] 0 :=
  ⟨⟨by simp, .inl ⟨rfl, rfl⟩⟩, fun j hj => by omega, fun j hj => by omega, fun j hj => by omega, fun _ _ _ _ _ h => by omega, fun _ _ _ _ _ h => by omega⟩
theorem apart_t {w : World} {v v' : Value} {b b' e e' s s' n n' : Nat} {xs xs' : List Value} (h : w.ownsRow b e s v n xs) (h' : w.ownsRow b' e' s' v' n' xs') (he : e ≠ e') : v.ownBlock = none ∨ v.ownBlock ≠ v'.ownBlock := by
  rcases h.2 with ⟨rfl, _⟩ | ⟨g, cap, cur, rfl, _, hc, _⟩
  · exact .inl rfl
  · refine .inr fun eq => ?_
    rcases h'.2 with ⟨rfl, _⟩ | ⟨g', cap', cur', rfl, _, hc', _⟩
    · cases eq
    · injection eq with eq
      simp only at eq
      subst eq
      rw [hc] at hc'
      injection hc' with hc'
      injection hc' with _ h2 _
      exact he h2
theorem SepL.below {base : Nat} {w w' : World} {v : Value} {L : Nat → Value × Value} {ys : List Value} {ls : List AttrD} {n : Nat} (h : SepL base w v L ys ls n) (hb : Below w.heap.size w w') : SepL base w' v L ys ls n :=
  ⟨own_below h.row hb, h.cells, fun j hj => own_below (h.ints j hj) hb, fun j hj => own_below (h.strs j hj) hb, h.ord1, h.ord2⟩
theorem SepL.setCell {base : Nat} {w : World} {v : Value} {L : Nat → Value × Value} {ys : List Value} {ls : List AttrD} {n : Nat} (h : SepL base w v L ys ls n) (p : Addr) (u : Value) (hp : p.block < base) : SepL base (w.setCell p u) v L ys ls n :=
  ⟨own3_setCell h.row p u hp, h.cells, fun j hj => own_setCell (h.ints j hj) p u hp, fun j hj => own_setCell (h.strs j hj) p u hp, h.ord1, h.ord2⟩
theorem SepL.setRow {base : Nat} {w : World} {v : Value} {L : Nat → Value × Value} {ys : List Value} {ls : List AttrD} {n : Nat} (h : SepL base w v L ys ls n) (k : Nat) (c : Array Value) (hp : k < base) : SepL base (w.setRow k c) v L ys ls n :=
  ⟨own3_setRow h.row k c hp, h.cells, fun j hj => own_setRow (h.ints j hj) k c hp, fun j hj => own_setRow (h.strs j hj) k c hp, h.ord1, h.ord2⟩
theorem SepL.base {b b' : Nat} {w : World} {v : Value} {L : Nat → Value × Value} {ys : List Value} {ls : List AttrD} {n : Nat} (h : SepL b w v L ys ls n) (hb : b' ≤ b) : SepL b' w v L ys ls n :=
  ⟨own_base h.row hb, h.cells, fun j hj => own_base (h.ints j hj) hb, fun j hj => own_base (h.strs j hj) hb, h.ord1, h.ord2⟩
theorem ad_app {zs : List AttrD} {x : AttrD} {j : Nat} (h : j < zs.length) : ad (zs ++ [x]) j = ad zs j := by simp [ad, List.getElem?_append_left h]
theorem ad_last {zs : List AttrD} {x : AttrD} : ad (zs ++ [x]) zs.length = x := by simp [ad]
/-- One attribute more: its row grows, its lists lie behind all that was there. -/
theorem SepL.snoc {base b : Nat} {w w1 w' : World} {v v' : Value} {L : Nat → Value × Value} {ys : List Value} {zs : List AttrD} {n : Nat} {x : AttrD} {c1 c2 : Value} (h : SepL base w v L ys zs n) (hn : zs.length = n)
    (hb : ∀ j, j < n → (∀ a, (L j).1.ownBlock = some a → a < b) ∧ ∀ a, (L j).2.ownBlock = some a → a < b)
    (hw : ∀ {e m : Nat} {u : Value} {xs : List Value}, w.ownsRow base e 1 u m xs → w1.ownsRow base e 1 u m xs)
    (o1 : w1.ownsRow b 3 1 c1 x.cuts.length (x.cuts.map (Value.int .i64))) (o2 : w1.ownsRow b 9 1 c2 x.vals.length (x.vals.map Value.string)) (hbb : base ≤ b)
    (hr1 : w1.ownsRow base 28 3 v n ys) (hg : w1.grownBy w' v.ownBlock) (hr : w'.ownsRow base 28 3 v' (n + 1) (ys ++ [.string x.name, c1, c2])) :
    SepL base w' v' (fun j => if j = n then (c1, c2) else L j) (ys ++ [.string x.name, c1, c2]) (zs ++ [x]) (n + 1) := by
  have hl : ys.length = n * 3 := h.row.1
  have kp : ∀ {e m : Nat} {u : Value} {xs : List Value}, w1.ownsRow base e 1 u m xs → e ≠ 28 → w'.ownsRow base e 1 u m xs := fun ho he => ho.kept hg (apart_t ho hr1 he)
  refine ⟨hr, fun j hj => ?_, fun j hj => ?_, fun j hj => ?_, fun i j a c hij hj ha hc => ?_, fun i j a c hij hj ha hc => ?_⟩
  · by_cases e : j = n
    · subst e
      have e2 : ad (zs ++ [x]) j = x := by rw [← hn]; exact ad_last
      rw [e2, if_pos rfl]
      refine ⟨?_, ?_, ?_⟩
      · rw [List.getElem?_append_right (by omega), hl, Nat.sub_self]; rfl
      · rw [List.getElem?_append_right (by omega), hl, show j * 3 + 1 - j * 3 = 1 by omega]; rfl
      · rw [List.getElem?_append_right (by omega), hl, show j * 3 + 2 - j * 3 = 2 by omega]; rfl
    · have hj' : j < n := by omega
      rw [ad_app (by omega), if_neg e, List.getElem?_append_left (by omega), List.getElem?_append_left (by omega), List.getElem?_append_left (by omega)]
      exact h.cells j hj'
  · by_cases e : j = n
    · subst e
      have e2 : ad (zs ++ [x]) j = x := by rw [← hn]; exact ad_last
      rw [e2, if_pos rfl]
      exact kp (own_base o1 hbb) (by decide)
    · rw [ad_app (by omega), if_neg e]
      exact kp (hw (h.ints j (by omega))) (by decide)
  · by_cases e : j = n
    · subst e
      have e2 : ad (zs ++ [x]) j = x := by rw [← hn]; exact ad_last
      rw [e2, if_pos rfl]
      exact kp (own_base o2 hbb) (by decide)
    · rw [ad_app (by omega), if_neg e]
      exact kp (hw (h.strs j (by omega))) (by decide)
  · rw [if_neg (by omega)] at ha
    by_cases e : j = n
    · rw [if_pos e] at hc
      have h1 := (hb i (by omega)).1 a ha
      have h2 := (o1.lt c hc).1
      omega
    · rw [if_neg e] at hc
      exact h.ord1 i j a c hij (by omega) ha hc
  · rw [if_neg (by omega)] at ha
    by_cases e : j = n
    · rw [if_pos e] at hc
      have h1 := (hb i (by omega)).2 a ha
      have h2 := (o2.lt c hc).1
      omega
    · rw [if_neg e] at hc
      exact h.ord2 i j a c hij (by omega) ha hc
theorem SepL.own {base : Nat} {w : World} {v : Value} {L : Nat → Value × Value} {ys : List Value} {ls : List AttrD} (h : SepL base w v L ys ls ls.length) : OwnL base w v ls :=
  ⟨ys, h.row, fun j hj => ⟨_, _, (h.cells j hj).1, (h.cells j hj).2.1, (h.cells j hj).2.2, h.ints j hj, h.strs j hj⟩⟩
/-- A schema of the call's own, no two lists in one block. -/
def OwnSep (base : Nat) (w : World) (v : Value) (s : SchemaD) : Prop :=
  ∃ va vc L ys, v = .agg #[va, vc] ∧ SepL base w va L ys s.attrs s.attrs.length ∧ w.ownsRow base 9 1 vc s.classes.length (s.classes.map Value.string) ∧
    ∀ j c b, j < s.attrs.length → vc.ownBlock = some c → (L j).2.ownBlock = some b → c < b
theorem OwnSep.own {base : Nat} {w : World} {v : Value} {s : SchemaD} (h : OwnSep base w v s) : OwnS base w v s := by
  obtain ⟨va, vc, L, ys, rfl, h1, h2, _⟩ := h
  exact ⟨va, vc, rfl, h1.own, h2⟩
theorem OwnSep.empty (base : Nat) (w : World) : OwnSep base w (.agg #[.slice none 0 0, .slice none 0 0]) emptyS :=
  ⟨_, _, fun _ => (.slice none 0 0, .slice none 0 0), [], rfl, SepL.nil _ _ _, own_nilS _ _, fun j _ _ hj => by simp [emptyS] at hj⟩
theorem newc3 (w : World) (x y z : Value) (e : TypeId) : ∀ (j : Nat) (u : Value), [x, y, z][j]? = some u → (w.alloc (.cells #[x, y, z] e)).cell? ((⟨w.heap.size, 0, none⟩ : Addr).add j) = some u := by
  intro j u hj
  match j, hj with
  | 0, hj => simp at hj; subst hj; simp [Addr.add]
  | 1, hj => simp at hj; subst hj; simp [Addr.add]
  | 2, hj => simp at hj; subst hj; simp [Addr.add]
theorem got_ok (s : ByteArray) {a : AttrD} (h : attrOfS s = some a) : okA a := by
  have ho := ((attrOfS_iff s a).1 h).1
  have hn := (word_size (ok_name ho)).2
  by_cases h0 : a.vals.length = 0
  · have hc := ok_cuts ho h0
    refine ⟨by omega, by omega, by omega, fun t ht => ?_⟩
    rw [List.eq_nil_of_length_eq_zero h0] at ht; cases ht
  · obtain ⟨hc, l2, l4, hwo⟩ := ok_vals ho h0
    refine ⟨by omega, by omega, by omega, fun t ht => ?_⟩
    have := (word_size (words_all hwo t ht)).2
    omega
theorem got_each : ∀ {ps : List ByteArray} {zs : List AttrD}, attrsOf ps = some zs → ∀ a ∈ zs, okA a
  | [], zs, h, a, ha => by simp [attrsOf] at h; subst h; cases ha
  | p :: r, zs, h, a, ha => by
    unfold attrsOf at h
    cases hp : attrOfS p with
    | none => rw [hp] at h; cases h
    | some x =>
      rw [hp] at h
      cases hr : attrsOf r with
      | none => rw [hr] at h; cases h
      | some l =>
        rw [hr] at h
        simp only [Option.some.injEq] at h
        subst h
        rcases List.mem_cons.1 ha with rfl | ha
        · exact got_ok p hp
        · exact got_each hr a ha
theorem res_sc1 {fn : Func} {p q : Tmp} (h : fn.results = #[.cell p 43, .tmp q]) (tmps : Array Value) (w : World) (g : Nat) (c0 c1 v : Value)
    (hp : tmps.getD p undef = .pointer (some ⟨g, 0, none⟩)) (hq : tmps.getD q undef = v) (hg : Blk 43 w g #[c0, c1]) : (results fn tmps).run Tryd.prog w = .ok (.tuple #[.agg #[c0, c1], v]) w := by
  have hp' : tmps[p]?.getD undef = .pointer (some ⟨g, 0, none⟩) := by simpa using hp
  have hq' : tmps[q]?.getD undef = v := by simpa using hq
  simp [results, h, hp', hq', asAddr, run_loadVar_row w g _ 43 _ _ _ hg Tryd.underlying43 rfl sch_size]
end Go.Proofs.YtlpjigpnpafkiabDoor
/- Small facts on worlds that grow. -/
namespace Go.Proofs.YtlpjigpnpafkiabDoor
open Go.RowKit
set_option maxRecDepth 100000

theorem grownB {a b c : World} {r : Option Nat} (h : a.grownBy b r) (k : Below b.heap.size b c) : a.grownBy c r :=
  ⟨k.os.trans h.os, k.tape.trans h.tape, k.output.trans h.output, Nat.le_trans h.size k.size, fun j hj hr => (k.block j (Nat.lt_of_lt_of_le hj h.size)).trans (h.block j hj hr)⟩
theorem grownO {a b c : World} {r q : Option Nat} (h : a.grownBy b r) (k : b.grownBy c q) (hq : ∀ j, q = some j → a.heap.size ≤ j) : a.grownBy c r :=
  ⟨k.os.trans h.os, k.tape.trans h.tape, k.output.trans h.output, Nat.le_trans h.size k.size, fun j hj hr => (k.block j (Nat.lt_of_lt_of_le hj h.size) (fun e => by have := hq j e.symm; omega)).trans (h.block j hj hr)⟩
theorem grownC {a b : World} {g k : Nat} (h : a.grownBy b (some g)) (v : Value) : a.grownBy (b.setCell ⟨g, k, none⟩ v) (some g) :=
  ⟨h.os, h.tape, h.output, Nat.le_trans h.size (by simp [World.setCell]), fun j hj hne => by
    rw [← h.block j hj hne]
    simp only [World.setCell, Array.getElem?_modify]
    rw [if_neg (fun e => hne (by rw [← e]))]⟩
theorem belowG {n : Nat} {a b c : World} {g : Nat} (h : Below n a b) (k : b.grownBy c (some g)) (hg : n ≤ g) (hn : n ≤ b.heap.size) : Below n a c := h.grown k hn fun j hj => by cases hj; exact hg
theorem own_form {w : World} {b e s n : Nat} {v : Value} {xs : List Value} (h : w.ownsRow b e s v n xs) : ∃ a c, v = .slice a n c := by
  rcases h.2 with ⟨rfl, h0⟩ | ⟨g, cap, cur, hv, _⟩
  · exact ⟨none, 0, by rw [h0]⟩
  · exact ⟨_, _, hv⟩
theorem list2 {α : Type} {l : List α} (h : l.length = 2) : ∃ x y, l = [x, y] := by
  match l, h with
  | [x, y], _ => exact ⟨x, y, rfl⟩
theorem small2 {s x y : ByteArray} {b : UInt8} (h : pieces b s = [x, y]) : x.size ≤ s.size ∧ y.size ≤ s.size :=
  ⟨pieces_small b s x (by rw [h]; simp), pieces_small b s y (by rw [h]; simp)⟩
end Go.Proofs.YtlpjigpnpafkiabDoor
/- Whether a schema is right, by the program. -/
namespace Go.Proofs.YtlpjigpnpafkiabDoor
open Go.RowKit
set_option maxRecDepth 100000

theorem rel_stepT {w wr w1 : World} {v v' : Value} {done : List ByteArray} {b : ByteArray} {o : Obj} (hs : w.heap.size ≤ wr.heap.size) (hb : Below w.heap.size w wr) (hown : wr.ownsRow w.heap.size 9 1 v done.length (done.map Value.string))
    (hown' : w1.ownsRow w.heap.size 9 1 v' (done.length + 1) (done.map Value.string ++ [.string b])) (hgrow : (wr.alloc o).grownBy w1 v.ownBlock) :
    w1.ownsRow w.heap.size 9 1 v' (done ++ [b]).length ((done ++ [b]).map Value.string) ∧ Below w.heap.size w w1 := by
  refine ⟨by simpa using hown', (hb.alloc hs o).grown hgrow (by simp; omega) fun k hk => (hown.lt k hk).1⟩

set_option maxHeartbeats 1600000 in
theorem implSchemaOk_any (v : Value) (s : SchemaD) (w : World) (h : SchemaAt w v s) (hn : okSch s) :
    Calls Tryd.prog 48 #[v] w fun e w' => e = .returned (.bool (schemaOk s)) ∧ Below w.heap.size w w' := by
  obtain ⟨i0, hi, hz0, hz1, hz2⟩ := info_parts strInfo
  obtain ⟨va, vc, rfl, ha, hc⟩ := h
  obtain ⟨oa, ca, rfl, hca, har⟩ := id ha
  obtain ⟨oc, cc, rfl, hcc, hcr⟩ := id hc
  have HAR : Hid (RowA w (.slice oa s.attrs.length ca) s.attrs) := ha
  have HCR : Hid (RowS w (.slice oc s.classes.length cc) s.classes) := hc
  have HO : Hid (okSch s) := hn
  have la := hn.attrs
  clear ha hc har hcr hn
  by_cases h1 : (s.attrs.length : Int) < 1
  · have HF : Hid (schemaOk s = false) := by unfold schemaOk; rw [decide_eq_false (by omega)]; rfl
    go_enter Tryd.func48, Tryd.ntmps48
    go_wp2
    go_ret
    exact ⟨by rw [HF.out]; rfl, (Below.refl _ _).alloc (Nat.le_refl _) _⟩
  by_cases h5 : (s.attrs.length : Int) ≤ 5
  rotate_left
  · have HF : Hid (schemaOk s = false) := by unfold schemaOk; rw [decide_eq_false (by omega)]; rfl
    go_enter Tryd.func48, Tryd.ntmps48
    go_wp2
    go_ret
    exact ⟨by rw [HF.out]; rfl, (Below.refl _ _).alloc (Nat.le_refl _) _⟩
  have HW : Hid (schemaOk s = (choices s.classes 3 && attrsOk s.attrs)) := by unfold schemaOk; rw [decide_eq_true (by omega)]; rfl
  obtain ⟨ls, has⟩ : ∃ ls, s.attrs = ls := ⟨_, rfl⟩
  obtain ⟨g, o, rfl, hg, hj⟩ : ∃ g o, oa = some ⟨g, o, none⟩ ∧ g < w.heap.size ∧ ∀ j, j < ls.length → CellsA w g (o + j * 3) (ad ls j) := by
    obtain ⟨oa', cap', e, _, hr⟩ := HAR.out
    obtain ⟨g, o, e', hg, hj⟩ := hr (by omega)
    injection e with e1 e2 e3
    exact ⟨g, o, by rw [e1, e'], hg, by rw [← has]; exact hj⟩
  have HJ : Hid (∀ j, j < ls.length → CellsA w g (o + j * 3) (ad ls j)) := hj
  have HE : Hid (∀ j, j < ls.length → okA (ad ls j)) := fun j hj => HO.out.each _ (by rw [has]; exact ad_mem hj)
  rw [has] at h1 h5 la hca
  have HAS : Hid (s.attrs = ls) := has
  clear hj HAR
  go_enter Tryd.func48, Tryd.ntmps48
  rw [has]
  clear has
  go_wp2
  go_loopw [3, 5, 19] (fun v _ i wr => ∃ k : Nat, i = .int .i64 k ∧ k ≤ ls.length ∧ (∀ j, j < k → attrAt ls j = true) ∧ wr.ownsRow (w.heap.size + 1) 9 1 v k ((nmsB ls k).map Value.string) ∧
      Blk 43 wr w.heap.size #[.slice (some ⟨g, o, none⟩) ls.length ca, .slice oc s.classes.length cc] ∧ Below w.heap.size w wr) (fun _ _ i _ => ls.length - (intOf i).toNat)
  case atStart =>
    refine ⟨0, rfl, by omega, by omega, ?_, Blk.new _ _ _, (Below.refl _ _).alloc (Nat.le_refl _) _⟩
    exact ⟨by simp [nmsB], .inl ⟨rfl, rfl⟩⟩
  case round =>
    obtain ⟨k, rfl, hk, hal, hown, hblk, hb⟩ := hrel
    have HA : Hid (∀ j, j < k → attrAt ls j = true) := hal
    have HB : Hid (Blk 43 wr w.heap.size #[.slice (some ⟨g, o, none⟩) ls.length ca, .slice oc s.classes.length cc]) := hblk
    clear hal hblk
    by_cases hlt : k < ls.length
    · have HOW := hown
      obtain ⟨vc, vv, q0, q1, q2, r1, r2⟩ := (HJ.out k hlt).later hb hg
      obtain ⟨o1, c1, rfl, -, -⟩ := id r1
      obtain ⟨o2, c2, rfl, -, -⟩ := id r2
      have HX : Hid (AttrAt wr (.agg #[.string (ad ls k).name, .slice o1 (ad ls k).cuts.length c1, .slice o2 (ad ls k).vals.length c2]) (ad ls k)) := ⟨_, _, rfl, r1, r2⟩
      have hok := HE.out k hlt
      have HK : Hid (okA (ad ls k)) := hok
      clear r1 r2 hok
      obtain ⟨K, B0⟩ := blk_1 28 wr #[.string (ad ls k).name, .slice o1 (ad ls k).cuts.length c1, .slice o2 (ad ls k).vals.length c2]
      have c := implAttrOk_any _ (ad ls k) _ (HX.out.later B0) HK.out
      cases hw : attrOk (ad ls k) with
      | false =>
        have HF : Hid (attrsOk ls = false) := attrs_no k hlt (attrAt_no1 hw)
        rw [hw] at c
        clear hw
        go_wp2_with fail
        refine c.mono ?_
        rintro e w1 ⟨rfl, hb1⟩
        clear c
        go_wp2
        go_ret
        refine ⟨by rw [HW.out, HAS.out, HF.out, Bool.and_false]; rfl, (hb.trans (B0.mono hb.size)).trans (hb1.mono ?_)⟩
        have := hb.size
        simp; omega
      | true =>
        have HWK : Hid (attrOk (ad ls k) = true) := hw
        rw [hw] at c
        clear hw
        go_wp2_with fail
        refine c.mono ?_
        rintro e w1 ⟨rfl, hb1⟩
        clear c
        have B1 := B0.trans (hb1.mono (by simp))
        have hb2 := hb.trans (B1.mono hb.size)
        have hown1 := own_below hown B1
        have kn : w1.cell? ⟨wr.heap.size, 0, none⟩ = some (.string (ad ls k).name) := (K.below hb1).cell 0
        have HB1 : Hid (Blk 43 w1 w.heap.size #[.slice (some ⟨g, o, none⟩) ls.length ca, .slice oc s.classes.length cc]) := HB.out.below B1
        have HKB : Hid (Blk 28 w1 wr.heap.size #[.string (ad ls k).name, .slice o1 (ad ls k).cuts.length c1, .slice o2 (ad ls k).vals.length c2]) := K.below hb1
        clear K B0 B1 hb1 q0 q1 q2 hown HOW
        have c2 := contains_any _ (nmsB ls k) (ad ls k).name w1 (RowS.of_own hown1 (nmsB_len hk)) (by rw [nmsB_len hk]; omega)
        cases ht : hasT (nmsB ls k) (ad ls k).name with
        | true =>
          have HF : Hid (attrsOk ls = false) := attrs_no k hlt (attrAt_no2 ht)
          rw [ht] at c2
          clear ht
          go_wp2_with fail
          refine c2.mono ?_
          rintro e w2 ⟨rfl, hb3⟩
          clear c2
          go_wp2
          go_ret
          exact ⟨by rw [HW.out, HAS.out, HF.out, Bool.and_false]; rfl, hb2.trans (hb3.mono hb2.size)⟩
        | false =>
          have HF : Hid (attrAt ls k = true) := attrAt_yes HWK.out ht
          rw [ht] at c2
          clear ht
          go_wp2_with fail
          refine c2.mono ?_
          rintro e w2 ⟨rfl, hb3⟩
          clear c2 kn
          have kn : w2.cell? ⟨wr.heap.size, 0, none⟩ = some (.string (ad ls k).name) := (HKB.out.below hb3).cell 0
          have hb4 := hb2.trans (hb3.mono hb2.size)
          have hown2 := own_below hown1 hb3
          have HB2 : Hid (Blk 43 w2 w.heap.size #[.slice (some ⟨g, o, none⟩) ls.length ca, .slice oc s.classes.length cc]) := HB1.out.below hb3
          have HSZ : Hid (Below w.heap.size w w2) := hb4
          have hsz2 := hb4.size
          have HLT := HB2.out.lt
          clear hb2 hb3 hown1 hb HB HB1 HKB
          have HNM : Hid (nmsB ls (k + 1) = nmsB ls k ++ [(ad ls k).name]) := nmsB_succ hlt
          have HNL : Hid ((nmsB ls k).length = k) := nmsB_len hk
          generalize (ad ls k).name = nm at kn HNM
          go_wp2_with (at_builtin; refine wpList_append_own _ rfl _ _ 23 rfl (w.heap.size + 1) 9 i0 (.string ⟨#[]⟩) 1 16 Tryd.underlying23 hi hz0 hz1 hz2 rfl (by decide) _ _ _ rfl (hown2.alloc _) ⟨w2.heap.size, 0, none⟩ 1 1 [_] rfl rfl (newc _ _ _) ?d2 ?d3 ?d4 ?d5 ?_)
          case d2 => intro u hu; simp at hu; subst hu; rfl
          case d3 => unfold maxLen; omega
          case d4 => omega
          case d5 => simp; omega
          intro v' w3 hown' hgrow _
          have R : w3.ownsRow (w.heap.size + 1) 9 1 v' (k + 1) ((nmsB ls (k + 1)).map Value.string) := by rw [HNM.out]; simpa using hown'
          have BL : Blk 43 w3 w.heap.size #[.slice (some ⟨g, o, none⟩) ls.length ca, .slice oc s.classes.length cc] := by
            refine Blk.kept (HB2.out.alloc _) hgrow (fun e => ?_)
            have := (hown2.lt _ e).1; omega
          have BB : Below w.heap.size w w3 := (HSZ.out.alloc hsz2 _).grown hgrow (by simp; omega) fun j hj => by have := (hown2.lt j hj).1; omega
          clear hown' hgrow hown2
          go_wp2
          go_roundw
          case rel =>
            refine ⟨k + 1, by go_num, by omega, ?_, R, BL, BB⟩
            intro j hj
            by_cases e : j = k
            · subst e; exact HF.out
            · exact HA.out j (by omega)
          case measure => simp [intOf]; omega
    · have HF : Hid (attrsOk ls = true) := attrs_yes fun j hj => HA.out j (by omega)
      have kc : wr.cell? ⟨w.heap.size, 1, none⟩ = some (.slice oc s.classes.length cc) := HB.out.cell 1
      have c := implChoices_any _ s.classes 3 wr (HCR.out.later hb) HO.out.classes
      clear hown
      go_wp2_with fail
      refine c.mono ?_
      rintro e w1 ⟨rfl, hb1⟩
      clear c
      go_wp2
      go_ret
      exact ⟨by rw [HW.out, HAS.out, HF.out, Bool.and_true]; rfl, hb.trans (hb1.mono hb.size)⟩
end Go.Proofs.YtlpjigpnpafkiabDoor
/- A text read as a schema, by the program. -/
namespace Go.Proofs.YtlpjigpnpafkiabDoor
open Go.RowKit
set_option maxRecDepth 100000

set_option maxHeartbeats 6400000 in
theorem implSchemaOf_any (s : ByteArray) (u : TypeId) (ev : Value) (m : Int) (w : World) (hs : s.size ≤ 1048576) (hE : Env u ev m w) :
    Calls Tryd.prog 22 #[.string s] w fun e w' => ∃ v, e = .returned (.tuple #[v, .bool (schemaOf s).isSome]) ∧ OwnSep w.heap.size w' v ((schemaOf s).getD emptyS) ∧ Below w.heap.size w w' := by
  obtain ⟨i0, hi, hz0, hz1, hz2⟩ := info_parts atInfo
  obtain ⟨K1, B0⟩ := blk_1 43 w #[.slice none 0 0, .slice none 0 0]
  have HE : Hid (Env u ev m w) := hE
  clear hE
  have cP := iParts_any s 124 u ev m (w.alloc (.cells #[.slice none 0 0, .slice none 0 0] 43)) hs (HE.out.later B0)
  go_enter Tryd.func22, Tryd.ntmps22
  go_wp2_with fail
  refine cP.mono ?_
  rintro e w1 ⟨v1, rfl, ho1, hb1⟩
  clear cP
  have B1 := B0.trans (hb1.mono B0.size)
  have l1 := K1.lt
  replace K1 := K1.below hb1
  have ho1 := own_base ho1 (b' := w.heap.size + 1) (by omega)
  clear hb1 B0
  obtain ⟨oa, ca, hv1, hc1, hr1⟩ := RowS.of_own ho1 rfl
  subst hv1
  by_cases h2 : (pieces 124 s).length = 2
  rotate_left
  · have HF : Hid (schemaOf s = none) := sof_no0 (psch_len h2)
    have hq : (((pieces 124 s).length : Int) == 2) = false := by rw [beq_eq_false_iff_ne]; omega
    have HB : Hid (Blk 43 w1 w.heap.size #[.slice none 0 0, .slice none 0 0]) := K1
    have HBE : Hid (Below w.heap.size w w1) := B1
    clear K1 B1 ho1 hr1 h2
    go_wp2_with (with_reducible refine wp_sc_store rfl _ _ rfl ?_; refine ⟨_, rfl, _, _, _, _, _, _, rfl, _, _, HB.out, ?_⟩)
    refine bodyPost_ret (res_sc1 Tryd.results22 _ _ _ _ _ _ rfl rfl (HB.out.setRow _)) rfl ?_
    rw [HF.out]
    exact ⟨_, rfl, OwnSep.empty _ _, below_row HBE.out (Nat.le_refl _) _⟩
  obtain ⟨x, y, hxy⟩ := list2 h2
  obtain ⟨sx, sy⟩ := small2 hxy
  have HNO : Hid (attrsOf (pieces 59 x) = none → preSch s = none) := fun h => psch_no hxy h
  have HYES : Hid (∀ ls, attrsOf (pieces 59 x) = some ls → preSch s = some ⟨ls, pieces 44 y⟩) := fun ls h => psch_yes hxy h
  obtain ⟨g, o, rfl, hg, hj⟩ := hr1 (by omega)
  have q0 := hj 0 (by omega)
  have q1 := hj 1 (by omega)
  rw [hxy] at q0 q1 hc1
  have q0 : w1.cell? ⟨g, o, none⟩ = some (.string x) := q0
  have q1 : w1.cell? ⟨g, o + 1, none⟩ = some (.string y) := q1
  rw [hxy]
  have hc1' : 2 ≤ ca := hc1
  clear hj hc1 h2 ho1
  have lw1 := K1.lt
  have cY := iParts_any y 44 u ev m w1 (by omega) (HE.out.later B1)
  have hpl : (pieces 59 x).length ≤ 1048577 := by have := pieces_len 59 x; omega
  have HPS : Hid (∀ p ∈ pieces 59 x, p.size ≤ 1048576) := fun p hp => by have := pieces_small 59 x p hp; omega
  have HCL : Hid (okS (pieces 44 y)) := okS_pieces (by omega) 44
  generalize pieces 44 y = cls at cY HYES HCL
  go_wp2_with fail
  refine cY.mono ?_
  rintro e w2 ⟨v2, rfl, ho2, hb2⟩
  clear cY
  have B2 := B1.trans (hb2.mono B1.size)
  replace K1 := K1.below hb2
  have q0 := (hb2.cell (p := ⟨g, o, none⟩) hg).trans q0
  have hg2 : g < w2.heap.size := Nat.lt_of_lt_of_le hg hb2.size
  have l1 := hb2.size
  have lK := K1.lt
  have ho2 := own_base ho2 (b' := w.heap.size + 1) (by omega)
  clear hb2 B1 q1
  obtain ⟨oc, cc, hv2, -, -⟩ := RowS.of_own ho2 rfl
  subst hv2
  obtain ⟨KD, BD⟩ := blk_1 43 w2 #[.slice none 0 0, .slice oc cls.length cc]
  have q0' : (w2.alloc (.cells #[.slice none 0 0, .slice oc cls.length cc] 43)).cell? ⟨g, o, none⟩ = some (.string x) := (World.cell?_alloc_past _ g o hg2).trans q0
  have B3 := B2.trans (BD.mono B2.size)
  have cX := iParts_any x 59 u ev m (w2.alloc (.cells #[.slice none 0 0, .slice oc cls.length cc] 43)) (by omega) (HE.out.later B3)
  generalize pieces 59 x = ps at cX HNO HYES hpl HPS
  replace K1 := K1.below BD
  have HLC : Hid (∀ k, (Value.slice oc cls.length cc).ownBlock = some k → w.heap.size + 1 ≤ k ∧ k < w2.heap.size) := ho2.lt
  have ho3 := own_below ho2 BD
  clear BD B2 ho2
  go_wp2_with fail
  refine cX.mono ?_
  rintro e w3 ⟨v3, rfl, hop, hb3⟩
  clear cX q0 q0'
  have HB3 : Hid (Below w.heap.size w w3) := B3.trans (hb3.mono B3.size)
  have HS1 : Hid (Blk 43 w3 w.heap.size #[.slice none 0 0, .slice none 0 0]) := K1.below hb3
  have HS2 : Hid (Blk 43 w3 w2.heap.size #[.slice none 0 0, .slice oc cls.length cc]) := KD.below hb3
  have HOC : Hid (w3.ownsRow (w.heap.size + 1) 9 1 (.slice oc cls.length cc) cls.length (cls.map Value.string)) := own_below ho3 hb3
  have hsz3 := hb3.size
  rw [World.size_alloc] at hsz3 hop
  clear B3 hb3 K1 KD ho3
  obtain ⟨ol, cl, hv3, hcl, hrl⟩ := RowS.of_own hop rfl
  subst hv3
  have HLB : Hid (∀ k, (Value.slice ol ps.length cl).ownBlock = some k → w2.heap.size + 1 ≤ k) := fun k hk => (hop.lt k hk).1
  have HRL : Hid (0 < ps.length → ∃ g o, ol = some ⟨g, o, none⟩ ∧ g < w3.heap.size ∧ ∀ j, j < ps.length → w3.cell? ⟨g, o + j, none⟩ = some (.string (tx ps j))) := hrl
  clear hop hrl
  go_wp2
  go_loopw [26] (fun i wr => ∃ (k : Nat) (zs : List AttrD) (v : Value) (L : Nat → Value × Value) (ys : List Value), i = .int .i64 k ∧ k ≤ ps.length ∧ attrsOf (ps.take k) = some zs ∧ SepL w3.heap.size wr v L ys zs k ∧ Blk 43 wr w2.heap.size #[v, .slice oc cls.length cc] ∧ w3.grownBy wr (some w2.heap.size)) (fun i _ => ps.length - (intOf i).toNat)
  case atStart => exact ⟨0, [], .slice none 0 0, fun _ => (.slice none 0 0, .slice none 0 0), [], rfl, by omega, rfl, SepL.nil _ _ _, HS2.out, World.grownBy.refl _ _⟩
  case round =>
    obtain ⟨k, zs, v, L, ys, rfl, hk, hzs, hsep, hblk, hgr⟩ := hrel
    have HZ : Hid (attrsOf (ps.take k) = some zs) := hzs
    have HZL : Hid (zs.length = k) := by have := attrs_len hzs; show zs.length = k; rw [this]; simp; omega
    have HSEP : Hid (SepL w3.heap.size wr v L ys zs k) := hsep
    have HGR : Hid (w3.grownBy wr (some w2.heap.size)) := hgr
    have HBL : Hid (Blk 43 wr w2.heap.size #[v, .slice oc cls.length cc]) := hblk
    have HRR : Hid (Blk 43 wr w.heap.size #[.slice none 0 0, .slice none 0 0]) := HS1.out.kept hgr (by simp; omega)
    have HBW0 : Hid (Below w.heap.size w wr) := belowG HB3.out hgr (by omega) HB3.out.size
    have HOCR : Hid (wr.ownsRow (w.heap.size + 1) 9 1 (.slice oc cls.length cc) cls.length (cls.map Value.string)) := HOC.out.kept hgr (by
      cases e : (Value.slice oc cls.length cc).ownBlock with
      | none => exact .inl rfl
      | some b => refine .inr ?_; have := (HLC.out b e).2; simp; omega)
    have hszr := hgr.size
    clear hzs hgr hblk hsep
    by_cases hlt : k < ps.length
    · obtain ⟨gl, ol', rfl, hgl, hj⟩ := HRL.out (by omega)
      have hgl2 := HLB.out gl rfl
      have hcell : wr.cell? ⟨gl, ol' + k, none⟩ = some (.string (tx ps k)) := (World.cell?_of_block (HGR.out.block gl hgl (by simp; omega))).trans (hj k hlt)
      clear hj
      have cA := implAttrOf_any (tx ps k) u ev m wr (HPS.out _ (tx_mem hlt)) (HE.out.later HBW0.out)
      rw [attrOf_one] at cA
      cases hx : attrOfS (tx ps k) with
      | none =>
        have HF : Hid (schemaOf s = none) := sof_no0 (HNO.out (attrs_stop hlt HZ.out hx))
        rw [hx] at cA
        simp only [Option.isSome_none, Option.getD_none] at cA
        clear hx
        go_wp2_with fail
        refine cA.mono ?_
        rintro e w4 ⟨v4, rfl, ho4, -, hb4⟩
        clear cA hcell
        obtain ⟨y1, y2, rfl, rr1, rr2⟩ := id ho4
        obtain ⟨p1, d1, rfl, -, -⟩ := RowI.of_own rr1 rfl
        obtain ⟨p2, d2, rfl, -, -⟩ := RowS.of_own rr2 rfl
        clear rr1 rr2 ho4
        obtain ⟨KA, BA⟩ := blk_1 28 w4 #[.string emptyA.name, .slice p1 emptyA.cuts.length d1, .slice p2 emptyA.vals.length d2]
        have HB : Hid (Blk 43 (w4.alloc (.cells #[.string emptyA.name, .slice p1 emptyA.cuts.length d1, .slice p2 emptyA.vals.length d2] 28)) w.heap.size #[.slice none 0 0, .slice none 0 0]) := (HRR.out.below hb4).below BA
        have HBE : Hid (Below w.heap.size w (w4.alloc (.cells #[.string emptyA.name, .slice p1 emptyA.cuts.length d1, .slice p2 emptyA.vals.length d2] 28))) := by
          have h1 := HBW0.out.trans (hb4.mono HBW0.out.size)
          exact h1.trans (BA.mono h1.size)
        clear hb4 KA BA
        go_wp2_with (with_reducible refine wp_sc_store rfl _ _ rfl ?_; refine ⟨_, rfl, _, _, _, _, _, _, rfl, _, _, HB.out, ?_⟩)
        refine bodyPost_ret (res_sc1 Tryd.results22 _ _ _ _ _ _ rfl rfl (HB.out.setRow _)) rfl ?_
        rw [HF.out]
        exact ⟨_, rfl, OwnSep.empty _ _, below_row HBE.out (Nat.le_refl _) _⟩
      | some a =>
        have HN2 : Hid (attrsOf (ps.take (k + 1)) = some (zs ++ [a])) := attrs_step hlt HZ.out hx
        rw [hx] at cA
        simp only [Option.isSome_some, Option.getD_some] at cA
        clear hx
        go_wp2_with fail
        refine cA.mono ?_
        rintro e w4 ⟨v4, rfl, ho4, -, hb4⟩
        clear cA hcell
        obtain ⟨y1, y2, rfl, rr1, rr2⟩ := ho4
        obtain ⟨p1, d1, hp1, -, -⟩ := RowI.of_own rr1 rfl
        obtain ⟨p2, d2, hp2, -, -⟩ := RowS.of_own rr2 rfl
        subst hp1 hp2
        obtain ⟨KA, BA⟩ := blk_1 28 w4 #[.string a.name, .slice p1 a.cuts.length d1, .slice p2 a.vals.length d2]
        have BB4 := hb4.trans (BA.mono hb4.size)
        have HG5 : Hid (w3.grownBy (w4.alloc (.cells #[.string a.name, .slice p1 a.cuts.length d1, .slice p2 a.vals.length d2] 28)) (some w2.heap.size)) := grownB HGR.out BB4
        have HA5 : Hid (Blk 43 (w4.alloc (.cells #[.string a.name, .slice p1 a.cuts.length d1, .slice p2 a.vals.length d2] 28)) w2.heap.size #[v, .slice oc cls.length cc]) := HBL.out.below BB4
        have HR5 : Hid (Blk 43 (w4.alloc (.cells #[.string a.name, .slice p1 a.cuts.length d1, .slice p2 a.vals.length d2] 28)) w.heap.size #[.slice none 0 0, .slice none 0 0]) := HRR.out.below BB4
        have hrow5 := own_below HSEP.out.row BB4
        have HI5 : Hid ((w4.alloc (.cells #[.string a.name, .slice p1 a.cuts.length d1, .slice p2 a.vals.length d2] 28)).ownsRow wr.heap.size 3 1 (.slice p1 a.cuts.length d1) a.cuts.length (a.cuts.map (Value.int .i64)) ∧ (w4.alloc (.cells #[.string a.name, .slice p1 a.cuts.length d1, .slice p2 a.vals.length d2] 28)).ownsRow wr.heap.size 9 1 (.slice p2 a.vals.length d2) a.vals.length (a.vals.map Value.string)) := ⟨own_below rr1 BA, own_below rr2 BA⟩
        have HBB : Hid (Below wr.heap.size wr (w4.alloc (.cells #[.string a.name, .slice p1 a.cuts.length d1, .slice p2 a.vals.length d2] 28))) := BB4
        have k0 : (w4.alloc (.cells #[.string a.name, .slice p1 a.cuts.length d1, .slice p2 a.vals.length d2] 28)).cell? ⟨w2.heap.size, 0, none⟩ = some v := HA5.out.cell 0
        have hz4 := hb4.size
        clear hb4 KA BA BB4 rr1 rr2
        go_wp2_with (at_builtin; go_loud (refine wpList_append_own _ rfl _ _ 41 rfl w3.heap.size 28 i0 (.agg #[.string ⟨#[]⟩, .slice none 0 0, .slice none 0 0]) 3 64 Tryd.underlying41 hi hz0 hz1 hz2 ?d6 ?d7 v k ys rfl ?d8 ⟨w4.heap.size + 1, 0, none⟩ 1 1 [.string a.name, .slice p1 a.cuts.length d1, .slice p2 a.vals.length d2] rfl rfl ?d1 ?d2 ?d3 ?d4 ?d5 ?_))
        case d6 => rfl
        case d7 => decide
        case d8 => exact hrow5.alloc _
        case d1 =>
          have := newc3 (w4.alloc (.cells #[.string a.name, .slice p1 a.cuts.length d1, .slice p2 a.vals.length d2] 28)) (.string a.name) (.slice p1 a.cuts.length d1) (.slice p2 a.vals.length d2) 28
          rw [World.size_alloc] at this
          exact this
        case d2 => intro u hu; simp at hu; rcases hu with rfl | rfl | rfl <;> rfl
        case d3 => unfold maxLen; omega
        case d4 => omega
        case d5 => simp; omega
        intro v' w5 hown' hgrow _
        have hl5 := hrow5.lt
        have SE := HSEP.out.snoc (b := wr.heap.size) (w1 := ((w4.alloc (.cells #[.string a.name, .slice p1 a.cuts.length d1, .slice p2 a.vals.length d2] 28)).alloc (.cells #[.string a.name, .slice p1 a.cuts.length d1, .slice p2 a.vals.length d2] 28))) HZL.out
          (fun j hj => ⟨fun b hb => ((HSEP.out.ints j hj).lt b hb).2, fun b hb => ((HSEP.out.strs j hj).lt b hb).2⟩)
          (fun ho => (own_below ho HBB.out).alloc _) (HI5.out.1.alloc _) (HI5.out.2.alloc _) hszr (hrow5.alloc _) hgrow hown'
        have HG6 : Hid (w3.grownBy w5 (some w2.heap.size)) := grownO (grownB HG5.out ((Below.refl _ _).alloc (Nat.le_refl _) _)) hgrow fun j hj => (hl5 j hj).1
        have HA6 : Hid (Blk 43 w5 w2.heap.size #[v, .slice oc cls.length cc]) := (HA5.out.alloc _).kept hgrow fun e => by have := (hl5 _ e).1; omega
        obtain ⟨on, cn, hvn⟩ := own_form hown'
        subst hvn
        clear hown' hgrow hrow5 hl5 k0
        have c5 : w5.cell? ⟨w2.heap.size, 0, none⟩ = some v := HA6.out.cell 0
        have f5 := HA6.out.frozen 0
        have SE6 := SE.setCell ⟨w2.heap.size, 0, none⟩ (.slice on (k + 1) cn) (by show w2.heap.size < _; omega)
        have BL6 : Blk 43 (w5.setCell ⟨w2.heap.size, 0, none⟩ (.slice on (k + 1) cn)) w2.heap.size #[.slice on (k + 1) cn, .slice oc cls.length cc] := HA6.out.setCell 0 _
        have HX : Hid (SepL w3.heap.size (w5.setCell ⟨w2.heap.size, 0, none⟩ (.slice on (k + 1) cn)) (.slice on (k + 1) cn) (fun j => if j = k then (.slice p1 a.cuts.length d1, .slice p2 a.vals.length d2) else L j) (ys ++ [.string a.name, .slice p1 a.cuts.length d1, .slice p2 a.vals.length d2]) (zs ++ [a]) (k + 1) ∧ Blk 43 (w5.setCell ⟨w2.heap.size, 0, none⟩ (.slice on (k + 1) cn)) w2.heap.size #[.slice on (k + 1) cn, .slice oc cls.length cc] ∧ w3.grownBy (w5.setCell ⟨w2.heap.size, 0, none⟩ (.slice on (k + 1) cn)) (some w2.heap.size)) := ⟨SE6, BL6, grownC HG6.out _⟩
        clear SE SE6 BL6
        go_wp2
        go_roundw
        case rel => exact ⟨k + 1, _, _, _, _, by go_num, by omega, HN2.out, HX.out.1, HX.out.2.1, HX.out.2.2⟩
        case measure => simp [intOf]; omega
    · obtain rfl : k = ps.length := by omega
      have hN := HZ.out
      rw [List.take_length] at hN
      have HPR : Hid (preSch s = some ⟨zs, cls⟩) := HYES.out zs hN
      have HOK : Hid (okSch ⟨zs, cls⟩) := ⟨by show zs.length ≤ _; rw [HZL.out]; omega, got_each hN, HCL.out⟩
      have hsz : SepL w3.heap.size wr v L ys zs zs.length := by rw [HZL.out]; exact HSEP.out
      have HSZ : Hid (SepL w3.heap.size wr v L ys zs zs.length) := hsz
      obtain ⟨on, cn, hvn⟩ := own_form HSEP.out.row
      subst hvn
      clear hN hsz HSEP
      have HD : Hid (Blk 43 wr w2.heap.size #[.slice on ps.length cn, .slice oc cls.length cc]) := HBL.out
      have c := implSchemaOk_any (.agg #[.slice on ps.length cn, .slice oc cls.length cc]) ⟨zs, cls⟩ wr ⟨_, _, rfl, HSZ.out.own.at, RowS.of_own HOCR.out rfl⟩ HOK.out
      cases hw : schemaOk ⟨zs, cls⟩ with
      | false =>
        have HF : Hid (schemaOf s = none) := sof_no1 HPR.out hw
        rw [hw] at c
        clear hw
        go_wp2_with (with_reducible refine wp_sc_load rfl _ rfl ?_; refine ⟨_, rfl, _, _, HD.out, ?_⟩)
        refine c.mono ?_
        rintro e w7 ⟨rfl, hb7⟩
        clear c
        have HB : Hid (Blk 43 w7 w.heap.size #[.slice none 0 0, .slice none 0 0]) := HRR.out.below hb7
        have HBE : Hid (Below w.heap.size w w7) := HBW0.out.trans (hb7.mono HBW0.out.size)
        clear hb7
        go_wp2_with (with_reducible refine wp_sc_store rfl _ _ rfl ?_; refine ⟨_, rfl, _, _, _, _, _, _, rfl, _, _, HB.out, ?_⟩)
        refine bodyPost_ret (res_sc1 Tryd.results22 _ _ _ _ _ _ rfl rfl (HB.out.setRow _)) rfl ?_
        rw [HF.out]
        exact ⟨_, rfl, OwnSep.empty _ _, below_row HBE.out (Nat.le_refl _) _⟩
      | true =>
        have HF : Hid (schemaOf s = some ⟨zs, cls⟩) := sof_yes HPR.out hw
        rw [hw] at c
        clear hw
        go_wp2_with (with_reducible refine wp_sc_load rfl _ rfl ?_; refine ⟨_, rfl, _, _, HD.out, ?_⟩)
        refine c.mono ?_
        rintro e w7 ⟨rfl, hb7⟩
        clear c
        have HB : Hid (Blk 43 w7 w.heap.size #[.slice none 0 0, .slice none 0 0]) := HRR.out.below hb7
        have HD7 : Hid (Blk 43 w7 w2.heap.size #[.slice on ps.length cn, .slice oc cls.length cc]) := HD.out.below hb7
        have HBE : Hid (Below w.heap.size w w7) := HBW0.out.trans (hb7.mono HBW0.out.size)
        have S7 := HSZ.out.below hb7
        have O7 := own_below HOCR.out hb7
        clear hb7 HD
        go_wp2_with (first | (with_reducible refine wp_sc_load rfl _ rfl ?_; refine ⟨_, rfl, _, _, HD7.out, ?_⟩) | (with_reducible refine wp_sc_store rfl _ _ rfl ?_; refine ⟨_, rfl, _, _, _, _, _, _, rfl, _, _, HB.out, ?_⟩))
        refine bodyPost_ret (res_sc1 Tryd.results22 _ _ _ _ _ _ rfl rfl (HB.out.setRow _)) rfl ?_
        rw [HF.out]
        refine ⟨_, rfl, ⟨_, _, L, ys, rfl, (S7.setRow _ _ (by omega)).base (by omega), own_base (own_setRow O7 _ _ (by omega)) (by omega), fun j c b hj hc hb => ?_⟩, below_row HBE.out (Nat.le_refl _) _⟩
        have h1 := (HLC.out c hc).2
        have h2 := ((S7.strs j hj).lt b hb).1
        omega
end Go.Proofs.YtlpjigpnpafkiabDoor
