/- Texts of this claim, put together: part 17. -/
import Derived.Test.YtndnplpmkkdieaaGreatDoorFnSchemaReadPack15
import Derived.Test.YtndnplpmkkdieaaGreatDoorFnSchemaReadPack16
import Derived.Test.YtndnplpmkkdieaaGreatDoorFnSchemaReadPack12
import Derived.Test.YtndnplpmkkdieaaGreatDoorFnSchemaReadPack6
import Derived.Test.YtndnplpmkkdieaaGreatDoorFnSchemaReadPack3
import Derived.Test.YtndnplpmkkdieaaGreatDoorFnSchemaReadPack5
/- A text read as an attribute, by the program. -/
namespace Go.Proofs.YtndnplpmkkdieaaGreatDoor
open Go.RowKit
set_option maxRecDepth 100000

def emptyA : AttrD := ⟨⟨#[]⟩, [], []⟩
theorem ext_le {s : ByteArray} (a b : Nat) : (s.extract a b).size ≤ s.size := by rw [ByteArray.size_extract]; omega
theorem okS_pieces {s : ByteArray} (hs : s.size ≤ 1048576) (b : UInt8) : okS (pieces b s) :=
  ⟨by have := pieces_len b s; omega, fun p hp => by have := pieces_small b s p hp; omega⟩
theorem okA_read {s : ByteArray} (hs : s.size ≤ 1048576) : okA (attrReadI s).1 := by
  have hnil : okS [] := ⟨by simp, fun _ h => by cases h⟩
  unfold attrReadI
  cases s.data.toList.findIdx? isSign with
  | none => exact ⟨Nat.zero_le _, by simp, hnil⟩
  | some k =>
    have h1 : (s.extract 0 k).size ≤ 1099511627776 := by have := ext_le (s := s) 0 k; omega
    have h2 : (s.extract (k + 1) s.size).size ≤ 1048576 := by have := ext_le (s := s) (k + 1) s.size; omega
    simp only [readI]
    split
    · exact ⟨h1, by simp, okS_pieces h2 44⟩
    · cases hn : numsOf (pieces 44 (s.extract (k + 1) s.size)) with
      | none => exact ⟨h1, by simp, hnil⟩
      | some zs =>
        refine ⟨h1, ?_, hnil⟩
        have := nums_len hn
        have := pieces_len 44 (s.extract (k + 1) s.size)
        simp only
        omega
theorem ofI_no1 {s : ByteArray} (h : (attrReadI s).2 = false) : attrOfI s = none := by unfold attrOfI; rw [if_neg (by rw [h]; simp)]
theorem ofI_no2 {s : ByteArray} (h : attrOk (attrReadI s).1 = false) : attrOfI s = none := by unfold attrOfI; rw [if_neg (by rw [h]; simp)]
theorem ofI_yes {s : ByteArray} (h : (attrReadI s).2 = true) (h2 : attrOk (attrReadI s).1 = true) : attrOfI s = some (attrReadI s).1 := by unfold attrOfI; rw [if_pos ⟨h, h2⟩]
theorem own_empty (w : World) (b : Nat) : OwnA b w (.agg #[.string ⟨#[]⟩, .slice none 0 0, .slice none 0 0]) emptyA := ⟨_, _, rfl, own_nilI _ _, own_nilS _ _⟩
theorem OwnA.below {b : Nat} {w w' : World} {v : Value} {a : AttrD} (h : OwnA b w v a) (hb : Below w.heap.size w w') : OwnA b w' v a := by
  obtain ⟨vc, vv, rfl, h1, h2⟩ := h
  exact ⟨vc, vv, rfl, own_below h1 hb, own_below h2 hb⟩
theorem OwnA.setRow {b : Nat} {w : World} {v : Value} {a : AttrD} (h : OwnA b w v a) (k : Nat) (c : Array Value) (hk : k < b) : OwnA b (w.setRow k c) v a := by
  obtain ⟨vc, vv, rfl, h1, h2⟩ := h
  exact ⟨vc, vv, rfl, own_setRow h1 k c hk, own_setRow h2 k c hk⟩
theorem OwnA.base {b b' : Nat} {w : World} {v : Value} {a : AttrD} (h : OwnA b w v a) (hb : b' ≤ b) : OwnA b' w v a := by
  obtain ⟨vc, vv, rfl, h1, h2⟩ := h
  exact ⟨vc, vv, rfl, own_base h1 hb, own_base h2 hb⟩

set_option maxHeartbeats 1600000 in
theorem implAttrOf_any (s : ByteArray) (u : TypeId) (ev : Value) (m : Int) (w : World) (hs : s.size ≤ 1048576) (hE : Env u ev m w) :
    Calls Tryz.prog 18 #[.string s] w fun e w' => ∃ v, e = .returned (.tuple #[v, .bool (attrOfI s).isSome]) ∧ OwnA w.heap.size w' v ((attrOfI s).getD emptyA) ∧ OneNil v ∧ Below w.heap.size w w' := by
  obtain ⟨K0, B0⟩ := blk_1 41 w #[.string ⟨#[]⟩, .slice none 0 0, .slice none 0 0]
  have cR := attrRead_any s u ev m _ hs (hE.later B0)
  have hok := okA_read hs
  have HN1 : Hid ((attrReadI s).2 = false → attrOfI s = none) := ofI_no1
  have HN2 : Hid (attrOk (attrReadI s).1 = false → attrOfI s = none) := ofI_no2
  have HY : Hid ((attrReadI s).2 = true → attrOk (attrReadI s).1 = true → attrOfI s = some (attrReadI s).1) := ofI_yes
  generalize attrReadI s = R at cR hok HN1 HN2 HY
  obtain ⟨a, b⟩ := R
  have HO : Hid (okA a) := hok
  simp only at cR
  clear hok hE
  go_enter Tryz.func18, Tryz.ntmps18
  go_wp2_with fail
  refine cR.mono ?_
  rintro e w1 ⟨v1, rfl, ho1, hn1, hb1⟩
  clear cR
  have HNIL : Hid (OneNil v1) := hn1
  clear hn1
  have B1 := B0.trans (hb1.mono B0.size)
  have K1 := K0.below hb1
  have l0 := K0.lt
  have ho1 := ho1.base (b' := w.heap.size + 1) (by omega)
  clear B0 K0 hb1
  have HX : Hid (AttrAt w1 v1 a) := ho1.at
  have HOW : Hid (OwnA (w.heap.size + 1) w1 v1 a) := ho1
  obtain ⟨vc, vv, hv1, h1, h2⟩ := ho1
  obtain ⟨oc, cc, hvc, -, -⟩ := RowI.of_own h1 rfl
  obtain ⟨ov, cv, hvv, -, -⟩ := RowS.of_own h2 rfl
  clear h1 h2
  subst hvc hvv hv1
  obtain ⟨KA, BA⟩ := blk_1 41 w1 #[.string a.name, .slice oc a.cuts.length cc, .slice ov a.vals.length cv]
  have K2 := K1.below BA
  have B2 := B1.trans (BA.mono B1.size)
  cases b with
  | false =>
    have HF : Hid (attrOfI s = none) := HN1.out rfl
    have HB : Hid (Blk 41 (w1.alloc (.cells #[.string a.name, .slice oc a.cuts.length cc, .slice ov a.vals.length cv] 41)) w.heap.size #[.string ⟨#[]⟩, .slice none 0 0, .slice none 0 0]) := K2
    have HB2 : Hid (Below w.heap.size w (w1.alloc (.cells #[.string a.name, .slice oc a.cuts.length cc, .slice ov a.vals.length cv] 41))) := B2
    clear K1 K2 B1 B2 KA BA
    go_wp2_with (with_reducible refine wp_at_store rfl _ _ rfl ?_; refine ⟨_, rfl, _, _, _, _, _, _, _, rfl, _, _, _, HB.out, ?_⟩)
    refine bodyPost_ret (res_at1 Tryz.results18 _ _ _ _ _ _ _ rfl rfl (HB.out.setRow _)) rfl ?_
    rw [HF.out]
    exact ⟨_, rfl, own_empty _ _, ⟨_, _, _, rfl, .inl rfl⟩, below_row HB2.out (Nat.le_refl _) _⟩
  | true =>
    have c := implAttrOk_any _ a _ (HX.out.later BA) HO.out
    cases hw : attrOk a with
    | false =>
      have HF : Hid (attrOfI s = none) := HN2.out hw
      rw [hw] at c
      clear hw K1 B1
      go_wp2_with fail
      refine c.mono ?_
      rintro e w2 ⟨rfl, hb2⟩
      clear c
      have HB : Hid (Blk 41 w2 w.heap.size #[.string ⟨#[]⟩, .slice none 0 0, .slice none 0 0]) := K2.below hb2
      have HB2 : Hid (Below w.heap.size w w2) := B2.trans (hb2.mono B2.size)
      clear K2 B2 KA BA hb2
      go_wp2_with (with_reducible refine wp_at_store rfl _ _ rfl ?_; refine ⟨_, rfl, _, _, _, _, _, _, _, rfl, _, _, _, HB.out, ?_⟩)
      refine bodyPost_ret (res_at1 Tryz.results18 _ _ _ _ _ _ _ rfl rfl (HB.out.setRow _)) rfl ?_
      rw [HF.out]
      exact ⟨_, rfl, own_empty _ _, ⟨_, _, _, rfl, .inl rfl⟩, below_row HB2.out (Nat.le_refl _) _⟩
    | true =>
      have HF : Hid (attrOfI s = some a) := HY.out rfl hw
      rw [hw] at c
      clear hw K1 B1
      go_wp2_with fail
      refine c.mono ?_
      rintro e w2 ⟨rfl, hb2⟩
      clear c
      have HB : Hid (Blk 41 w2 w.heap.size #[.string ⟨#[]⟩, .slice none 0 0, .slice none 0 0]) := K2.below hb2
      have HA : Hid (Blk 41 w2 w1.heap.size #[.string a.name, .slice oc a.cuts.length cc, .slice ov a.vals.length cv]) := KA.below hb2
      have HB2 : Hid (Below w.heap.size w w2) := B2.trans (hb2.mono B2.size)
      have HO2 := (HOW.out.below BA).below hb2
      clear K2 B2 KA BA hb2
      go_wp2_with (first | (with_reducible refine wp_at_load rfl _ rfl ?_; refine ⟨_, rfl, _, _, _, HA.out, ?_⟩) | (with_reducible refine wp_at_store rfl _ _ rfl ?_; refine ⟨_, rfl, _, _, _, _, _, _, _, rfl, _, _, _, HB.out, ?_⟩))
      refine bodyPost_ret (res_at1 Tryz.results18 _ _ _ _ _ _ _ rfl rfl (HB.out.setRow _)) rfl ?_
      rw [HF.out]
      exact ⟨_, rfl, (HO2.setRow _ _ (by omega)).base (by omega), HNIL.out, below_row HB2.out (Nat.le_refl _) _⟩
end Go.Proofs.YtndnplpmkkdieaaGreatDoor
/- A schema of the call's own: no two of its lists share memory. -/
namespace Go.Proofs.YtndnplpmkkdieaaGreatDoor
open Go.RowKit
set_option maxRecDepth 100000

/-- The attributes that a row leads to, each list in a block of its own. -/
structure SepL (base : Nat) (w : World) (v : Value) (L : Nat → Value × Value) (ys : List Value) (ls : List AttrD) (n : Nat) : Prop where
  row : w.ownsRow base 41 3 v n ys
  cells : ∀ j, j < n → ys[j * 3]? = some (.string (ad ls j).name) ∧ ys[j * 3 + 1]? = some (L j).1 ∧ ys[j * 3 + 2]? = some (L j).2
  ints : ∀ j, j < n → w.ownsRow base 3 1 (L j).1 (ad ls j).cuts.length ((ad ls j).cuts.map (Value.int .i64))
  strs : ∀ j, j < n → w.ownsRow base 9 1 (L j).2 (ad ls j).vals.length ((ad ls j).vals.map Value.string)
  ord1 : ∀ i j a b, i < j → j < n → (L i).1.ownBlock = some a → (L j).1.ownBlock = some b → a < b
  ord2 : ∀ i j a b, i < j → j < n → (L i).2.ownBlock = some a → (L j).2.ownBlock = some b → a < b
theorem SepL.nil (base : Nat) (w : World) (L : Nat → Value × Value) : SepL base w (.slice none 0 0) L [] [] 0 :=
  ⟨⟨by simp, .inl ⟨rfl, rfl⟩⟩, fun j hj => by omega, fun j hj => by omega, fun j hj => by omega, fun _ _ _ _ _ h => by omega, fun _ _ _ _ _ h => by omega⟩
theorem apart_t {w : World} {v v' : Value} {b b' e e' s s' n n' : Nat} {xs xs' : List Value} (h : w.ownsRow b e s v n xs) (h' : w.ownsRow b' e' s' v' n' xs') (he : e ≠ e') : v.ownBlock = none ∨ v.ownBlock ≠ v'.ownBlock := by
  rcases h.2 with ⟨rfl, _⟩ | ⟨g, cap, cur, rfl, _, hc, _⟩
  · exact .inl rfl
  · refine .inr fun eq => ?_
    rcases h'.2 with ⟨rfl, _⟩ | ⟨g', cap', cur', rfl, _, hc', _⟩
    · cases eq
    · injection eq with eq
      simp only at eq
      subst eq
      rw [hc] at hc'
      injection hc' with hc'
      injection hc' with _ h2 _
      exact he h2
theorem SepL.below {base : Nat} {w w' : World} {v : Value} {L : Nat → Value × Value} {ys : List Value} {ls : List AttrD} {n : Nat} (h : SepL base w v L ys ls n) (hb : Below w.heap.size w w') : SepL base w' v L ys ls n :=
  ⟨own_below h.row hb, h.cells, fun j hj => own_below (h.ints j hj) hb, fun j hj => own_below (h.strs j hj) hb, h.ord1, h.ord2⟩
theorem SepL.setCell {base : Nat} {w : World} {v : Value} {L : Nat → Value × Value} {ys : List Value} {ls : List AttrD} {n : Nat} (h : SepL base w v L ys ls n) (p : Addr) (u : Value) (hp : p.block < base) : SepL base (w.setCell p u) v L ys ls n :=
  ⟨own3_setCell h.row p u hp, h.cells, fun j hj => own_setCell (h.ints j hj) p u hp, fun j hj => own_setCell (h.strs j hj) p u hp, h.ord1, h.ord2⟩
theorem SepL.setRow {base : Nat} {w : World} {v : Value} {L : Nat → Value × Value} {ys : List Value} {ls : List AttrD} {n : Nat} (h : SepL base w v L ys ls n) (k : Nat) (c : Array Value) (hp : k < base) : SepL base (w.setRow k c) v L ys ls n :=
  ⟨own3_setRow h.row k c hp, h.cells, fun j hj => own_setRow (h.ints j hj) k c hp, fun j hj => own_setRow (h.strs j hj) k c hp, h.ord1, h.ord2⟩
theorem SepL.base {b b' : Nat} {w : World} {v : Value} {L : Nat → Value × Value} {ys : List Value} {ls : List AttrD} {n : Nat} (h : SepL b w v L ys ls n) (hb : b' ≤ b) : SepL b' w v L ys ls n :=
  ⟨own_base h.row hb, h.cells, fun j hj => own_base (h.ints j hj) hb, fun j hj => own_base (h.strs j hj) hb, h.ord1, h.ord2⟩
theorem ad_app {zs : List AttrD} {x : AttrD} {j : Nat} (h : j < zs.length) : ad (zs ++ [x]) j = ad zs j := by simp [ad, List.getElem?_append_left h]
theorem ad_last {zs : List AttrD} {x : AttrD} : ad (zs ++ [x]) zs.length = x := by simp [ad]
/-- One attribute more: its row grows, its lists lie behind all that was there. -/
theorem SepL.snoc {base b : Nat} {w w1 w' : World} {v v' : Value} {L : Nat → Value × Value} {ys : List Value} {zs : List AttrD} {n : Nat} {x : AttrD} {c1 c2 : Value} (h : SepL base w v L ys zs n) (hn : zs.length = n)
    (hb : ∀ j, j < n → (∀ a, (L j).1.ownBlock = some a → a < b) ∧ ∀ a, (L j).2.ownBlock = some a → a < b)
    (hw : ∀ {e m : Nat} {u : Value} {xs : List Value}, w.ownsRow base e 1 u m xs → w1.ownsRow base e 1 u m xs)
    (o1 : w1.ownsRow b 3 1 c1 x.cuts.length (x.cuts.map (Value.int .i64))) (o2 : w1.ownsRow b 9 1 c2 x.vals.length (x.vals.map Value.string)) (hbb : base ≤ b)
    (hr1 : w1.ownsRow base 41 3 v n ys) (hg : w1.grownBy w' v.ownBlock) (hr : w'.ownsRow base 41 3 v' (n + 1) (ys ++ [.string x.name, c1, c2])) :
    SepL base w' v' (fun j => if j = n then (c1, c2) else L j) (ys ++ [.string x.name, c1, c2]) (zs ++ [x]) (n + 1) := by
  have hl : ys.length = n * 3 := h.row.1
  have kp : ∀ {e m : Nat} {u : Value} {xs : List Value}, w1.ownsRow base e 1 u m xs → e ≠ 41 → w'.ownsRow base e 1 u m xs := fun ho he => ho.kept hg (apart_t ho hr1 he)
  refine ⟨hr, fun j hj => ?_, fun j hj => ?_, fun j hj => ?_, fun i j a c hij hj ha hc => ?_, fun i j a c hij hj ha hc => ?_⟩
  · by_cases e : j = n
    · subst e
      have e2 : ad (zs ++ [x]) j = x := by rw [← hn]; exact ad_last
      rw [e2, if_pos rfl]
      refine ⟨?_, ?_, ?_⟩
      · rw [List.getElem?_append_right (by omega), hl, Nat.sub_self]; rfl
      · rw [List.getElem?_append_right (by omega), hl, show j * 3 + 1 - j * 3 = 1 by omega]; rfl
      · rw [List.getElem?_append_right (by omega), hl, show j * 3 + 2 - j * 3 = 2 by omega]; rfl
    · have hj' : j < n := by omega
      rw [ad_app (by omega), if_neg e, List.getElem?_append_left (by omega), List.getElem?_append_left (by omega), List.getElem?_append_left (by omega)]
      exact h.cells j hj'
  · by_cases e : j = n
    · subst e
      have e2 : ad (zs ++ [x]) j = x := by rw [← hn]; exact ad_last
      rw [e2, if_pos rfl]
      exact kp (own_base o1 hbb) (by decide)
    · rw [ad_app (by omega), if_neg e]
      exact kp (hw (h.ints j (by omega))) (by decide)
  · by_cases e : j = n
    · subst e
      have e2 : ad (zs ++ [x]) j = x := by rw [← hn]; exact ad_last
      rw [e2, if_pos rfl]
      exact kp (own_base o2 hbb) (by decide)
    · rw [ad_app (by omega), if_neg e]
      exact kp (hw (h.strs j (by omega))) (by decide)
  · rw [if_neg (by omega)] at ha
    by_cases e : j = n
    · rw [if_pos e] at hc
      have h1 := (hb i (by omega)).1 a ha
      have h2 := (o1.lt c hc).1
      omega
    · rw [if_neg e] at hc
      exact h.ord1 i j a c hij (by omega) ha hc
  · rw [if_neg (by omega)] at ha
    by_cases e : j = n
    · rw [if_pos e] at hc
      have h1 := (hb i (by omega)).2 a ha
      have h2 := (o2.lt c hc).1
      omega
    · rw [if_neg e] at hc
      exact h.ord2 i j a c hij (by omega) ha hc
theorem SepL.own {base : Nat} {w : World} {v : Value} {L : Nat → Value × Value} {ys : List Value} {ls : List AttrD} (h : SepL base w v L ys ls ls.length) : OwnL base w v ls :=
  ⟨ys, h.row, fun j hj => ⟨_, _, (h.cells j hj).1, (h.cells j hj).2.1, (h.cells j hj).2.2, h.ints j hj, h.strs j hj⟩⟩
/-- A schema of the call's own, no two lists in one block. -/
def OwnSep (base : Nat) (w : World) (v : Value) (s : SchemaD) : Prop :=
  ∃ va vc L ys, v = .agg #[va, vc] ∧ SepL base w va L ys s.attrs s.attrs.length ∧ w.ownsRow base 9 1 vc s.classes.length (s.classes.map Value.string) ∧
    ∀ j c b, j < s.attrs.length → vc.ownBlock = some c → (L j).2.ownBlock = some b → c < b
theorem OwnSep.own {base : Nat} {w : World} {v : Value} {s : SchemaD} (h : OwnSep base w v s) : OwnS base w v s := by
  obtain ⟨va, vc, L, ys, rfl, h1, h2, _⟩ := h
  exact ⟨va, vc, rfl, h1.own, h2⟩
theorem OwnSep.empty (base : Nat) (w : World) : OwnSep base w (.agg #[.slice none 0 0, .slice none 0 0]) emptyS :=
  ⟨_, _, fun _ => (.slice none 0 0, .slice none 0 0), [], rfl, SepL.nil _ _ _, own_nilS _ _, fun j _ _ hj => by simp [emptyS] at hj⟩
theorem newc3 (w : World) (x y z : Value) (e : TypeId) : ∀ (j : Nat) (u : Value), [x, y, z][j]? = some u → (w.alloc (.cells #[x, y, z] e)).cell? ((⟨w.heap.size, 0, none⟩ : Addr).add j) = some u := by
  intro j u hj
  match j, hj with
  | 0, hj => simp at hj; subst hj; simp [Addr.add]
  | 1, hj => simp at hj; subst hj; simp [Addr.add]
  | 2, hj => simp at hj; subst hj; simp [Addr.add]
theorem got_ok (s : ByteArray) {a : AttrD} (h : attrOfS s = some a) : okA a := by
  have ho := ((attrOfS_iff s a).1 h).1
  have hn := (word_size (ok_name ho)).2
  by_cases h0 : a.vals.length = 0
  · have hc := ok_cuts ho h0
    refine ⟨by omega, by omega, by omega, fun t ht => ?_⟩
    rw [List.eq_nil_of_length_eq_zero h0] at ht; cases ht
  · obtain ⟨hc, l2, l4, hwo⟩ := ok_vals ho h0
    refine ⟨by omega, by omega, by omega, fun t ht => ?_⟩
    have := (word_size (words_all hwo t ht)).2
    omega
theorem got_each : ∀ {ps : List ByteArray} {zs : List AttrD}, attrsOf ps = some zs → ∀ a ∈ zs, okA a
  | [], zs, h, a, ha => by simp [attrsOf] at h; subst h; cases ha
  | p :: r, zs, h, a, ha => by
    unfold attrsOf at h
    cases hp : attrOfS p with
    | none => rw [hp] at h; cases h
    | some x =>
      rw [hp] at h
      cases hr : attrsOf r with
      | none => rw [hr] at h; cases h
      | some l =>
        rw [hr] at h
        simp only [Option.some.injEq] at h
        subst h
        rcases List.mem_cons.1 ha with rfl | ha
        · exact got_ok p hp
        · exact got_each hr a ha
theorem res_sc1 {fn : Func} {p q : Tmp} (h : fn.results = #[.cell p 27, .tmp q]) (tmps : Array Value) (w : World) (g : Nat) (c0 c1 v : Value)
    (hp : tmps.getD p undef = .pointer (some ⟨g, 0, none⟩)) (hq : tmps.getD q undef = v) (hg : Blk 27 w g #[c0, c1]) : (results fn tmps).run Tryz.prog w = .ok (.tuple #[.agg #[c0, c1], v]) w := by
  have hp' : tmps[p]?.getD undef = .pointer (some ⟨g, 0, none⟩) := by simpa using hp
  have hq' : tmps[q]?.getD undef = v := by simpa using hq
  simp [results, h, hp', hq', asAddr, run_loadVar_row w g _ 27 _ _ _ hg Tryz.underlying27 rfl sch_size]
end Go.Proofs.YtndnplpmkkdieaaGreatDoor
/- Small facts on worlds that grow. -/
namespace Go.Proofs.YtndnplpmkkdieaaGreatDoor
open Go.RowKit
set_option maxRecDepth 100000

theorem grownB {a b c : World} {r : Option Nat} (h : a.grownBy b r) (k : Below b.heap.size b c) : a.grownBy c r :=
  ⟨k.os.trans h.os, k.tape.trans h.tape, k.output.trans h.output, Nat.le_trans h.size k.size, fun j hj hr => (k.block j (Nat.lt_of_lt_of_le hj h.size)).trans (h.block j hj hr)⟩
theorem grownO {a b c : World} {r q : Option Nat} (h : a.grownBy b r) (k : b.grownBy c q) (hq : ∀ j, q = some j → a.heap.size ≤ j) : a.grownBy c r :=
  ⟨k.os.trans h.os, k.tape.trans h.tape, k.output.trans h.output, Nat.le_trans h.size k.size, fun j hj hr => (k.block j (Nat.lt_of_lt_of_le hj h.size) (fun e => by have := hq j e.symm; omega)).trans (h.block j hj hr)⟩
theorem grownC {a b : World} {g k : Nat} (h : a.grownBy b (some g)) (v : Value) : a.grownBy (b.setCell ⟨g, k, none⟩ v) (some g) :=
  ⟨h.os, h.tape, h.output, Nat.le_trans h.size (by simp [World.setCell]), fun j hj hne => by
    rw [← h.block j hj hne]
    simp only [World.setCell, Array.getElem?_modify]
    rw [if_neg (fun e => hne (by rw [← e]))]⟩
theorem belowG {n : Nat} {a b c : World} {g : Nat} (h : Below n a b) (k : b.grownBy c (some g)) (hg : n ≤ g) (hn : n ≤ b.heap.size) : Below n a c := h.grown k hn fun j hj => by cases hj; exact hg
theorem own_form {w : World} {b e s n : Nat} {v : Value} {xs : List Value} (h : w.ownsRow b e s v n xs) : ∃ a c, v = .slice a n c := by
  rcases h.2 with ⟨rfl, h0⟩ | ⟨g, cap, cur, hv, _⟩
  · exact ⟨none, 0, by rw [h0]⟩
  · exact ⟨_, _, hv⟩
theorem list2 {α : Type} {l : List α} (h : l.length = 2) : ∃ x y, l = [x, y] := by
  match l, h with
  | [x, y], _ => exact ⟨x, y, rfl⟩
theorem small2 {s x y : ByteArray} {b : UInt8} (h : pieces b s = [x, y]) : x.size ≤ s.size ∧ y.size ≤ s.size :=
  ⟨pieces_small b s x (by rw [h]; simp), pieces_small b s y (by rw [h]; simp)⟩
end Go.Proofs.YtndnplpmkkdieaaGreatDoor
/- Whether a schema is right, by the program. -/
namespace Go.Proofs.YtndnplpmkkdieaaGreatDoor
open Go.RowKit
set_option maxRecDepth 100000

theorem rel_stepT {w wr w1 : World} {v v' : Value} {done : List ByteArray} {b : ByteArray} {o : Obj} (hs : w.heap.size ≤ wr.heap.size) (hb : Below w.heap.size w wr) (hown : wr.ownsRow w.heap.size 9 1 v done.length (done.map Value.string))
    (hown' : w1.ownsRow w.heap.size 9 1 v' (done.length + 1) (done.map Value.string ++ [.string b])) (hgrow : (wr.alloc o).grownBy w1 v.ownBlock) :
    w1.ownsRow w.heap.size 9 1 v' (done ++ [b]).length ((done ++ [b]).map Value.string) ∧ Below w.heap.size w w1 := by
  refine ⟨by simpa using hown', (hb.alloc hs o).grown hgrow (by simp; omega) fun k hk => (hown.lt k hk).1⟩

set_option maxHeartbeats 1600000 in
theorem implSchemaOk_any (v : Value) (s : SchemaD) (w : World) (h : SchemaAt w v s) (hn : okSch s) :
    Calls Tryz.prog 14 #[v] w fun e w' => e = .returned (.bool (schemaOk s)) ∧ Below w.heap.size w w' := by
  obtain ⟨i0, hi, hz0, hz1, hz2⟩ := info_parts strInfo
  obtain ⟨va, vc, rfl, ha, hc⟩ := h
  obtain ⟨oa, ca, rfl, hca, har⟩ := id ha
  obtain ⟨oc, cc, rfl, hcc, hcr⟩ := id hc
  have HAR : Hid (RowA w (.slice oa s.attrs.length ca) s.attrs) := ha
  have HCR : Hid (RowS w (.slice oc s.classes.length cc) s.classes) := hc
  have HO : Hid (okSch s) := hn
  have la := hn.attrs
  clear ha hc har hcr hn
  by_cases h1 : (s.attrs.length : Int) < 1
  · have HF : Hid (schemaOk s = false) := by unfold schemaOk; rw [decide_eq_false (by omega)]; rfl
    go_enter Tryz.func14, Tryz.ntmps14
    go_wp2
    go_ret
    exact ⟨by rw [HF.out]; rfl, (Below.refl _ _).alloc (Nat.le_refl _) _⟩
  by_cases h5 : (s.attrs.length : Int) ≤ 5
  rotate_left
  · have HF : Hid (schemaOk s = false) := by unfold schemaOk; rw [decide_eq_false (by omega)]; rfl
    go_enter Tryz.func14, Tryz.ntmps14
    go_wp2
    go_ret
    exact ⟨by rw [HF.out]; rfl, (Below.refl _ _).alloc (Nat.le_refl _) _⟩
  have HW : Hid (schemaOk s = (choices s.classes 3 && attrsOk s.attrs)) := by unfold schemaOk; rw [decide_eq_true (by omega)]; rfl
  obtain ⟨ls, has⟩ : ∃ ls, s.attrs = ls := ⟨_, rfl⟩
  obtain ⟨g, o, rfl, hg, hj⟩ : ∃ g o, oa = some ⟨g, o, none⟩ ∧ g < w.heap.size ∧ ∀ j, j < ls.length → CellsA w g (o + j * 3) (ad ls j) := by
    obtain ⟨oa', cap', e, _, hr⟩ := HAR.out
    obtain ⟨g, o, e', hg, hj⟩ := hr (by omega)
    injection e with e1 e2 e3
    exact ⟨g, o, by rw [e1, e'], hg, by rw [← has]; exact hj⟩
  have HJ : Hid (∀ j, j < ls.length → CellsA w g (o + j * 3) (ad ls j)) := hj
  have HE : Hid (∀ j, j < ls.length → okA (ad ls j)) := fun j hj => HO.out.each _ (by rw [has]; exact ad_mem hj)
  rw [has] at h1 h5 la hca
  have HAS : Hid (s.attrs = ls) := has
  clear hj HAR
  go_enter Tryz.func14, Tryz.ntmps14
  rw [has]
  clear has
  go_wp2
  go_loopw [3, 5, 19] (fun v _ i wr => ∃ k : Nat, i = .int .i64 k ∧ k ≤ ls.length ∧ (∀ j, j < k → attrAt ls j = true) ∧ wr.ownsRow (w.heap.size + 1) 9 1 v k ((nmsB ls k).map Value.string) ∧
      Blk 27 wr w.heap.size #[.slice (some ⟨g, o, none⟩) ls.length ca, .slice oc s.classes.length cc] ∧ Below w.heap.size w wr) (fun _ _ i _ => ls.length - (intOf i).toNat)
  case atStart =>
    refine ⟨0, rfl, by omega, by omega, ?_, Blk.new _ _ _, (Below.refl _ _).alloc (Nat.le_refl _) _⟩
    exact ⟨by simp [nmsB], .inl ⟨rfl, rfl⟩⟩
  case round =>
    obtain ⟨k, rfl, hk, hal, hown, hblk, hb⟩ := hrel
    have HA : Hid (∀ j, j < k → attrAt ls j = true) := hal
    have HB : Hid (Blk 27 wr w.heap.size #[.slice (some ⟨g, o, none⟩) ls.length ca, .slice oc s.classes.length cc]) := hblk
    clear hal hblk
    by_cases hlt : k < ls.length
    · have HOW := hown
      obtain ⟨vc, vv, q0, q1, q2, r1, r2⟩ := (HJ.out k hlt).later hb hg
      obtain ⟨o1, c1, rfl, -, -⟩ := id r1
      obtain ⟨o2, c2, rfl, -, -⟩ := id r2
      have HX : Hid (AttrAt wr (.agg #[.string (ad ls k).name, .slice o1 (ad ls k).cuts.length c1, .slice o2 (ad ls k).vals.length c2]) (ad ls k)) := ⟨_, _, rfl, r1, r2⟩
      have hok := HE.out k hlt
      have HK : Hid (okA (ad ls k)) := hok
      clear r1 r2 hok
      obtain ⟨K, B0⟩ := blk_1 41 wr #[.string (ad ls k).name, .slice o1 (ad ls k).cuts.length c1, .slice o2 (ad ls k).vals.length c2]
      have c := implAttrOk_any _ (ad ls k) _ (HX.out.later B0) HK.out
      cases hw : attrOk (ad ls k) with
      | false =>
        have HF : Hid (attrsOk ls = false) := attrs_no k hlt (attrAt_no1 hw)
        rw [hw] at c
        clear hw
        go_wp2_with fail
        refine c.mono ?_
        rintro e w1 ⟨rfl, hb1⟩
        clear c
        go_wp2
        go_ret
        refine ⟨by rw [HW.out, HAS.out, HF.out, Bool.and_false]; rfl, (hb.trans (B0.mono hb.size)).trans (hb1.mono ?_)⟩
        have := hb.size
        simp; omega
      | true =>
        have HWK : Hid (attrOk (ad ls k) = true) := hw
        rw [hw] at c
        clear hw
        go_wp2_with fail
        refine c.mono ?_
        rintro e w1 ⟨rfl, hb1⟩
        clear c
        have B1 := B0.trans (hb1.mono (by simp))
        have hb2 := hb.trans (B1.mono hb.size)
        have hown1 := own_below hown B1
        have kn : w1.cell? ⟨wr.heap.size, 0, none⟩ = some (.string (ad ls k).name) := (K.below hb1).cell 0
        have HB1 : Hid (Blk 27 w1 w.heap.size #[.slice (some ⟨g, o, none⟩) ls.length ca, .slice oc s.classes.length cc]) := HB.out.below B1
        have HKB : Hid (Blk 41 w1 wr.heap.size #[.string (ad ls k).name, .slice o1 (ad ls k).cuts.length c1, .slice o2 (ad ls k).vals.length c2]) := K.below hb1
        clear K B0 B1 hb1 q0 q1 q2 hown HOW
        have c2 := contains_any _ (nmsB ls k) (ad ls k).name w1 (RowS.of_own hown1 (nmsB_len hk)) (by rw [nmsB_len hk]; omega)
        cases ht : hasT (nmsB ls k) (ad ls k).name with
        | true =>
          have HF : Hid (attrsOk ls = false) := attrs_no k hlt (attrAt_no2 ht)
          rw [ht] at c2
          clear ht
          go_wp2_with fail
          refine c2.mono ?_
          rintro e w2 ⟨rfl, hb3⟩
          clear c2
          go_wp2
          go_ret
          exact ⟨by rw [HW.out, HAS.out, HF.out, Bool.and_false]; rfl, hb2.trans (hb3.mono hb2.size)⟩
        | false =>
          have HF : Hid (attrAt ls k = true) := attrAt_yes HWK.out ht
          rw [ht] at c2
          clear ht
          go_wp2_with fail
          refine c2.mono ?_
          rintro e w2 ⟨rfl, hb3⟩
          clear c2 kn
          have kn : w2.cell? ⟨wr.heap.size, 0, none⟩ = some (.string (ad ls k).name) := (HKB.out.below hb3).cell 0
          have hb4 := hb2.trans (hb3.mono hb2.size)
          have hown2 := own_below hown1 hb3
          have HB2 : Hid (Blk 27 w2 w.heap.size #[.slice (some ⟨g, o, none⟩) ls.length ca, .slice oc s.classes.length cc]) := HB1.out.below hb3
          have HSZ : Hid (Below w.heap.size w w2) := hb4
          have hsz2 := hb4.size
          have HLT := HB2.out.lt
          clear hb2 hb3 hown1 hb HB HB1 HKB
          have HNM : Hid (nmsB ls (k + 1) = nmsB ls k ++ [(ad ls k).name]) := nmsB_succ hlt
          have HNL : Hid ((nmsB ls k).length = k) := nmsB_len hk
          generalize (ad ls k).name = nm at kn HNM
          go_wp2_with (at_builtin; refine wpList_append_own _ rfl _ _ 25 rfl (w.heap.size + 1) 9 i0 (.string ⟨#[]⟩) 1 16 Tryz.underlying25 hi hz0 hz1 hz2 rfl (by decide) _ _ _ rfl (hown2.alloc _) ⟨w2.heap.size, 0, none⟩ 1 1 [_] rfl rfl (newc _ _ _) ?d2 ?d3 ?d4 ?d5 ?_)
          case d2 => intro u hu; simp at hu; subst hu; rfl
          case d3 => unfold maxLen; omega
          case d4 => omega
          case d5 => simp; omega
          intro v' w3 hown' hgrow _
          have R : w3.ownsRow (w.heap.size + 1) 9 1 v' (k + 1) ((nmsB ls (k + 1)).map Value.string) := by rw [HNM.out]; simpa using hown'
          have BL : Blk 27 w3 w.heap.size #[.slice (some ⟨g, o, none⟩) ls.length ca, .slice oc s.classes.length cc] := by
            refine Blk.kept (HB2.out.alloc _) hgrow (fun e => ?_)
            have := (hown2.lt _ e).1; omega
          have BB : Below w.heap.size w w3 := (HSZ.out.alloc hsz2 _).grown hgrow (by simp; omega) fun j hj => by have := (hown2.lt j hj).1; omega
          clear hown' hgrow hown2
          go_wp2
          go_roundw
          case rel =>
            refine ⟨k + 1, by go_num, by omega, ?_, R, BL, BB⟩
            intro j hj
            by_cases e : j = k
            · subst e; exact HF.out
            · exact HA.out j (by omega)
          case measure => simp [intOf]; omega
    · have HF : Hid (attrsOk ls = true) := attrs_yes fun j hj => HA.out j (by omega)
      have kc : wr.cell? ⟨w.heap.size, 1, none⟩ = some (.slice oc s.classes.length cc) := HB.out.cell 1
      have c := implChoices_any _ s.classes 3 wr (HCR.out.later hb) HO.out.classes
      clear hown
      go_wp2_with fail
      refine c.mono ?_
      rintro e w1 ⟨rfl, hb1⟩
      clear c
      go_wp2
      go_ret
      exact ⟨by rw [HW.out, HAS.out, HF.out, Bool.and_true]; rfl, hb.trans (hb1.mono hb.size)⟩
end Go.Proofs.YtndnplpmkkdieaaGreatDoor
