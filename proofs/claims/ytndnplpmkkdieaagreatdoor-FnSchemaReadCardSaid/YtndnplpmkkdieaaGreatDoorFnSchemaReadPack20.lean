/- Texts of this claim, put together: part 20. -/
import Derived.Test.YtndnplpmkkdieaaGreatDoorFnSchemaReadPack19
import Derived.Lib.QuietBelow
import Derived.BigQuiet
import Derived.Test.YtndnplpmkkdieaaGreatDoorFnSchemaReadPack12
import Derived.Test.YtndnplpmkkdieaaGreatDoorFnSchemaReadPack18
import Derived.Test.YtndnplpmkkdieaaGreatDoorFnSchemaReadPack17
import Derived.Test.YtndnplpmkkdieaaGreatDoorFnSchemaReadPack11
/- Two attributes, two schemas held against each other, by the program. -/
namespace Go.Proofs.YtndnplpmkkdieaaGreatDoor
open Go.RowKit
set_option maxRecDepth 100000

def attrSame (a b : AttrD) : Bool := decide (a.name = b.name) && (decide (a.cuts = b.cuts) && decide (a.vals = b.vals))
theorem attrSame_iff {a b : AttrD} : attrSame a b = true ↔ a = b := by
  unfold attrSame
  rw [Bool.and_eq_true, Bool.and_eq_true, decide_eq_true_eq, decide_eq_true_eq, decide_eq_true_eq]
  constructor
  · rintro ⟨h1, h2, h3⟩; cases a; cases b; simp at h1 h2 h3; simp [h1, h2, h3]
  · rintro rfl; exact ⟨rfl, rfl, rfl⟩
def attrsSame (a b : List AttrD) : Bool := decide (a.length = b.length) && (List.range a.length).all fun j => attrSame (ad a j) (ad b j)
theorem as_yes {a b : List AttrD} (hl : a.length = b.length) (h : ∀ j, j < a.length → attrSame (ad a j) (ad b j) = true) : attrsSame a b = true := by
  unfold attrsSame
  rw [Bool.and_eq_true, List.all_eq_true]
  exact ⟨decide_eq_true hl, fun j hj => h j (List.mem_range.1 hj)⟩
theorem as_no {a b : List AttrD} (k : Nat) (hk : k < a.length) (h : attrSame (ad a k) (ad b k) = false) : attrsSame a b = false := by
  cases e : attrsSame a b with
  | false => rfl
  | true =>
    unfold attrsSame at e
    rw [Bool.and_eq_true, List.all_eq_true] at e
    have := e.2 k (List.mem_range.2 hk)
    rw [h] at this; cases this
theorem as_len {a b : List AttrD} (h : a.length ≠ b.length) : attrsSame a b = false := by unfold attrsSame; rw [decide_eq_false h]; rfl
theorem attrsSame_iff {a b : List AttrD} : attrsSame a b = true ↔ a = b := by
  constructor
  · intro h
    unfold attrsSame at h
    rw [Bool.and_eq_true, List.all_eq_true, decide_eq_true_eq] at h
    apply List.ext_getElem h.1
    intro i h1 h2
    have := attrSame_iff.1 (h.2 i (List.mem_range.2 h1))
    rwa [ad_eq h1, ad_eq h2] at this
  · rintro rfl
    exact as_yes rfl fun j _ => attrSame_iff.2 rfl
def schemaSame (a b : SchemaD) : Bool := attrsSame a.attrs b.attrs && decide (a.classes = b.classes)
theorem schemaSame_iff {a b : SchemaD} : schemaSame a b = true ↔ a = b := by
  unfold schemaSame
  rw [Bool.and_eq_true, attrsSame_iff, decide_eq_true_eq]
  constructor
  · rintro ⟨h1, h2⟩; cases a; cases b; simp at h1 h2; simp [h1, h2]
  · rintro rfl; exact ⟨rfl, rfl⟩

set_option maxHeartbeats 800000 in
theorem attrSame_any (va vb : Value) (a b : AttrD) (w : World) (ha : AttrAt w va a) (hb : AttrAt w vb b) (hn : okA a) :
    Calls Tryz.prog 27 #[va, vb] w fun e w' => e = .returned (.bool (attrSame a b)) ∧ Below w.heap.size w w' := by
  obtain ⟨ca, sa, rfl, ha1, ha2⟩ := ha
  obtain ⟨cb, sb, rfl, hb1, hb2⟩ := hb
  have HA : Hid (RowI w ca a.cuts ∧ RowS w sa a.vals ∧ RowI w cb b.cuts ∧ RowS w sb b.vals ∧ okA a) := ⟨ha1, ha2, hb1, hb2, hn⟩
  clear ha1 ha2 hb1 hb2 hn
  obtain ⟨K1, K2, B0⟩ := blk_2 41 41 w #[.string a.name, ca, sa] #[.string b.name, cb, sb]
  obtain ⟨h1, h2, h3, h4, hn⟩ := HA.out
  have c1 := libSameI_any ca cb a.cuts b.cuts _ (h1.later B0) (h3.later B0) hn.cuts
  by_cases he : a.name = b.name
  rotate_left
  · have HF : Hid (attrSame a b = false) := by unfold attrSame; rw [decide_eq_false he]; rfl
    have hq : (a.name.toList == b.name.toList) = false := by rw [beq_eq_false_iff_ne]; exact fun h => he (bytes_eq_iff.1 h)
    clear he h1 h2 h3 h4 hn K1 K2 c1 HA
    go_enter Tryz.func27, Tryz.ntmps27
    go_wp2
    go_ret
    exact ⟨by rw [HF.out]; rfl, B0⟩
  have hq : (a.name.toList == b.name.toList) = true := by rw [he]; simp
  have HE : Hid (a.name = b.name) := he
  clear he
  cases hc : decide (a.cuts = b.cuts) with
  | false =>
    have HF : Hid (attrSame a b = false) := show attrSame a b = false by unfold attrSame; rw [hc]; simp
    rw [hc] at c1
    clear h1 h2 h3 h4 hn K1 K2 HA hc
    go_enter Tryz.func27, Tryz.ntmps27
    go_wp2_with fail
    refine c1.mono ?_
    rintro e w1 ⟨rfl, hb1⟩
    clear c1
    go_wp2
    go_ret
    exact ⟨by rw [HF.out]; rfl, B0.trans (hb1.mono B0.size)⟩
  | true =>
    have HF : Hid (attrSame a b = decide (a.vals = b.vals)) := show attrSame a b = decide (a.vals = b.vals) by unfold attrSame; rw [hc, decide_eq_true HE.out]; rfl
    rw [hc] at c1
    clear h1 h2 h3 h4 hn hc
    go_enter Tryz.func27, Tryz.ntmps27
    go_wp2_with fail
    refine c1.mono ?_
    rintro e w1 ⟨rfl, hb1⟩
    clear c1
    obtain ⟨h1, h2, h3, h4, hn⟩ := HA.out
    have B1 := B0.trans (hb1.mono B0.size)
    have c2 := libSameS_any sa sb a.vals b.vals _ (h2.later B1) (h4.later B1) hn.vals.1
    have k1 : w1.cell? ⟨w.heap.size, 2, none⟩ = some sa := (K1.below hb1).cell 2
    have k2 : w1.cell? ⟨w.heap.size + 1, 2, none⟩ = some sb := (K2.below hb1).cell 2
    clear h1 h2 h3 h4 hn HA K1 K2 hb1 B0
    go_wp2_with fail
    refine c2.mono ?_
    rintro e w2 ⟨rfl, hb2⟩
    clear c2
    go_wp2
    go_ret
    exact ⟨by rw [HF.out]; rfl, B1.trans (hb2.mono B1.size)⟩

set_option maxHeartbeats 800000 in
theorem equalFunc_any (va vb : Value) (la lb : List AttrD) (w : World) (ha : RowA w va la) (hb : RowA w vb lb) (hna : la.length ≤ 1099511627776) (he : ∀ a ∈ la, okA a) :
    Calls Tryz.prog 26 #[va, vb, .func (.func 27) #[] #[]] w fun e w' => e = .returned (.bool (attrsSame la lb)) ∧ Below w.heap.size w w' := by
  obtain ⟨oa, ca, rfl, hca, hra⟩ := ha
  obtain ⟨ob, cb, rfl, hcb, hrb⟩ := hb
  have HA : Hid (0 < la.length → ∃ g o, oa = some ⟨g, o, none⟩ ∧ g < w.heap.size ∧ ∀ j, j < la.length → CellsA w g (o + j * 3) (ad la j)) := hra
  have HB : Hid (0 < lb.length → ∃ g o, ob = some ⟨g, o, none⟩ ∧ g < w.heap.size ∧ ∀ j, j < lb.length → CellsA w g (o + j * 3) (ad lb j)) := hrb
  have HE : Hid (∀ a ∈ la, okA a) := he
  clear hra hrb he
  by_cases hl : la.length = lb.length
  rotate_left
  · have HF : Hid (attrsSame la lb = false) := as_len hl
    have hq : ((la.length : Int) == (lb.length : Int)) = false := by simp; omega
    go_enter Tryz.func26, Tryz.ntmps26
    go_wp2
    go_ret
    exact ⟨by rw [HF.out]; rfl, Below.refl _ _⟩
  have HL : Hid (la.length = lb.length) := hl
  obtain ⟨n, hn⟩ : ∃ n, n = la.length := ⟨_, rfl⟩
  have HNA : Hid (n = la.length) := hn
  have HNB : Hid (n = lb.length) := hn.trans hl
  rw [← hl, ← hn]
  rw [← hn] at hca hna
  clear hl hn hcb
  go_enter Tryz.func26, Tryz.ntmps26
  go_wp2
  go_loopw [17] (fun i wr => ∃ k : Nat, i = .int .i64 k ∧ k ≤ n ∧ (∀ j, j < k → attrSame (ad la j) (ad lb j) = true) ∧ Below w.heap.size w wr) (fun i _ => n - (intOf i).toNat)
  case atStart => exact ⟨0, rfl, by omega, by omega, Below.refl _ _⟩
  case round =>
    obtain ⟨k, rfl, hk, hal, hbr⟩ := hrel
    have HK : Hid (∀ j, j < k → attrSame (ad la j) (ad lb j) = true) := hal
    clear hal
    by_cases hlt : k < n
    · obtain ⟨g, o, rfl, hg, hj⟩ := HA.out (by have := HNA.out; omega)
      obtain ⟨g', o', rfl, hg', hj'⟩ := HB.out (by have := HNB.out; omega)
      obtain ⟨vc, vv, p0, p1, p2, r1, r2⟩ := (hj k (by have := HNA.out; omega)).later hbr hg
      obtain ⟨vc', vv', p0', p1', p2', r1', r2'⟩ := (hj' k (by have := HNB.out; omega)).later hbr hg'
      obtain ⟨o1, c1, rfl, -, -⟩ := id r1
      obtain ⟨o2, c2, rfl, -, -⟩ := id r2
      obtain ⟨o3, c3, rfl, -, -⟩ := id r1'
      obtain ⟨o4, c4, rfl, -, -⟩ := id r2'
      obtain ⟨K1, K2, B0⟩ := blk_2 41 41 wr #[.string (ad la k).name, .slice o1 (ad la k).cuts.length c1, .slice o2 (ad la k).vals.length c2] #[.string (ad lb k).name, .slice o3 (ad lb k).cuts.length c3, .slice o4 (ad lb k).vals.length c4]
      have c := attrSame_any _ _ (ad la k) (ad lb k) _ ⟨_, _, rfl, r1.later B0, r2.later B0⟩ ⟨_, _, rfl, r1'.later B0, r2'.later B0⟩ (HE.out _ (ad_mem (by have := HNA.out; omega)))
      have hgr : g' < wr.heap.size := Nat.lt_of_lt_of_le hg' hbr.size
      have q0 := fun o => (World.cell?_alloc_past o g' (o' + k * 3) hgr).trans p0'
      have q1 := fun o => (World.cell?_alloc_past o g' (o' + k * 3 + 1) hgr).trans p1'
      have q2 := fun o => (World.cell?_alloc_past o g' (o' + k * 3 + 2) hgr).trans p2'
      clear hj hj' r1 r2 r1' r2' K1 K2
      cases hs : attrSame (ad la k) (ad lb k) with
      | false =>
        have HF : Hid (attrsSame la lb = false) := as_no k (by have := HNA.out; omega) hs
        rw [hs] at c
        clear hs
        go_wp2_with fail
        refine c.mono ?_
        rintro e w1 ⟨rfl, hb1⟩
        have hb2 := hbr.trans ((B0.trans (hb1.mono B0.size)).mono hbr.size)
        clear c hb1 B0
        go_wp2
        go_ret
        exact ⟨by rw [HF.out]; rfl, hb2⟩
      | true =>
        have HS : Hid (attrSame (ad la k) (ad lb k) = true) := hs
        rw [hs] at c
        clear hs
        go_wp2_with fail
        refine c.mono ?_
        rintro e w1 ⟨rfl, hb1⟩
        have hb2 := hbr.trans ((B0.trans (hb1.mono B0.size)).mono hbr.size)
        clear c hb1 B0
        go_wp2
        go_roundw
        case rel =>
          refine ⟨k + 1, by go_num, by omega, ?_, hb2⟩
          intro j hj
          by_cases e : j = k
          · subst e; exact HS.out
          · exact HK.out j (by omega)
        case measure => simp [intOf]; omega
    · have HF : Hid (attrsSame la lb = true) := as_yes HL.out fun j hj => HK.out j (by have := HNA.out; omega)
      go_wp2
      go_ret
      exact ⟨by rw [HF.out]; rfl, hbr⟩

theorem implSame_any (va vb : Value) (a b : SchemaD) (w : World) (ha : SchemaAt w va a) (hb : SchemaAt w vb b) (hn : okSch a) :
    Calls Tryz.prog 11 #[va, vb] w fun e w' => e = .returned (.bool (schemaSame a b)) ∧ Below w.heap.size w w' := by
  obtain ⟨ca, sa, rfl, ha1, ha2⟩ := ha
  obtain ⟨cb, sb, rfl, hb1, hb2⟩ := hb
  have HA : Hid (RowA w ca a.attrs ∧ RowS w sa a.classes ∧ RowA w cb b.attrs ∧ RowS w sb b.classes ∧ okSch a) := ⟨ha1, ha2, hb1, hb2, hn⟩
  clear ha1 ha2 hb1 hb2 hn
  obtain ⟨K1, K2, B0⟩ := blk_2 27 27 w #[ca, sa] #[cb, sb]
  obtain ⟨h1, h2, h3, h4, hn⟩ := HA.out
  have c1 := equalFunc_any ca cb a.attrs b.attrs _ (h1.later B0) (h3.later B0) hn.attrs hn.each
  cases hc : attrsSame a.attrs b.attrs with
  | false =>
    have HF : Hid (schemaSame a b = false) := by unfold schemaSame; rw [hc]; rfl
    rw [hc] at c1
    clear h1 h2 h3 h4 hn K1 K2 HA hc
    go_enter Tryz.func11, Tryz.ntmps11
    go_wp2_with fail
    refine c1.mono ?_
    rintro e w1 ⟨rfl, hb1⟩
    clear c1
    go_wp2
    go_ret
    exact ⟨by rw [HF.out]; rfl, B0.trans (hb1.mono B0.size)⟩
  | true =>
    have HF : Hid (schemaSame a b = decide (a.classes = b.classes)) := by unfold schemaSame; rw [hc]; rfl
    rw [hc] at c1
    clear h1 h2 h3 h4 hn hc
    go_enter Tryz.func11, Tryz.ntmps11
    go_wp2_with fail
    refine c1.mono ?_
    rintro e w1 ⟨rfl, hb1⟩
    clear c1
    obtain ⟨h1, h2, h3, h4, hn⟩ := HA.out
    have B1 := B0.trans (hb1.mono B0.size)
    have c2 := libSameS_any sa sb a.classes b.classes _ (h2.later B1) (h4.later B1) hn.classes.1
    have k1 : w1.cell? ⟨w.heap.size, 1, none⟩ = some sa := (K1.below hb1).cell 1
    have k2 : w1.cell? ⟨w.heap.size + 1, 1, none⟩ = some sb := (K2.below hb1).cell 1
    clear h1 h2 h3 h4 hn HA K1 K2 hb1 B0
    go_wp2_with fail
    refine c2.mono ?_
    rintro e w2 ⟨rfl, hb2⟩
    clear c2
    go_wp2
    go_ret
    exact ⟨by rw [HF.out]; rfl, B1.trans (hb2.mono B1.size)⟩
end Go.Proofs.YtndnplpmkkdieaaGreatDoor
/- Two schemas held against each other, by the specification. -/
namespace Go.Proofs.YtndnplpmkkdieaaGreatDoor
open Go.RowKit
set_option maxRecDepth 100000

theorem ss_len {a b : SchemaD} (h : a.attrs.length ≠ b.attrs.length) : schemaSame a b = false := by unfold schemaSame; rw [as_len h]; rfl
theorem ss_cls {a b : SchemaD} (h : decide (a.classes = b.classes) = false) : schemaSame a b = false := by unfold schemaSame; rw [h]; simp
theorem ss_cls' {a b : SchemaD} (h : decide (a.classes = b.classes) = true) : schemaSame a b = attrsSame a.attrs b.attrs := by unfold schemaSame; rw [h]; simp
theorem at_no0 {a b : AttrD} (h : a.name ≠ b.name) : attrSame a b = false := by unfold attrSame; rw [decide_eq_false h]; rfl
theorem at_no1 {a b : AttrD} (h : decide (a.cuts = b.cuts) = false) : attrSame a b = false := by unfold attrSame; rw [h]; simp
theorem at_no2 {a b : AttrD} (h : decide (a.vals = b.vals) = false) : attrSame a b = false := by unfold attrSame; rw [h]; simp
theorem at_yes {a b : AttrD} (h : a.name = b.name) (h1 : decide (a.cuts = b.cuts) = true) (h2 : decide (a.vals = b.vals) = true) : attrSame a b = true := by unfold attrSame; rw [decide_eq_true h, h1, h2]; rfl

set_option maxHeartbeats 3200000 in
theorem specSame_any (va vb : Value) (a b : SchemaD) (w : World) (ha : SchemaAt w va a) (hb : SchemaAt w vb b) (hn : okSch a) :
    Calls Tryz.prog 10 #[va, vb] w fun e w' => e = .returned (.bool (schemaSame a b)) ∧ Below w.heap.size w w' := by
  have mixed : Tryz.prog.follows .mixedOrders = true := by kernel_rfl
  obtain ⟨ca, sa, rfl, ha1, ha2⟩ := ha
  obtain ⟨cb, sb, rfl, hb1, hb2⟩ := hb
  obtain ⟨oa, ka, rfl, hca, hra⟩ := ha1
  obtain ⟨ob, kb, rfl, hcb, hrb⟩ := hb1
  obtain ⟨pa, la, rfl, -, -⟩ := id ha2
  obtain ⟨pb, lb, rfl, -, -⟩ := id hb2
  have HA : Hid (0 < a.attrs.length → ∃ g o, oa = some ⟨g, o, none⟩ ∧ g < w.heap.size ∧ ∀ j, j < a.attrs.length → CellsA w g (o + j * 3) (ad a.attrs j)) := hra
  have HB : Hid (0 < b.attrs.length → ∃ g o, ob = some ⟨g, o, none⟩ ∧ g < w.heap.size ∧ ∀ j, j < b.attrs.length → CellsA w g (o + j * 3) (ad b.attrs j)) := hrb
  have HC : Hid (RowS w (.slice pa a.classes.length la) a.classes ∧ RowS w (.slice pb b.classes.length lb) b.classes) := ⟨ha2, hb2⟩
  have HO : Hid (okSch a) := hn
  have hna := hn.attrs
  clear hra hrb ha2 hb2 hn
  obtain ⟨K1, K2, B0⟩ := blk_2 27 27 w #[.slice oa a.attrs.length ka, .slice pa a.classes.length la] #[.slice ob b.attrs.length kb, .slice pb b.classes.length lb]
  by_cases hl : a.attrs.length = b.attrs.length
  rotate_left
  · have HF : Hid (schemaSame a b = false) := ss_len hl
    have hq : ((a.attrs.length : Int) == (b.attrs.length : Int)) = false := by simp; omega
    clear K1 K2
    go_enter Tryz.func10, Tryz.ntmps10
    go_wp2
    go_ret
    exact ⟨by rw [HF.out]; rfl, B0⟩
  have c1 := specSameS_any _ _ a.classes b.classes _ (HC.out.1.later B0) (HC.out.2.later B0) HO.out.classes.1
  obtain ⟨n, hnn⟩ : ∃ n, n = a.attrs.length := ⟨_, rfl⟩
  have HNA : Hid (n = a.attrs.length) := hnn
  have HNB : Hid (n = b.attrs.length) := hnn.trans hl
  rw [← hl, ← hnn] at K1 K2 B0 c1
  rw [← hl, ← hnn]
  have HL : Hid (a.attrs.length = b.attrs.length) := hl
  rw [← hnn] at hca hna
  clear hl hnn hcb
  cases hc : decide (a.classes = b.classes) with
  | false =>
    have HF : Hid (schemaSame a b = false) := ss_cls hc
    rw [hc] at c1
    clear K1 K2 hc
    go_enter Tryz.func10, Tryz.ntmps10
    go_wp2_with fail
    refine c1.mono ?_
    rintro e w1 ⟨rfl, hb1⟩
    clear c1
    go_wp2
    go_ret
    exact ⟨by rw [HF.out]; rfl, B0.trans (hb1.mono B0.size)⟩
  | true =>
    have HS : Hid (schemaSame a b = attrsSame a.attrs b.attrs) := ss_cls' hc
    rw [hc] at c1
    clear hc
    go_enter Tryz.func10, Tryz.ntmps10
    go_wp2_with fail
    refine c1.mono ?_
    rintro e w1 ⟨rfl, hb1⟩
    clear c1
    have B1 := B0.trans (hb1.mono B0.size)
    have HK1 : Hid (Blk 27 w1 w.heap.size #[.slice oa n ka, .slice pa a.classes.length la]) := K1.below hb1
    have HK2 : Hid (Blk 27 w1 (w.heap.size + 1) #[.slice ob n kb, .slice pb b.classes.length lb]) := K2.below hb1
    clear K1 K2 B0 hb1
    go_wp2
    go_loopw [5] (fun i wr => ∃ k : Nat, i = .int .i64 k ∧ k ≤ n ∧ (∀ j, j < k → attrSame (ad a.attrs j) (ad b.attrs j) = true) ∧ Below w1.heap.size w1 wr) (fun i _ => n - (intOf i).toNat)
    case atStart => exact ⟨0, rfl, by omega, by omega, Below.refl _ _⟩
    case round =>
      obtain ⟨k, rfl, hk, hal, hbr⟩ := hrel
      have HK : Hid (∀ j, j < k → attrSame (ad a.attrs j) (ad b.attrs j) = true) := hal
      clear hal
      have hbw := B1.trans (hbr.mono B1.size)
      have u1 : wr.cell? ⟨w.heap.size, 0, none⟩ = some (.slice oa n ka) := (HK1.out.below hbr).cell 0
      have u2 : wr.cell? ⟨w.heap.size + 1, 0, none⟩ = some (.slice ob n kb) := (HK2.out.below hbr).cell 0
      by_cases hlt : k < n
      · obtain ⟨g, o, rfl, hg, hj⟩ := HA.out (by have := HNA.out; omega)
        obtain ⟨g', o', rfl, hg', hj'⟩ := HB.out (by have := HNB.out; omega)
        obtain ⟨vc, vv, p0, p1, p2, r1, r2⟩ := (hj k (by have := HNA.out; omega)).later hbw hg
        obtain ⟨vc', vv', p0', p1', p2', r1', r2'⟩ := (hj' k (by have := HNB.out; omega)).later hbw hg'
        have hok := HO.out.each _ (ad_mem (ls := a.attrs) (j := k) (by have := HNA.out; omega))
        have cI := fun d os => Calls.regrown_of (specSameI_any vc vc' (ad a.attrs k).cuts (ad b.attrs k).cuts (Go.Sort.grow (redrawn wr d) os) (r1.later (below_regrown wr d os)) (r1'.later (below_regrown wr d os)) hok.cuts)
        have cS := fun d os => Calls.regrown_of (specSameS_any vv vv' (ad a.attrs k).vals (ad b.attrs k).vals (Go.Sort.grow (redrawn wr d) os) (r2.later (below_regrown wr d os)) (r2'.later (below_regrown wr d os)) hok.vals.1)
        have d1 := fun d os => cell_regrown u1 d os
        have d2 := fun d os => cell_regrown u2 d os
        have e0 := fun d os => cell_regrown p0 d os
        have e1 := fun d os => cell_regrown p1 d os
        have e2 := fun d os => cell_regrown p2 d os
        have e0' := fun d os => cell_regrown p0' d os
        have e1' := fun d os => cell_regrown p1' d os
        have e2' := fun d os => cell_regrown p2' d os
        have hbR := fun d os => hbr.trans ((below_regrown wr d os).mono hbr.size)
        have HBR : Hid (∀ d os, Below w1.heap.size w1 (Go.Sort.grow (redrawn wr d) os)) := hbR
        clear hj hj' p0 p1 p2 p0' p1' p2' r1 r2 r1' r2' hbr hbR hok hbw
        by_cases he : (ad a.attrs k).name = (ad b.attrs k).name
        rotate_left
        · have HF : Hid (attrsSame a.attrs b.attrs = false) := as_no k (by have := HNA.out; omega) (at_no0 he)
          have hq : ((ad a.attrs k).name.toList == (ad b.attrs k).name.toList) = false := by rw [beq_eq_false_iff_ne]; exact fun h => he (bytes_eq_iff.1 h)
          clear he cI cS e1 e2 e1' e2'
          generalize (ad a.attrs k).name = s1 at e0 hq
          generalize (ad b.attrs k).name = s2 at e0' hq
          go_wp2
          refine wp_region_quiet_below mixed (by kernel_rfl) ?_
          repeat (go_big_quiet_step (fail))
          refine wpQuiet_nil ?_
          intro _ hw'
          obtain ⟨⟨dq, osq⟩, hw''⟩ := hw'
          subst hw''
          clear d1 d2 e0 e0'
          go_wp2
          go_ret
          exact ⟨by rw [HS.out, HF.out]; rfl, B1.trans ((HBR.out _ _).mono B1.size)⟩
        have hq : ((ad a.attrs k).name.toList == (ad b.attrs k).name.toList) = true := by rw [he]; simp
        have HE : Hid ((ad a.attrs k).name = (ad b.attrs k).name) := he
        clear he
        cases hcu : decide ((ad a.attrs k).cuts = (ad b.attrs k).cuts) with
        | false =>
          have HF : Hid (attrsSame a.attrs b.attrs = false) := as_no k (by have := HNA.out; omega) (at_no1 hcu)
          rw [hcu] at cI
          clear hcu cS e2 e2'
          generalize (ad a.attrs k).name = s1 at e0 hq
          generalize (ad b.attrs k).name = s2 at e0' hq
          go_wp2
          refine wp_region_quiet_below mixed (by kernel_rfl) ?_
          repeat (go_big_quiet_step (exact cI _ _))
          refine wpQuiet_nil ?_
          intro _ hw'
          obtain ⟨⟨dq, osq⟩, hw''⟩ := hw'
          subst hw''
          clear d1 d2 e0 e0' cI e1 e1'
          go_wp2
          go_ret
          exact ⟨by rw [HS.out, HF.out]; rfl, B1.trans ((HBR.out _ _).mono B1.size)⟩
        | true =>
          rw [hcu] at cI
          cases hvu : decide ((ad a.attrs k).vals = (ad b.attrs k).vals) with
          | false =>
            have HF : Hid (attrsSame a.attrs b.attrs = false) := as_no k (by have := HNA.out; omega) (at_no2 hvu)
            rw [hvu] at cS
            clear hcu hvu
            generalize (ad a.attrs k).name = s1 at e0 hq
            generalize (ad b.attrs k).name = s2 at e0' hq
            go_wp2
            refine wp_region_quiet_below mixed (by kernel_rfl) ?_
            repeat (go_big_quiet_step (first | exact cI _ _ | exact cS _ _))
            refine wpQuiet_nil ?_
            intro _ hw'
            obtain ⟨⟨dq, osq⟩, hw''⟩ := hw'
            subst hw''
            clear d1 d2 e0 e0' cI e1 e1' cS e2 e2'
            go_wp2
            go_ret
            exact ⟨by rw [HS.out, HF.out]; rfl, B1.trans ((HBR.out _ _).mono B1.size)⟩
          | true =>
            have HF : Hid (attrSame (ad a.attrs k) (ad b.attrs k) = true) := at_yes HE.out hcu hvu
            rw [hvu] at cS
            clear hcu hvu
            generalize (ad a.attrs k).name = s1 at e0 hq
            generalize (ad b.attrs k).name = s2 at e0' hq
            go_wp2
            refine wp_region_quiet_below mixed (by kernel_rfl) ?_
            repeat (go_big_quiet_step (first | exact cI _ _ | exact cS _ _))
            refine wpQuiet_nil ?_
            intro _ hw'
            obtain ⟨⟨dq, osq⟩, hw''⟩ := hw'
            subst hw''
            clear d1 d2 e0 e0' cI e1 e1' cS e2 e2'
            go_wp2
            go_roundw
            case rel =>
              refine ⟨k + 1, by go_num, by omega, ?_, HBR.out _ _⟩
              intro j hj
              by_cases e : j = k
              · subst e; exact HF.out
              · exact HK.out j (by omega)
            case measure => simp [intOf]; omega
      · have HF : Hid (attrsSame a.attrs b.attrs = true) := as_yes HL.out fun j hj => HK.out j (by have := HNA.out; omega)
        go_wp2
        go_ret
        exact ⟨by rw [HS.out, HF.out]; rfl, hbw⟩
end Go.Proofs.YtndnplpmkkdieaaGreatDoor
/- For every code the law FnSchemaRead returns true (the walk). -/
namespace Go.Proofs.YtndnplpmkkdieaaGreatDoor
open Go.RowKit
set_option maxRecDepth 100000
set_option linter.unusedSimpArgs false
theorem Env.tabR {u : TypeId} {ev : Value} {m : Int} {w : World} (h : Env u ev m w) : Tab w := ⟨h.1.1, h.1.2.2.2.2.1⟩
theorem empty_text : schemaText emptyS = ⟨#[]⟩ := by
  unfold schemaText
  rw [if_neg (by decide)]
theorem got_okS {s : ByteArray} {t : SchemaD} (h : schemaOf s = some t) : okSch t := by
  obtain ⟨h1, h2, h3, h4⟩ := sch_parts ((schemaOf_iff _ _).1 h).1
  refine ⟨by omega, fun a ha => ?_, by omega, fun x hx => by have := (word_size (words_all h3 x hx)).2; omega⟩
  obtain ⟨j, hj, rfl⟩ := List.getElem_of_mem ha
  unfold attrsOk at h4
  rw [List.all_eq_true] at h4
  have h5 := h4 j (List.mem_range.2 hj)
  unfold attrAt at h5
  rw [Bool.and_eq_true, ad_eq hj] at h5
  have hn := (word_size (ok_name h5.1)).2
  by_cases h0 : t.attrs[j].vals.length = 0
  · have hc := ok_cuts h5.1 h0
    refine ⟨by omega, by omega, by omega, fun t ht => ?_⟩
    rw [List.eq_nil_of_length_eq_zero h0] at ht; cases ht
  · obtain ⟨hc, l2, l4, hwo⟩ := ok_vals h5.1 h0
    refine ⟨by omega, by omega, by omega, fun t ht => ?_⟩
    have := (word_size (words_all hwo t ht)).2
    omega
set_option maxHeartbeats 6400000 in
theorem schRead_in (a0 : Option Addr) (len0 cap0 : Nat) (z0 : List Int) (w : World) (h0 : IsRow .u8 w a0 len0 cap0 z0) (u : TypeId) (ev : Value) (m : Int) (hE : Env u ev m w) (hlen : len0 ≤ 1048576) :
    Calls Tryz.prog 4 #[.slice a0 len0 cap0] w fun e w' => e = .returned (.bool true) ∧ Below w.heap.size w w' := by
  have c1 := big_any a0 len0 cap0 w (by omega)
  rw [decide_eq_false (by omega)] at c1
  have HE : Hid (∀ W, Below w.heap.size w W → Env u ev m W) := fun W h => hE.later h
  clear hE
  go_enter Tryz.func4, Tryz.ntmps4
  go_wp2_with fail
  refine c1.mono ?_
  clear c1
  rintro e w0 ⟨rfl, e0⟩
  rw [e0]; clear e0 w0
  go_wp2_with fail
  refine (drawSchOf_any a0 len0 cap0 z0 w h0 hlen).mono ?_
  clear h0
  rintro e w1 ⟨T, rfl, hT, b1⟩
  have hs1 := b1.size
  have c2 := implSchemaOf_any T u ev m w1 (by omega) (HE.out w1 b1)
  have c3 := fun W => specSchemaOf_any T W (by omega)
  cases hsch : schemaOf T with
  | some D =>
    have HR2 : Hid (schemaOk D = true ∧ schemaText D = T) := (schemaOf_iff T D).1 hsch
    have HOK : Hid (okSch D) := got_okS hsch
    rw [hsch] at c2 c3
    simp only [Option.isSome_some, Option.getD_some, Option.isSome_none, Option.getD_none] at c2 c3
    clear hsch
    go_wp2_with fail
    refine c2.mono ?_
    clear c2
    rintro e w2 ⟨v2, rfl, ho2, hb2⟩
    have hat2 := ho2.own.at
    clear ho2
    obtain ⟨va2, vc2, rfl, ra, rc⟩ := id hat2
    obtain ⟨ov2, cv2, rfl, -, -⟩ := id ra
    obtain ⟨ow2, cw2, rfl, -, -⟩ := id rc
    clear ra rc
    have hs2 := hb2.size
    have b2 : Below w.heap.size w w2 := b1.trans (hb2.mono (by omega))
    have HS : Hid (∀ W, Below w2.heap.size w2 W → SchemaAt W (.agg #[.slice ov2 D.attrs.length cv2, .slice ow2 D.classes.length cw2]) D) := fun W h => hat2.later h
    clear hat2 hb2 b1
    have Az : Blk 27 (w2.alloc (.cells #[.slice none 0 0, .slice none 0 0] 27)) w2.heap.size #[.slice none 0 0, .slice none 0 0] := Blk.new _ _ _
    have A3 := Az.setRow #[.slice ov2 D.attrs.length cv2, .slice ow2 D.classes.length cw2]
    have z3 : Below w2.heap.size w2 ((w2.alloc (.cells #[.slice none 0 0, .slice none 0 0] 27)).setRow w2.heap.size #[.slice ov2 D.attrs.length cv2, .slice ow2 D.classes.length cw2]) := below_row ((Below.refl _ _).alloc (Nat.le_refl _) _) (Nat.le_refl _) _
    go_wp2_with (with_reducible refine wp_sc_store rfl _ _ rfl ?_; refine ⟨w2.heap.size, rfl, _, _, _, _, _, _, rfl, _, _, Az, ?_⟩; clear Az; generalize ((w2.alloc (.cells #[.slice none 0 0, .slice none 0 0] 27)).setRow w2.heap.size #[.slice ov2 D.attrs.length cv2, .slice ow2 D.classes.length cw2]) = w3 at A3 z3 ⊢)
    have hs3 := z3.size
    have b3 : Below w.heap.size w w3 := b2.trans (z3.mono (by omega))
    have c3 := c3 w3
    go_wp2_with fail
    refine c3.mono ?_
    clear c3
    rintro e w4 ⟨v4, rfl, ho4, hb4⟩
    have hat4 := ho4.own.at
    clear ho4
    obtain ⟨va4, vc4, rfl, ra, rc⟩ := hat4
    obtain ⟨ov3, cv3, rfl, -, -⟩ := id ra
    obtain ⟨ow3, cw3, rfl, -, -⟩ := id rc
    clear ra rc
    have hs4 := hb4.size
    have b4 : Below w.heap.size w w4 := b3.trans (hb4.mono (by omega))
    have A4 := A3.below hb4
    have y4 := z3.trans (hb4.mono (by omega))
    clear A3 z3 hb4 b2 b3
    have Az : Blk 27 (w4.alloc (.cells #[.slice none 0 0, .slice none 0 0] 27)) w4.heap.size #[.slice none 0 0, .slice none 0 0] := Blk.new _ _ _
    have A5 := Az.setRow #[.slice ov3 D.attrs.length cv3, .slice ow3 D.classes.length cw3]
    have z5 : Below w4.heap.size w4 ((w4.alloc (.cells #[.slice none 0 0, .slice none 0 0] 27)).setRow w4.heap.size #[.slice ov3 D.attrs.length cv3, .slice ow3 D.classes.length cw3]) := below_row ((Below.refl _ _).alloc (Nat.le_refl _) _) (Nat.le_refl _) _
    have A5' := A4.below z5
    have p0 : ((w4.alloc (.cells #[.slice none 0 0, .slice none 0 0] 27)).setRow w4.heap.size #[.slice ov3 D.attrs.length cv3, .slice ow3 D.classes.length cw3]).cell? ⟨w2.heap.size, 0, none⟩ = some (.slice ov2 D.attrs.length cv2) := A5'.cell 0
    have p1 : ((w4.alloc (.cells #[.slice none 0 0, .slice none 0 0] 27)).setRow w4.heap.size #[.slice ov3 D.attrs.length cv3, .slice ow3 D.classes.length cw3]).cell? ⟨w2.heap.size, 1, none⟩ = some (.slice ow2 D.classes.length cw2) := A5'.cell 1
    go_wp2_with (with_reducible refine wp_sc_store rfl _ _ rfl ?_; refine ⟨w4.heap.size, rfl, _, _, _, _, _, _, rfl, _, _, Az, ?_⟩; clear Az; generalize ((w4.alloc (.cells #[.slice none 0 0, .slice none 0 0] 27)).setRow w4.heap.size #[.slice ov3 D.attrs.length cv3, .slice ow3 D.classes.length cw3]) = w5 at A5 z5 A5' p0 p1 ⊢)
    have hs5 := z5.size
    have b5 : Below w.heap.size w w5 := b4.trans (z5.mono (by omega))
    have y5 := y4.trans (z5.mono (by omega))
    clear A4 y4 b4 A5
    have c2 := implSchemaText_any (.agg #[.slice ov2 D.attrs.length cv2, .slice ow2 D.classes.length cw2]) D w5 (HS.out w5 y5) HOK.out (Env.tabR (HE.out w5 b5))
    rw [HR2.out.2] at c2
    go_wp2_with fail
    refine c2.mono ?_
    clear c2 p0 p1
    rintro e w6 ⟨rfl, hb6⟩
    have hs6 := hb6.size
    have b6 : Below w.heap.size w w6 := b5.trans (hb6.mono (by omega))
    have A6 := A5'.below hb6
    have y6 := y5.trans (hb6.mono (by omega))
    have p0 : w6.cell? ⟨w2.heap.size, 0, none⟩ = some (.slice ov2 D.attrs.length cv2) := A6.cell 0
    have p1 : w6.cell? ⟨w2.heap.size, 1, none⟩ = some (.slice ow2 D.classes.length cw2) := A6.cell 1
    have c2 := implSchemaOk_any (.agg #[.slice ov2 D.attrs.length cv2, .slice ow2 D.classes.length cw2]) D w6 (HS.out w6 y6) HOK.out
    rw [HR2.out.1] at c2
    go_wp2_with fail
    refine c2.mono ?_
    clear c2 p0 p1
    rintro e w7 ⟨rfl, hb7⟩
    go_wp2
    go_ret
    exact ⟨by simp, b6.trans (hb7.mono (by omega))⟩
  | none =>
    have HOK : Hid (okSch emptyS) := ⟨by simp [emptyS], fun a ha => by simp [emptyS] at ha, by simp [emptyS], fun s hs => by simp [emptyS] at hs⟩
    rw [hsch] at c2 c3
    simp only [Option.isSome_some, Option.getD_some, Option.isSome_none, Option.getD_none] at c2 c3
    clear hsch
    go_wp2_with fail
    refine c2.mono ?_
    clear c2
    rintro e w2 ⟨v2, rfl, ho2, hb2⟩
    have hat2 := ho2.own.at
    clear ho2
    obtain ⟨va2, vc2, rfl, ra, rc⟩ := id hat2
    obtain ⟨ov2, cv2, rfl, -, -⟩ := id ra
    obtain ⟨ow2, cw2, rfl, -, -⟩ := id rc
    clear ra rc
    have hs2 := hb2.size
    have b2 : Below w.heap.size w w2 := b1.trans (hb2.mono (by omega))
    have HS : Hid (∀ W, Below w2.heap.size w2 W → SchemaAt W (.agg #[.slice ov2 emptyS.attrs.length cv2, .slice ow2 emptyS.classes.length cw2]) emptyS) := fun W h => hat2.later h
    clear hat2 hb2 b1
    have Az : Blk 27 (w2.alloc (.cells #[.slice none 0 0, .slice none 0 0] 27)) w2.heap.size #[.slice none 0 0, .slice none 0 0] := Blk.new _ _ _
    have A3 := Az.setRow #[.slice ov2 emptyS.attrs.length cv2, .slice ow2 emptyS.classes.length cw2]
    have z3 : Below w2.heap.size w2 ((w2.alloc (.cells #[.slice none 0 0, .slice none 0 0] 27)).setRow w2.heap.size #[.slice ov2 emptyS.attrs.length cv2, .slice ow2 emptyS.classes.length cw2]) := below_row ((Below.refl _ _).alloc (Nat.le_refl _) _) (Nat.le_refl _) _
    go_wp2_with (with_reducible refine wp_sc_store rfl _ _ rfl ?_; refine ⟨w2.heap.size, rfl, _, _, _, _, _, _, rfl, _, _, Az, ?_⟩; clear Az; generalize ((w2.alloc (.cells #[.slice none 0 0, .slice none 0 0] 27)).setRow w2.heap.size #[.slice ov2 emptyS.attrs.length cv2, .slice ow2 emptyS.classes.length cw2]) = w3 at A3 z3 ⊢)
    have hs3 := z3.size
    have b3 : Below w.heap.size w w3 := b2.trans (z3.mono (by omega))
    have c3 := c3 w3
    go_wp2_with fail
    refine c3.mono ?_
    clear c3
    rintro e w4 ⟨v4, rfl, ho4, hb4⟩
    have hat4 := ho4.own.at
    clear ho4
    obtain ⟨va4, vc4, rfl, ra, rc⟩ := hat4
    obtain ⟨ov3, cv3, rfl, -, -⟩ := id ra
    obtain ⟨ow3, cw3, rfl, -, -⟩ := id rc
    clear ra rc
    have hs4 := hb4.size
    have b4 : Below w.heap.size w w4 := b3.trans (hb4.mono (by omega))
    have A4 := A3.below hb4
    have y4 := z3.trans (hb4.mono (by omega))
    clear A3 z3 hb4 b2 b3
    have Az : Blk 27 (w4.alloc (.cells #[.slice none 0 0, .slice none 0 0] 27)) w4.heap.size #[.slice none 0 0, .slice none 0 0] := Blk.new _ _ _
    have A5 := Az.setRow #[.slice ov3 emptyS.attrs.length cv3, .slice ow3 emptyS.classes.length cw3]
    have z5 : Below w4.heap.size w4 ((w4.alloc (.cells #[.slice none 0 0, .slice none 0 0] 27)).setRow w4.heap.size #[.slice ov3 emptyS.attrs.length cv3, .slice ow3 emptyS.classes.length cw3]) := below_row ((Below.refl _ _).alloc (Nat.le_refl _) _) (Nat.le_refl _) _
    have A5' := A4.below z5
    have p0 : ((w4.alloc (.cells #[.slice none 0 0, .slice none 0 0] 27)).setRow w4.heap.size #[.slice ov3 emptyS.attrs.length cv3, .slice ow3 emptyS.classes.length cw3]).cell? ⟨w2.heap.size, 0, none⟩ = some (.slice ov2 emptyS.attrs.length cv2) := A5'.cell 0
    have p1 : ((w4.alloc (.cells #[.slice none 0 0, .slice none 0 0] 27)).setRow w4.heap.size #[.slice ov3 emptyS.attrs.length cv3, .slice ow3 emptyS.classes.length cw3]).cell? ⟨w2.heap.size, 1, none⟩ = some (.slice ow2 emptyS.classes.length cw2) := A5'.cell 1
    go_wp2_with (with_reducible refine wp_sc_store rfl _ _ rfl ?_; refine ⟨w4.heap.size, rfl, _, _, _, _, _, _, rfl, _, _, Az, ?_⟩; clear Az; generalize ((w4.alloc (.cells #[.slice none 0 0, .slice none 0 0] 27)).setRow w4.heap.size #[.slice ov3 emptyS.attrs.length cv3, .slice ow3 emptyS.classes.length cw3]) = w5 at A5 z5 A5' p0 p1 ⊢)
    have hs5 := z5.size
    have b5 : Below w.heap.size w w5 := b4.trans (z5.mono (by omega))
    have y5 := y4.trans (z5.mono (by omega))
    clear A4 y4 b4 A5
    have c2 := implSchemaText_any (.agg #[.slice ov2 emptyS.attrs.length cv2, .slice ow2 emptyS.classes.length cw2]) emptyS w5 (HS.out w5 y5) HOK.out (Env.tabR (HE.out w5 b5))
    rw [empty_text] at c2
    go_wp2_with fail
    refine c2.mono ?_
    clear c2 p0 p1
    rintro e w6 ⟨rfl, hb6⟩
    go_wp2
    go_ret
    exact ⟨by simp, b5.trans (hb6.mono (by omega))⟩

theorem schRead_walk (a0 : Option Addr) (len0 cap0 : Nat) (z0 : List Int) (w : World) (h0 : IsRow .u8 w a0 len0 cap0 z0) (u : TypeId) (ev : Value) (m : Int) (hE : Env u ev m w) :
    Calls Tryz.prog 4 #[.slice a0 len0 cap0] w fun e w' => e = .returned (.bool true) ∧ Below w.heap.size w w' := by
  by_cases hlen : len0 ≤ 1048576
  · exact schRead_in a0 len0 cap0 z0 w h0 u ev m hE hlen
  · have c1 := big_any a0 len0 cap0 w h0.le
    rw [decide_eq_true (by omega)] at c1
    clear h0 hE
    go_enter Tryz.func4, Tryz.ntmps4
    go_wp2_with fail
    refine c1.mono ?_
    clear c1
    rintro e w0 ⟨rfl, e0⟩
    rw [e0]; clear e0 w0
    go_wp2
    go_ret
    exact ⟨rfl, Below.refl _ _⟩
end Go.Proofs.YtndnplpmkkdieaaGreatDoor
