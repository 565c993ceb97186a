/- Two attributes, two schemas held against each other, by the program. -/
import Derived.Test.YtlpjigpnpafkiabSm
namespace Go.Proofs.Ytlpjigpnpafkiab
open Go.RowKit
set_option maxRecDepth 100000

def attrSame (a b : AttrD) : Bool := decide (a.name = b.name) && (decide (a.cuts = b.cuts) && decide (a.vals = b.vals))
theorem attrSame_iff {a b : AttrD} : attrSame a b = true ↔ a = b := by
  unfold attrSame
  rw [Bool.and_eq_true, Bool.and_eq_true, decide_eq_true_eq, decide_eq_true_eq, decide_eq_true_eq]
  constructor
  · rintro ⟨h1, h2, h3⟩; cases a; cases b; simp at h1 h2 h3; simp [h1, h2, h3]
  · rintro rfl; exact ⟨rfl, rfl, rfl⟩
def attrsSame (a b : List AttrD) : Bool := decide (a.length = b.length) && (List.range a.length).all fun j => attrSame (ad a j) (ad b j)
theorem as_yes {a b : List AttrD} (hl : a.length = b.length) (h : ∀ j, j < a.length → attrSame (ad a j) (ad b j) = true) : attrsSame a b = true := by
  unfold attrsSame
  rw [Bool.and_eq_true, List.all_eq_true]
  exact ⟨decide_eq_true hl, fun j hj => h j (List.mem_range.1 hj)⟩
theorem as_no {a b : List AttrD} (k : Nat) (hk : k < a.length) (h : attrSame (ad a k) (ad b k) = false) : attrsSame a b = false := by
  cases e : attrsSame a b with
  | false => rfl
  | true =>
    unfold attrsSame at e
    rw [Bool.and_eq_true, List.all_eq_true] at e
    have := e.2 k (List.mem_range.2 hk)
    rw [h] at this; cases this
theorem as_len {a b : List AttrD} (h : a.length ≠ b.length) : attrsSame a b = false := by unfold attrsSame; rw [decide_eq_false h]; rfl
theorem attrsSame_iff {a b : List AttrD} : attrsSame a b = true ↔ a = b := by
  constructor
  · intro h
    unfold attrsSame at h
    rw [Bool.and_eq_true, List.all_eq_true, decide_eq_true_eq] at h
    apply List.ext_getElem h.1
    intro i h1 h2
    have := attrSame_iff.1 (h.2 i (List.mem_range.2 h1))
    rwa [ad_eq h1, ad_eq h2] at this
  · rintro rfl
    exact as_yes rfl fun j _ => attrSame_iff.2 rfl
def schemaSame (a b : SchemaD) : Bool := attrsSame a.attrs b.attrs && decide (a.classes = b.classes)
theorem schemaSame_iff {a b : SchemaD} : schemaSame a b = true ↔ a = b := by
  unfold schemaSame
  rw [Bool.and_eq_true, attrsSame_iff, decide_eq_true_eq]
  constructor
  · rintro ⟨h1, h2⟩; cases a; cases b; simp at h1 h2; simp [h1, h2]
  · rintro rfl; exact ⟨rfl, rfl⟩

set_option maxHeartbeats 800000 in
theorem attrSame_any (va vb : Value) (a b : AttrD) (w : World) (ha : AttrAt w va a) (hb : AttrAt w vb b) (hn : okA a) :
    Calls Try.prog 16 #[va, vb] w fun e w' => e = .returned (.bool (attrSame a b)) ∧ Below w.heap.size w w' := by
  obtain ⟨ca, sa, rfl, ha1, ha2⟩ := ha
  obtain ⟨cb, sb, rfl, hb1, hb2⟩ := hb
  have HA : Hid (RowI w ca a.cuts ∧ RowS w sa a.vals ∧ RowI w cb b.cuts ∧ RowS w sb b.vals ∧ okA a) := ⟨ha1, ha2, hb1, hb2, hn⟩
  clear ha1 ha2 hb1 hb2 hn
  obtain ⟨K1, K2, B0⟩ := blk_2 38 38 w #[.string a.name, ca, sa] #[.string b.name, cb, sb]
  obtain ⟨h1, h2, h3, h4, hn⟩ := HA.out
  have c1 := libSameI_any ca cb a.cuts b.cuts _ (h1.later B0) (h3.later B0) hn.cuts
  by_cases he : a.name = b.name
  rotate_left
  · have HF : Hid (attrSame a b = false) := by unfold attrSame; rw [decide_eq_false he]; rfl
    have hq : (a.name.toList == b.name.toList) = false := by rw [beq_eq_false_iff_ne]; exact fun h => he (bytes_eq_iff.1 h)
    clear he h1 h2 h3 h4 hn K1 K2 c1 HA
    go_enter Try.func16, Try.ntmps16
    go_wp2
    go_ret
    exact ⟨by rw [HF.out]; rfl, B0⟩
  have hq : (a.name.toList == b.name.toList) = true := by rw [he]; simp
  have HE : Hid (a.name = b.name) := he
  clear he
  cases hc : decide (a.cuts = b.cuts) with
  | false =>
    have HF : Hid (attrSame a b = false) := show attrSame a b = false by unfold attrSame; rw [hc]; simp
    rw [hc] at c1
    clear h1 h2 h3 h4 hn K1 K2 HA hc
    go_enter Try.func16, Try.ntmps16
    go_wp2_with fail
    refine c1.mono ?_
    rintro e w1 ⟨rfl, hb1⟩
    clear c1
    go_wp2
    go_ret
    exact ⟨by rw [HF.out]; rfl, B0.trans (hb1.mono B0.size)⟩
  | true =>
    have HF : Hid (attrSame a b = decide (a.vals = b.vals)) := show attrSame a b = decide (a.vals = b.vals) by unfold attrSame; rw [hc, decide_eq_true HE.out]; rfl
    rw [hc] at c1
    clear h1 h2 h3 h4 hn hc
    go_enter Try.func16, Try.ntmps16
    go_wp2_with fail
    refine c1.mono ?_
    rintro e w1 ⟨rfl, hb1⟩
    clear c1
    obtain ⟨h1, h2, h3, h4, hn⟩ := HA.out
    have B1 := B0.trans (hb1.mono B0.size)
    have c2 := libSameS_any sa sb a.vals b.vals _ (h2.later B1) (h4.later B1) hn.vals.1
    have k1 : w1.cell? ⟨w.heap.size, 2, none⟩ = some sa := (K1.below hb1).cell 2
    have k2 : w1.cell? ⟨w.heap.size + 1, 2, none⟩ = some sb := (K2.below hb1).cell 2
    clear h1 h2 h3 h4 hn HA K1 K2 hb1 B0
    go_wp2_with fail
    refine c2.mono ?_
    rintro e w2 ⟨rfl, hb2⟩
    clear c2
    go_wp2
    go_ret
    exact ⟨by rw [HF.out]; rfl, B1.trans (hb2.mono B1.size)⟩

set_option maxHeartbeats 800000 in
theorem equalFunc_any (va vb : Value) (la lb : List AttrD) (w : World) (ha : RowA w va la) (hb : RowA w vb lb) (hna : la.length ≤ 1099511627776) (he : ∀ a ∈ la, okA a) :
    Calls Try.prog 15 #[va, vb, .func (.func 16) #[] #[]] w fun e w' => e = .returned (.bool (attrsSame la lb)) ∧ Below w.heap.size w w' := by
  obtain ⟨oa, ca, rfl, hca, hra⟩ := ha
  obtain ⟨ob, cb, rfl, hcb, hrb⟩ := hb
  have HA : Hid (0 < la.length → ∃ g o, oa = some ⟨g, o, none⟩ ∧ g < w.heap.size ∧ ∀ j, j < la.length → CellsA w g (o + j * 3) (ad la j)) := hra
  have HB : Hid (0 < lb.length → ∃ g o, ob = some ⟨g, o, none⟩ ∧ g < w.heap.size ∧ ∀ j, j < lb.length → CellsA w g (o + j * 3) (ad lb j)) := hrb
  have HE : Hid (∀ a ∈ la, okA a) := he
  clear hra hrb he
  by_cases hl : la.length = lb.length
  rotate_left
  · have HF : Hid (attrsSame la lb = false) := as_len hl
    have hq : ((la.length : Int) == (lb.length : Int)) = false := by simp; omega
    go_enter Try.func15, Try.ntmps15
    go_wp2
    go_ret
    exact ⟨by rw [HF.out]; rfl, Below.refl _ _⟩
  have HL : Hid (la.length = lb.length) := hl
  obtain ⟨n, hn⟩ : ∃ n, n = la.length := ⟨_, rfl⟩
  have HNA : Hid (n = la.length) := hn
  have HNB : Hid (n = lb.length) := hn.trans hl
  rw [← hl, ← hn]
  rw [← hn] at hca hna
  clear hl hn hcb
  go_enter Try.func15, Try.ntmps15
  go_wp2
  go_loopw [17] (fun i wr => ∃ k : Nat, i = .int .i64 k ∧ k ≤ n ∧ (∀ j, j < k → attrSame (ad la j) (ad lb j) = true) ∧ Below w.heap.size w wr) (fun i _ => n - (intOf i).toNat)
  case atStart => exact ⟨0, rfl, by omega, by omega, Below.refl _ _⟩
  case round =>
    obtain ⟨k, rfl, hk, hal, hbr⟩ := hrel
    have HK : Hid (∀ j, j < k → attrSame (ad la j) (ad lb j) = true) := hal
    clear hal
    by_cases hlt : k < n
    · obtain ⟨g, o, rfl, hg, hj⟩ := HA.out (by have := HNA.out; omega)
      obtain ⟨g', o', rfl, hg', hj'⟩ := HB.out (by have := HNB.out; omega)
      obtain ⟨vc, vv, p0, p1, p2, r1, r2⟩ := (hj k (by have := HNA.out; omega)).later hbr hg
      obtain ⟨vc', vv', p0', p1', p2', r1', r2'⟩ := (hj' k (by have := HNB.out; omega)).later hbr hg'
      obtain ⟨o1, c1, rfl, -, -⟩ := id r1
      obtain ⟨o2, c2, rfl, -, -⟩ := id r2
      obtain ⟨o3, c3, rfl, -, -⟩ := id r1'
      obtain ⟨o4, c4, rfl, -, -⟩ := id r2'
      obtain ⟨K1, K2, B0⟩ := blk_2 38 38 wr #[.string (ad la k).name, .slice o1 (ad la k).cuts.length c1, .slice o2 (ad la k).vals.length c2] #[.string (ad lb k).name, .slice o3 (ad lb k).cuts.length c3, .slice o4 (ad lb k).vals.length c4]
      have c := attrSame_any _ _ (ad la k) (ad lb k) _ ⟨_, _, rfl, r1.later B0, r2.later B0⟩ ⟨_, _, rfl, r1'.later B0, r2'.later B0⟩ (HE.out _ (ad_mem (by have := HNA.out; omega)))
      have hgr : g' < wr.heap.size := Nat.lt_of_lt_of_le hg' hbr.size
      have q0 := fun o => (World.cell?_alloc_past o g' (o' + k * 3) hgr).trans p0'
      have q1 := fun o => (World.cell?_alloc_past o g' (o' + k * 3 + 1) hgr).trans p1'
      have q2 := fun o => (World.cell?_alloc_past o g' (o' + k * 3 + 2) hgr).trans p2'
      clear hj hj' r1 r2 r1' r2' K1 K2
      cases hs : attrSame (ad la k) (ad lb k) with
      | false =>
        have HF : Hid (attrsSame la lb = false) := as_no k (by have := HNA.out; omega) hs
        rw [hs] at c
        clear hs
        go_wp2_with fail
        refine c.mono ?_
        rintro e w1 ⟨rfl, hb1⟩
        have hb2 := hbr.trans ((B0.trans (hb1.mono B0.size)).mono hbr.size)
        clear c hb1 B0
        go_wp2
        go_ret
        exact ⟨by rw [HF.out]; rfl, hb2⟩
      | true =>
        have HS : Hid (attrSame (ad la k) (ad lb k) = true) := hs
        rw [hs] at c
        clear hs
        go_wp2_with fail
        refine c.mono ?_
        rintro e w1 ⟨rfl, hb1⟩
        have hb2 := hbr.trans ((B0.trans (hb1.mono B0.size)).mono hbr.size)
        clear c hb1 B0
        go_wp2
        go_roundw
        case rel =>
          refine ⟨k + 1, by go_num, by omega, ?_, hb2⟩
          intro j hj
          by_cases e : j = k
          · subst e; exact HS.out
          · exact HK.out j (by omega)
        case measure => simp [intOf]; omega
    · have HF : Hid (attrsSame la lb = true) := as_yes HL.out fun j hj => HK.out j (by have := HNA.out; omega)
      go_wp2
      go_ret
      exact ⟨by rw [HF.out]; rfl, hbr⟩

theorem implSame_any (va vb : Value) (a b : SchemaD) (w : World) (ha : SchemaAt w va a) (hb : SchemaAt w vb b) (hn : okSch a) :
    Calls Try.prog 7 #[va, vb] w fun e w' => e = .returned (.bool (schemaSame a b)) ∧ Below w.heap.size w w' := by
  obtain ⟨ca, sa, rfl, ha1, ha2⟩ := ha
  obtain ⟨cb, sb, rfl, hb1, hb2⟩ := hb
  have HA : Hid (RowA w ca a.attrs ∧ RowS w sa a.classes ∧ RowA w cb b.attrs ∧ RowS w sb b.classes ∧ okSch a) := ⟨ha1, ha2, hb1, hb2, hn⟩
  clear ha1 ha2 hb1 hb2 hn
  obtain ⟨K1, K2, B0⟩ := blk_2 30 30 w #[ca, sa] #[cb, sb]
  obtain ⟨h1, h2, h3, h4, hn⟩ := HA.out
  have c1 := equalFunc_any ca cb a.attrs b.attrs _ (h1.later B0) (h3.later B0) hn.attrs hn.each
  cases hc : attrsSame a.attrs b.attrs with
  | false =>
    have HF : Hid (schemaSame a b = false) := by unfold schemaSame; rw [hc]; rfl
    rw [hc] at c1
    clear h1 h2 h3 h4 hn K1 K2 HA hc
    go_enter Try.func7, Try.ntmps7
    go_wp2_with fail
    refine c1.mono ?_
    rintro e w1 ⟨rfl, hb1⟩
    clear c1
    go_wp2
    go_ret
    exact ⟨by rw [HF.out]; rfl, B0.trans (hb1.mono B0.size)⟩
  | true =>
    have HF : Hid (schemaSame a b = decide (a.classes = b.classes)) := by unfold schemaSame; rw [hc]; rfl
    rw [hc] at c1
    clear h1 h2 h3 h4 hn hc
    go_enter Try.func7, Try.ntmps7
    go_wp2_with fail
    refine c1.mono ?_
    rintro e w1 ⟨rfl, hb1⟩
    clear c1
    obtain ⟨h1, h2, h3, h4, hn⟩ := HA.out
    have B1 := B0.trans (hb1.mono B0.size)
    have c2 := libSameS_any sa sb a.classes b.classes _ (h2.later B1) (h4.later B1) hn.classes.1
    have k1 : w1.cell? ⟨w.heap.size, 1, none⟩ = some sa := (K1.below hb1).cell 1
    have k2 : w1.cell? ⟨w.heap.size + 1, 1, none⟩ = some sb := (K2.below hb1).cell 1
    clear h1 h2 h3 h4 hn HA K1 K2 hb1 B0
    go_wp2_with fail
    refine c2.mono ?_
    rintro e w2 ⟨rfl, hb2⟩
    clear c2
    go_wp2
    go_ret
    exact ⟨by rw [HF.out]; rfl, B1.trans (hb2.mono B1.size)⟩
end Go.Proofs.Ytlpjigpnpafkiab
