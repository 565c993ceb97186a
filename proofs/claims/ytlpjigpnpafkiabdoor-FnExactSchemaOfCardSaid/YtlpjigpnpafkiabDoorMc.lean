/- What the laws' own helpers write over a schema, and look at again. -/
import Derived.Test.YtlpjigpnpafkiabDoorMb
import Derived.Test.YtlpjigpnpafkiabDoorSofq
namespace Go.Proofs.YtlpjigpnpafkiabDoor
open Go.RowKit
set_option maxRecDepth 100000

theorem own_keptS {w w' : World} {R : Nat → Prop} {b e s n : Nat} {v : Value} {xs : List Value} (h : w.ownsRow b e s v n xs) (hg : GrownS w w' R) (hr : ∀ k, v.ownBlock = some k → ¬ R k) : w'.ownsRow b e s v n xs := by
  refine ⟨h.1, ?_⟩
  rcases h.2 with h' | ⟨g, cap, cur, rfl, hgb, hc, r⟩
  · exact .inl h'
  · refine .inr ⟨g, cap, cur, rfl, hgb, ?_, r⟩
    rw [hg.block g (Array.getElem?_eq_some_iff.1 hc).1 (hr g rfl)]; exact hc
def pOf (ls : List AttrD) (j : Nat) : Nat := (ad ls j).cuts.length
def qOf (ls : List AttrD) (j : Nat) : Nat := (ad ls j).vals.length
theorem SepL.spine {base : Nat} {w : World} {v : Value} {L : Nat → Value × Value} {ys : List Value} {ls : List AttrD} {n : Nat} (h : SepL base w v L ys ls n) (K : Nat → Nat) : Spine base w v L K n 0 ys :=
  ⟨h.row, fun j hj => ⟨(h.cells j hj).2.1, (h.cells j hj).2.2⟩, fun j hj => by omega⟩
theorem SepL.rows {base : Nat} {w : World} {v : Value} {L : Nat → Value × Value} {ys : List Value} {ls : List AttrD} {n : Nat} (h : SepL base w v L ys ls n) (K : Nat → Nat) : Rows2 base w L (pOf ls) (qOf ls) K n 0 0 :=
  ⟨fun j hj => ⟨_, h.ints j hj, fun h => by omega⟩, fun j hj => ⟨_, h.strs j hj, fun h => by omega⟩⟩
theorem ne_of_ord {x y : Value} (h : ∀ a b, x.ownBlock = some a → y.ownBlock = some b → a ≠ b) : x.ownBlock = none ∨ x.ownBlock ≠ y.ownBlock := by
  cases e : x.ownBlock with
  | none => exact .inl rfl
  | some a => exact .inr fun e' => h a a e e'.symm rfl
theorem SepL.ord {base : Nat} {w : World} {v : Value} {L : Nat → Value × Value} {ys : List Value} {ls : List AttrD} {n : Nat} (h : SepL base w v L ys ls n) : Ord L n := by
  refine ⟨fun i j hi hj hne => ne_of_ord fun a b ha hb => ?_, fun i j hi hj hne => ne_of_ord fun a b ha hb => ?_⟩
  · rcases Nat.lt_or_gt_of_ne hne with h1 | h1
    · have := h.ord1 i j a b h1 hj ha hb; omega
    · have := h.ord1 j i b a h1 hi hb ha; omega
  · rcases Nat.lt_or_gt_of_ne hne with h1 | h1
    · have := h.ord2 i j a b h1 hj ha hb; omega
    · have := h.ord2 j i b a h1 hi hb ha; omega
/-- A schema whose lists bear the law's marks. -/
structure MarkSch (base : Nat) (w : World) (va vc : Value) (L : Nat → Value × Value) (p q : Nat → Nat) (n c k0 : Nat) : Prop where
  spine : ∃ ys, Spine base w va L (mkK k0 p q) n n ys
  rows : Rows2 base w L p q (mkK k0 p q) n n n
  cls : ∃ zs, w.ownsRow base 9 1 vc c zs ∧ ∀ t, t < c → zs[t]? = some (mkS (mkK k0 p q n) t)
theorem MarkSch.below {base : Nat} {w w' : World} {va vc : Value} {L : Nat → Value × Value} {p q : Nat → Nat} {n c k0 : Nat} (h : MarkSch base w va vc L p q n c k0) (hb : Below w.heap.size w w') : MarkSch base w' va vc L p q n c k0 := by
  obtain ⟨ys, h1⟩ := h.spine
  obtain ⟨zs, h2, h3⟩ := h.cls
  exact ⟨⟨ys, h1.below hb⟩, h.rows.below hb, zs, own_below h2 hb, h3⟩
/-- The blocks that the marks of a schema may turn. -/
def InS (va vc : Value) (L : Nat → Value × Value) (n : Nat) (k : Nat) : Prop := InL va L n k ∨ vc.ownBlock = some k
theorem GrownS.mono {w w' : World} {R R' : Nat → Prop} (h : GrownS w w' R) (hr : ∀ k, R k → R' k) : GrownS w w' R' := ⟨h.os, h.tape, h.output, h.size, fun k hk hn => h.block k hk fun e => hn (hr k e)⟩
theorem GrownS.alloc {w w' : World} {R : Nat → Prop} {o : Obj} (h : GrownS (w.alloc o) w' R) : GrownS w w' R :=
  ⟨h.os, h.tape, h.output, by have := h.size; rw [World.size_alloc] at this; omega, fun k hk hn => (h.block k (by rw [World.size_alloc]; omega) hn).trans (((Below.refl w.heap.size w).alloc (Nat.le_refl _) o).block k hk)⟩

theorem markAttrS_all (v : Value) (n base k0 : Nat) (L : Nat → Value × Value) (p q : Nat → Nat) (ys : List Value) (w : World) (hS : Spine base w v L (mkK k0 p q) n 0 ys) (hR : Rows2 base w L p q (mkK k0 p q) n 0 0) (hO : Ord L n)
    (hn : n ≤ 1048576) (h0 : 0 < k0) (hK : mkK k0 p q n ≤ 1099511627776) :
    Calls Tryd.prog 51 #[v, .int .i64 (k0 : Int)] w fun e w' => e = .returned (.int .i64 ((mkK k0 p q n : Nat) : Int)) ∧ (∃ ys, Spine base w' v L (mkK k0 p q) n n ys) ∧ Rows2 base w' L p q (mkK k0 p q) n n n ∧ GrownS w w' (InL v L n) := by
  have hform : ∀ j, j < n → (∃ a l c, (L j).1 = .slice a l c) ∧ ∃ a l c, (L j).2 = .slice a l c := fun j hj => by
    obtain ⟨xs, h1, _⟩ := hR.ints j hj
    obtain ⟨zs, h2, _⟩ := hR.strs j hj
    obtain ⟨a, c, e⟩ := own_form h1
    obtain ⟨a', c', e'⟩ := own_form h2
    exact ⟨⟨a, _, c, e⟩, a', _, c', e'⟩
  rcases id hS.row.2 with ⟨rfl, rfl⟩ | ⟨g, cap, cur, rfl, _⟩
  · refine (markAttrS_zero k0 w).mono fun e w' ⟨he, hw⟩ => ?_
    subst he hw
    exact ⟨rfl, ⟨ys, hS⟩, hR, GrownS.refl _ _⟩
  · exact markAttrS_pos g cap n base k0 L p q ys w hS hR hO hn h0 hK hform
theorem heldAttrS_all (v : Value) (n base k0 : Nat) (L : Nat → Value × Value) (p q : Nat → Nat) (ys : List Value) (w : World) (hS : Spine base w v L (mkK k0 p q) n n ys) (hR : Rows2 base w L p q (mkK k0 p q) n n n)
    (hn : n ≤ 1048576) (h0 : 0 < k0) (hK : mkK k0 p q n ≤ 1099511627776) :
    Calls Tryd.prog 52 #[v, .int .i64 (k0 : Int)] w fun e w' => e = .returned (.int .i64 ((mkK k0 p q n : Nat) : Int)) ∧ Below w.heap.size w w' := by
  have hform : ∀ j, j < n → (∃ a l c, (L j).1 = .slice a l c) ∧ ∃ a l c, (L j).2 = .slice a l c := fun j hj => by
    obtain ⟨xs, h1, _⟩ := hR.ints j hj
    obtain ⟨zs, h2, _⟩ := hR.strs j hj
    obtain ⟨a, c, e⟩ := own_form h1
    obtain ⟨a', c', e'⟩ := own_form h2
    exact ⟨⟨a, _, c, e⟩, a', _, c', e'⟩
  rcases id hS.row.2 with ⟨rfl, rfl⟩ | ⟨g, cap, cur, rfl, _⟩
  · refine (heldAttrS_zero k0 w).mono fun e w' ⟨he, hw⟩ => ?_
    subst he hw
    exact ⟨rfl, Below.refl _ _⟩
  · exact heldAttrS_pos g cap n base k0 L p q ys w hS hR hn h0 hK hform

set_option maxHeartbeats 800000 in
theorem markSchema_any (va vc : Value) (L : Nat → Value × Value) (ys zs : List Value) (ls : List AttrD) (n c base k0 : Nat) (w : World) (h : SepL base w va L ys ls n) (hc : w.ownsRow base 9 1 vc c zs)
    (hord : ∀ j a b, j < n → vc.ownBlock = some a → (L j).2.ownBlock = some b → a < b) (hn : n ≤ 1048576) (hcl : c ≤ 1048576) (h0 : 0 < k0) (hK : mkK k0 (pOf ls) (qOf ls) n ≤ 1099511627776) :
    Calls Tryd.prog 23 #[.agg #[va, vc], .int .i64 (k0 : Int)] w fun e w' => e = .returned (.int .i64 ((mkK k0 (pOf ls) (qOf ls) n + c : Nat) : Int)) ∧ MarkSch base w' va vc L (pOf ls) (qOf ls) n c k0 ∧ GrownS w w' (InS va vc L n) := by
  obtain ⟨K, B0⟩ := blk_1 43 w #[va, vc]
  have h1 := h.below B0
  have hc1 := own_below hc B0
  have cA := markAttrS_all va n base k0 L (pOf ls) (qOf ls) ys _ (h1.spine _) (h1.rows _) h.ord hn h0 hK
  have HP : Hid (0 < mkK k0 (pOf ls) (qOf ls) n) := mkK_pos h0 n
  have HLT : Hid (∀ k, InL va L n k → k < w.heap.size) := by
    intro k hk
    rcases hk with hk | ⟨j, hj, hk | hk⟩
    · exact (h.row.lt k hk).2
    · exact ((h.ints j hj).lt k hk).2
    · exact ((h.strs j hj).lt k hk).2
  have HNI : Hid (∀ k, vc.ownBlock = some k → ¬ InL va L n k) := by
    intro k hk hin
    rcases hin with hin | ⟨j, hj, hin | hin⟩
    · rcases apart_ty hc h.row (by decide) with e | e
      · rw [e] at hk; cases hk
      · exact e (hk.trans hin.symm)
    · rcases apart_ty hc (h.ints j hj) (by decide) with e | e
      · rw [e] at hk; cases hk
      · exact e (hk.trans hin.symm)
    · have := hord j k k hj hk hin; omega
  have HC1 : Hid ((w.alloc (.cells #[va, vc] 43)).ownsRow base 9 1 vc c zs) := hc1
  have HN2 : Hid (∀ j, j < n → (L j).2.ownBlock = none ∨ (L j).2.ownBlock ≠ vc.ownBlock) := fun j hj => ne_of_ord fun a b ha hb => by have := hord j b a hj hb ha; omega
  clear h h1 hc hc1 hord
  go_enter Tryd.func23, Tryd.ntmps23
  go_wp2_with fail
  refine cA.mono ?_
  rintro e w1 ⟨rfl, ⟨ys1, hs1⟩, hr1, hg1⟩
  clear cA
  have K1 := hg1.blk K (fun e => by have := HLT.out _ e; omega)
  have hcv := own_keptS HC1.out hg1 HNI.out
  have k1 : w1.cell? ⟨w.heap.size, 1, none⟩ = some vc := K1.cell 1
  have cS := markS_all c base (mkK k0 (pOf ls) (qOf ls) n) vc zs w1 (by omega) HP.out (by omega) hcv
  have HX : Hid (Spine base w1 va L (mkK k0 (pOf ls) (qOf ls)) n n ys1 ∧ Rows2 base w1 L (pOf ls) (qOf ls) (mkK k0 (pOf ls) (qOf ls)) n n n ∧ GrownS (w.alloc (.cells #[va, vc] 43)) w1 (InL va L n) ∧ w1.ownsRow base 9 1 vc c zs) := ⟨hs1, hr1, hg1, hcv⟩
  clear hs1 hr1 hg1 hcv K K1
  go_wp2_with fail
  refine cS.mono ?_
  rintro e w2 ⟨rfl, ⟨us, ho2, hus⟩, hg2⟩
  clear cS k1
  obtain ⟨hs1, hr1, hg1, hcv⟩ := HX.out
  have S2 := hs1.kept hg2 (apart_ty hs1.row hcv (by decide))
  have R2 := hr1.kept hg2 (fun j hj => by obtain ⟨xs, a, _⟩ := hr1.ints j hj; exact apart_ty a hcv (by decide)) HN2.out
  have G2 : GrownS w w2 (InS va vc L n) := (hg1.alloc.mono (fun k hk => .inl hk)).grown hg2 (fun j hj => .inl (.inr hj))
  have HY : Hid (MarkSch base w2 va vc L (pOf ls) (qOf ls) n c k0 ∧ GrownS w w2 (InS va vc L n)) := ⟨⟨⟨_, S2⟩, R2, us, ho2, hus⟩, G2⟩
  clear S2 R2 G2 hs1 hr1 hg1 hcv HX ho2 hus hg2
  go_wp2
  go_ret
  exact ⟨ret_int (by omega), HY.out.1, HY.out.2⟩

set_option maxHeartbeats 800000 in
theorem heldSchema_any (va vc : Value) (L : Nat → Value × Value) (p q : Nat → Nat) (n c base k0 : Nat) (w : World) (h : MarkSch base w va vc L p q n c k0) (hn : n ≤ 1048576) (hcl : c ≤ 1048576) (h0 : 0 < k0) (hK : mkK k0 p q n ≤ 1099511627776) :
    Calls Tryd.prog 24 #[.agg #[va, vc], .int .i64 (k0 : Int)] w fun e w' => e = .returned (.int .i64 ((mkK k0 p q n + c : Nat) : Int)) ∧ Below w.heap.size w w' := by
  obtain ⟨K, B0⟩ := blk_1 43 w #[va, vc]
  have h1 := h.below B0
  obtain ⟨ys, hs1⟩ := h1.spine
  have cA := heldAttrS_all va n base k0 L p q ys _ hs1 h1.rows hn h0 hK
  have HP : Hid (0 < mkK k0 p q n) := mkK_pos h0 n
  have HH : Hid (MarkSch base (w.alloc (.cells #[va, vc] 43)) va vc L p q n c k0) := h1
  clear h h1 hs1
  go_enter Tryd.func24, Tryd.ntmps24
  go_wp2_with fail
  refine cA.mono ?_
  rintro e w1 ⟨rfl, hb1⟩
  clear cA
  obtain ⟨zs, hc, hz⟩ := (HH.out.below hb1).cls
  have k1 : w1.cell? ⟨w.heap.size, 1, none⟩ = some vc := (K.below hb1).cell 1
  have cS := heldS_all c base (mkK k0 p q n) vc zs w1 (by omega) HP.out (by omega) hc hz
  have n1 : ¬ ((mkK k0 p q n : Nat) : Int) < 0 := by omega
  have n2 : ¬ ((mkK k0 p q n : Nat) : Int) + (c : Int) < 0 := by omega
  have B1 := B0.trans (hb1.mono B0.size)
  clear hc hz hb1 B0 K
  go_wp2_with fail
  refine cS.mono ?_
  rintro e w2 ⟨rfl, hb2⟩
  clear cS
  go_wp2
  go_ret
  exact ⟨ret_int (by omega), B1.trans (hb2.mono B1.size)⟩
end Go.Proofs.YtlpjigpnpafkiabDoor
