/- Texts of this claim, put together: part 16. -/
import Derived.Test.YtlpjigpnpafkiabDoorSchemaOfPack15
import Derived.Test.YtlpjigpnpafkiabDoorSchemaOfPack11
import Derived.Test.YtlpjigpnpafkiabDoorSchemaOfPack5
import Derived.Test.YtlpjigpnpafkiabDoorSchemaOfPack14
import Derived.Test.YtlpjigpnpafkiabDoorSchemaOfPack4
import Derived.Lib.QuietBelow
import Derived.Test.YtlpjigpnpafkiabDoorSchemaOfPack13
/- What the laws' own helpers write over a schema, and look at again. -/
namespace Go.Proofs.YtlpjigpnpafkiabDoor
open Go.RowKit
set_option maxRecDepth 100000

theorem own_keptS {w w' : World} {R : Nat → Prop} {b e s n : Nat} {v : Value} {xs : List Value} (h : w.ownsRow b e s v n xs) (hg : GrownS w w' R) (hr : ∀ k, v.ownBlock = some k → ¬ R k) : w'.ownsRow b e s v n xs := by
  refine ⟨h.1, ?_⟩
  rcases h.2 with h' | ⟨g, cap, cur, rfl, hgb, hc, r⟩
  · exact .inl h'
  · refine .inr ⟨g, cap, cur, rfl, hgb, ?_, r⟩
    rw [hg.block g (Array.getElem?_eq_some_iff.1 hc).1 (hr g rfl)]; exact hc
def pOf (ls : List AttrD) (j : Nat) : Nat := (ad ls j).cuts.length
def qOf (ls : List AttrD) (j : Nat) : Nat := (ad ls j).vals.length
theorem SepL.spine {base : Nat} {w : World} {v : Value} {L : Nat → Value × Value} {ys : List Value} {ls : List AttrD} {n : Nat} (h : SepL base w v L ys ls n) (K : Nat → Nat) : Spine base w v L K n 0 ys :=
  ⟨h.row, fun j hj => ⟨(h.cells j hj).2.1, (h.cells j hj).2.2⟩, fun j hj => by omega⟩
theorem SepL.rows {base : Nat} {w : World} {v : Value} {L : Nat → Value × Value} {ys : List Value} {ls : List AttrD} {n : Nat} (h : SepL base w v L ys ls n) (K : Nat → Nat) : Rows2 base w L (pOf ls) (qOf ls) K n 0 0 :=
  ⟨fun j hj => ⟨_, h.ints j hj, fun h => by omega⟩, fun j hj => ⟨_, h.strs j hj, fun h => by omega⟩⟩
theorem ne_of_ord {x y : Value} (h : ∀ a b, x.ownBlock = some a → y.ownBlock = some b → a ≠ b) : x.ownBlock = none ∨ x.ownBlock ≠ y.ownBlock := by
  cases e : x.ownBlock with
  | none => exact .inl rfl
  | some a => exact .inr fun e' => h a a e e'.symm rfl
theorem SepL.ord {base : Nat} {w : World} {v : Value} {L : Nat → Value × Value} {ys : List Value} {ls : List AttrD} {n : Nat} (h : SepL base w v L ys ls n) : Ord L n := by
  refine ⟨fun i j hi hj hne => ne_of_ord fun a b ha hb => ?_, fun i j hi hj hne => ne_of_ord fun a b ha hb => ?_⟩
  · rcases Nat.lt_or_gt_of_ne hne with h1 | h1
    · have := h.ord1 i j a b h1 hj ha hb; omega
    · have := h.ord1 j i b a h1 hi hb ha; omega
  · rcases Nat.lt_or_gt_of_ne hne with h1 | h1
    · have := h.ord2 i j a b h1 hj ha hb; omega
    · have := h.ord2 j i b a h1 hi hb ha; omega
/-- A schema whose lists bear the law's marks. -/
structure MarkSch (base : Nat) (w : World) (va vc : Value) (L : Nat → Value × Value) (p q : Nat → Nat) (n c k0 : Nat) : Prop where
  spine : ∃ ys, Spine base w va L (mkK k0 p q) n n ys
  rows : Rows2 base w L p q (mkK k0 p q) n n n
  cls : ∃ zs, w.ownsRow base 9 1 vc c zs ∧ ∀ t, t < c → zs[t]? = some (mkS (mkK k0 p q n) t)
theorem MarkSch.below {base : Nat} {w w' : World} {va vc : Value} {L : Nat → Value × Value} {p q : Nat → Nat} {n c k0 : Nat} (h : MarkSch base w va vc L p q n c k0) (hb : Below w.heap.size w w') : MarkSch base w' va vc L p q n c k0 := by
  obtain ⟨ys, h1⟩ := h.spine
  obtain ⟨zs, h2, h3⟩ := h.cls
  exact ⟨⟨ys, h1.below hb⟩, h.rows.below hb, zs, own_below h2 hb, h3⟩
/-- The blocks that the marks of a schema may turn. -/
def InS (va vc : Value) (L : Nat → Value × Value) (n : Nat) (k : Nat) : Prop := InL va L n k ∨ vc.ownBlock = some k
theorem GrownS.mono {w w' : World} {R R' : Nat → Prop} (h : GrownS w w' R) (hr : ∀ k, R k → R' k) : GrownS w w' R' := ⟨h.os, h.tape, h.output, h.size, fun k hk hn => h.block k hk fun e => hn (hr k e)⟩
theorem GrownS.alloc {w w' : World} {R : Nat → Prop} {o : Obj} (h : GrownS (w.alloc o) w' R) : GrownS w w' R :=
  ⟨h.os, h.tape, h.output, by have := h.size; rw [World.size_alloc] at this; omega, fun k hk hn => (h.block k (by rw [World.size_alloc]; omega) hn).trans (((Below.refl w.heap.size w).alloc (Nat.le_refl _) o).block k hk)⟩

theorem markAttrS_all (v : Value) (n base k0 : Nat) (L : Nat → Value × Value) (p q : Nat → Nat) (ys : List Value) (w : World) (hS : Spine base w v L (mkK k0 p q) n 0 ys) (hR : Rows2 base w L p q (mkK k0 p q) n 0 0) (hO : Ord L n)
    (hn : n ≤ 1048576) (h0 : 0 < k0) (hK : mkK k0 p q n ≤ 1099511627776) :
    Calls Tryd.prog 51 #[v, .int .i64 (k0 : Int)] w fun e w' => e = .returned (.int .i64 ((mkK k0 p q n : Nat) : Int)) ∧ (∃ ys, Spine base w' v L (mkK k0 p q) n n ys) ∧ Rows2 base w' L p q (mkK k0 p q) n n n ∧ GrownS w w' (InL v L n) := by
  have hform : ∀ j, j < n → (∃ a l c, (L j).1 = .slice a l c) ∧ ∃ a l c, (L j).2 = .slice a l c := fun j hj => by
    obtain ⟨xs, h1, _⟩ := hR.ints j hj
    obtain ⟨zs, h2, _⟩ := hR.strs j hj
    obtain ⟨a, c, e⟩ := own_form h1
    obtain ⟨a', c', e'⟩ := own_form h2
    exact ⟨⟨a, _, c, e⟩, a', _, c', e'⟩
  rcases id hS.row.2 with ⟨rfl, rfl⟩ | ⟨g, cap, cur, rfl, _⟩
  · refine (markAttrS_zero k0 w).mono fun e w' ⟨he, hw⟩ => ?_
    subst he hw
    exact ⟨rfl, ⟨ys, hS⟩, hR, GrownS.refl _ _⟩
  · exact markAttrS_pos g cap n base k0 L p q ys w hS hR hO hn h0 hK hform
theorem heldAttrS_all (v : Value) (n base k0 : Nat) (L : Nat → Value × Value) (p q : Nat → Nat) (ys : List Value) (w : World) (hS : Spine base w v L (mkK k0 p q) n n ys) (hR : Rows2 base w L p q (mkK k0 p q) n n n)
    (hn : n ≤ 1048576) (h0 : 0 < k0) (hK : mkK k0 p q n ≤ 1099511627776) :
    Calls Tryd.prog 52 #[v, .int .i64 (k0 : Int)] w fun e w' => e = .returned (.int .i64 ((mkK k0 p q n : Nat) : Int)) ∧ Below w.heap.size w w' := by
  have hform : ∀ j, j < n → (∃ a l c, (L j).1 = .slice a l c) ∧ ∃ a l c, (L j).2 = .slice a l c := fun j hj => by
    obtain ⟨xs, h1, _⟩ := hR.ints j hj
    obtain ⟨zs, h2, _⟩ := hR.strs j hj
    obtain ⟨a, c, e⟩ := own_form h1
    obtain ⟨a', c', e'⟩ := own_form h2
    exact ⟨⟨a, _, c, e⟩, a', _, c', e'⟩
  rcases id hS.row.2 with ⟨rfl, rfl⟩ | ⟨g, cap, cur, rfl, _⟩
  · refine (heldAttrS_zero k0 w).mono fun e w' ⟨he, hw⟩ => ?_
    subst he hw
    exact ⟨rfl, Below.refl _ _⟩
  · exact heldAttrS_pos g cap n base k0 L p q ys w hS hR hn h0 hK hform

set_option maxHeartbeats 800000 in
theorem markSchema_any (va vc : Value) (L : Nat → Value × Value) (ys zs : List Value) (ls : List AttrD) (n c base k0 : Nat) (w : World) (h : SepL base w va L ys ls n) (hc : w.ownsRow base 9 1 vc c zs)
    (hord : ∀ j a b, j < n → vc.ownBlock = some a → (L j).2.ownBlock = some b → a < b) (hn : n ≤ 1048576) (hcl : c ≤ 1048576) (h0 : 0 < k0) (hK : mkK k0 (pOf ls) (qOf ls) n ≤ 1099511627776) :
    Calls Tryd.prog 23 #[.agg #[va, vc], .int .i64 (k0 : Int)] w fun e w' => e = .returned (.int .i64 ((mkK k0 (pOf ls) (qOf ls) n + c : Nat) : Int)) ∧ MarkSch base w' va vc L (pOf ls) (qOf ls) n c k0 ∧ GrownS w w' (InS va vc L n) := by
  obtain ⟨K, B0⟩ := blk_1 43 w #[va, vc]
  have h1 := h.below B0
  have hc1 := own_below hc B0
  have cA := markAttrS_all va n base k0 L (pOf ls) (qOf ls) ys _ (h1.spine _) (h1.rows _) h.ord hn h0 hK
  have HP : Hid (0 < mkK k0 (pOf ls) (qOf ls) n) := mkK_pos h0 n
  have HLT : Hid (∀ k, InL va L n k → k < w.heap.size) := by
    intro k hk
    rcases hk with hk | ⟨j, hj, hk | hk⟩
    · exact (h.row.lt k hk).2
    · exact ((h.ints j hj).lt k hk).2
    · exact ((h.strs j hj).lt k hk).2
  have HNI : Hid (∀ k, vc.ownBlock = some k → ¬ InL va L n k) := by
    intro k hk hin
    rcases hin with hin | ⟨j, hj, hin | hin⟩
    · rcases apart_ty hc h.row (by decide) with e | e
      · rw [e] at hk; cases hk
      · exact e (hk.trans hin.symm)
    · rcases apart_ty hc (h.ints j hj) (by decide) with e | e
      · rw [e] at hk; cases hk
      · exact e (hk.trans hin.symm)
    · have := hord j k k hj hk hin; omega
  have HC1 : Hid ((w.alloc (.cells #[va, vc] 43)).ownsRow base 9 1 vc c zs) := hc1
  have HN2 : Hid (∀ j, j < n → (L j).2.ownBlock = none ∨ (L j).2.ownBlock ≠ vc.ownBlock) := fun j hj => ne_of_ord fun a b ha hb => by have := hord j b a hj hb ha; omega
  clear h h1 hc hc1 hord
  go_enter Tryd.func23, Tryd.ntmps23
  go_wp2_with fail
  refine cA.mono ?_
  rintro e w1 ⟨rfl, ⟨ys1, hs1⟩, hr1, hg1⟩
  clear cA
  have K1 := hg1.blk K (fun e => by have := HLT.out _ e; omega)
  have hcv := own_keptS HC1.out hg1 HNI.out
  have k1 : w1.cell? ⟨w.heap.size, 1, none⟩ = some vc := K1.cell 1
  have cS := markS_all c base (mkK k0 (pOf ls) (qOf ls) n) vc zs w1 (by omega) HP.out (by omega) hcv
  have HX : Hid (Spine base w1 va L (mkK k0 (pOf ls) (qOf ls)) n n ys1 ∧ Rows2 base w1 L (pOf ls) (qOf ls) (mkK k0 (pOf ls) (qOf ls)) n n n ∧ GrownS (w.alloc (.cells #[va, vc] 43)) w1 (InL va L n) ∧ w1.ownsRow base 9 1 vc c zs) := ⟨hs1, hr1, hg1, hcv⟩
  clear hs1 hr1 hg1 hcv K K1
  go_wp2_with fail
  refine cS.mono ?_
  rintro e w2 ⟨rfl, ⟨us, ho2, hus⟩, hg2⟩
  clear cS k1
  obtain ⟨hs1, hr1, hg1, hcv⟩ := HX.out
  have S2 := hs1.kept hg2 (apart_ty hs1.row hcv (by decide))
  have R2 := hr1.kept hg2 (fun j hj => by obtain ⟨xs, a, _⟩ := hr1.ints j hj; exact apart_ty a hcv (by decide)) HN2.out
  have G2 : GrownS w w2 (InS va vc L n) := (hg1.alloc.mono (fun k hk => .inl hk)).grown hg2 (fun j hj => .inl (.inr hj))
  have HY : Hid (MarkSch base w2 va vc L (pOf ls) (qOf ls) n c k0 ∧ GrownS w w2 (InS va vc L n)) := ⟨⟨⟨_, S2⟩, R2, us, ho2, hus⟩, G2⟩
  clear S2 R2 G2 hs1 hr1 hg1 hcv HX ho2 hus hg2
  go_wp2
  go_ret
  exact ⟨ret_int (by omega), HY.out.1, HY.out.2⟩

set_option maxHeartbeats 800000 in
theorem heldSchema_any (va vc : Value) (L : Nat → Value × Value) (p q : Nat → Nat) (n c base k0 : Nat) (w : World) (h : MarkSch base w va vc L p q n c k0) (hn : n ≤ 1048576) (hcl : c ≤ 1048576) (h0 : 0 < k0) (hK : mkK k0 p q n ≤ 1099511627776) :
    Calls Tryd.prog 24 #[.agg #[va, vc], .int .i64 (k0 : Int)] w fun e w' => e = .returned (.int .i64 ((mkK k0 p q n + c : Nat) : Int)) ∧ Below w.heap.size w w' := by
  obtain ⟨K, B0⟩ := blk_1 43 w #[va, vc]
  have h1 := h.below B0
  obtain ⟨ys, hs1⟩ := h1.spine
  have cA := heldAttrS_all va n base k0 L p q ys _ hs1 h1.rows hn h0 hK
  have HP : Hid (0 < mkK k0 p q n) := mkK_pos h0 n
  have HH : Hid (MarkSch base (w.alloc (.cells #[va, vc] 43)) va vc L p q n c k0) := h1
  clear h h1 hs1
  go_enter Tryd.func24, Tryd.ntmps24
  go_wp2_with fail
  refine cA.mono ?_
  rintro e w1 ⟨rfl, hb1⟩
  clear cA
  obtain ⟨zs, hc, hz⟩ := (HH.out.below hb1).cls
  have k1 : w1.cell? ⟨w.heap.size, 1, none⟩ = some vc := (K.below hb1).cell 1
  have cS := heldS_all c base (mkK k0 p q n) vc zs w1 (by omega) HP.out (by omega) hc hz
  have n1 : ¬ ((mkK k0 p q n : Nat) : Int) < 0 := by omega
  have n2 : ¬ ((mkK k0 p q n : Nat) : Int) + (c : Int) < 0 := by omega
  have B1 := B0.trans (hb1.mono B0.size)
  clear hc hz hb1 B0 K
  go_wp2_with fail
  refine cS.mono ?_
  rintro e w2 ⟨rfl, hb2⟩
  clear cS
  go_wp2
  go_ret
  exact ⟨ret_int (by omega), B1.trans (hb2.mono B1.size)⟩
end Go.Proofs.YtlpjigpnpafkiabDoor
/- What the laws' own helpers do with a schema that came in: its size, a copy of it, two held against each other. -/
namespace Go.Proofs.YtlpjigpnpafkiabDoor
open Go.RowKit
set_option maxRecDepth 100000
set_option maxHeartbeats 800000 in
theorem szAttrS_row (v : Value) (ls : List AttrD) (left : Int) (w : World) (h : RowA w v ls) (hn : ls.length ≤ 9223372036854775807) (hs : ∀ a ∈ ls, inA a) (h0 : 0 ≤ left) (h1 : left ≤ 1048576) :
    Calls Tryd.prog 45 #[v, .int .i64 left] w fun e w' => ∃ r : Int, e = .returned (.int .i64 r) ∧ ((0 ≤ r ∧ r ≤ left ∧ (ls.length : Int) ≤ left ∧ ∀ a ∈ ls, fitA a) ∨ r = -1) ∧ Below w.heap.size w w' := by
  obtain ⟨oa, cap, rfl, hc, hr⟩ := h
  have HR : Hid (0 < ls.length → ∃ g o, oa = some ⟨g, o, none⟩ ∧ g < w.heap.size ∧ ∀ j, j < ls.length → CellsA w g (o + j * 3) (ad ls j)) := hr
  have HS : Hid (∀ a ∈ ls, inA a) := hs
  clear hr hs
  by_cases hl : left - (ls.length : Int) < 0
  · go_enter Tryd.func45, Tryd.ntmps45
    go_wp2
    go_ret
    exact ⟨_, rfl, .inr rfl, Below.refl _ _⟩
  · go_enter Tryd.func45, Tryd.ntmps45
    go_wp2
    go_loopw [1, 5] (fun l i wr => ∃ (k : Nat) (x : Int), i = .int .i64 k ∧ l = .int .i64 x ∧ 0 ≤ x ∧ x ≤ left ∧ k ≤ ls.length ∧ (∀ j, j < k → fitA (ad ls j)) ∧ Below w.heap.size w wr) (fun _ i _ => ls.length - (intOf i).toNat)
    case atStart => exact ⟨0, _, rfl, rfl, by omega, by omega, by omega, by omega, Below.refl _ _⟩
    case round =>
      obtain ⟨k, x, rfl, rfl, hx0, hx1, hk, hal, hb⟩ := hrel
      have HA : Hid (∀ j, j < k → fitA (ad ls j)) := hal
      clear hal
      by_cases hlt : k < ls.length
      · obtain ⟨g, o, rfl, hg, hj⟩ := HR.out (by omega)
        obtain ⟨vc, vv, q0, q1, q2, r1, r2⟩ := (hj k hlt).later hb hg
        obtain ⟨o1, c1, rfl, -, -⟩ := id r1
        obtain ⟨o2, c2, rfl, -, -⟩ := id r2
        have c := szAttr_row _ (ad ls k) x wr ⟨_, _, rfl, r1, r2⟩ (HS.out _ (ad_mem hlt)) hx0 (by omega)
        clear hj r1 r2
        go_wp2_with fail
        refine c.mono ?_
        rintro e w1 ⟨r, rfl, hr, hb1⟩
        clear c q0 q1 q2
        have hb2 := hb.trans (hb1.mono hb.size)
        clear hb hb1
        rcases hr with ⟨p0, p1, p2⟩ | rfl
        · have HP : Hid (fitA (ad ls k)) := p2
          have p0' : ¬ r < 0 := by omega
          clear p2
          go_wp2
          go_roundw
          case rel =>
            refine ⟨k + 1, r, by go_num, rfl, by omega, by omega, by omega, ?_, hb2⟩
            intro j hj
            by_cases e : j = k
            · subst e; exact HP.out
            · exact HA.out j (by omega)
          case measure => simp [intOf]; omega
        · go_wp2
          go_ret
          exact ⟨_, rfl, .inr rfl, hb2⟩
      · go_wp2
        go_ret
        refine ⟨_, rfl, .inl ⟨hx0, hx1, by omega, fun a ha => ?_⟩, hb⟩
        obtain ⟨j, hj, rfl⟩ := List.mem_iff_getElem.1 ha
        have := HA.out j (by omega)
        rwa [ad_eq hj] at this

set_option maxHeartbeats 400000 in
theorem szSchema_row (v : Value) (a : SchemaD) (left : Int) (w : World) (h : SchemaAt w v a) (hn : inS a) (h0 : 0 ≤ left) (h1 : left ≤ 1048576) :
    Calls Tryd.prog 16 #[v, .int .i64 left] w fun e w' => ∃ r : Int, e = .returned (.int .i64 r) ∧ ((0 ≤ r ∧ r ≤ left ∧ fitS a) ∨ r = -1) ∧ Below w.heap.size w w' := by
  obtain ⟨va, vc, rfl, ha, hc⟩ := h
  have HO : Hid (inS a) := hn
  have HA : Hid (RowA w va a.attrs) := ha
  have HC : Hid (RowS w vc a.classes) := hc
  clear ha hc hn
  go_enter Tryd.func16, Tryd.ntmps16
  go_wp2_with fail
  obtain ⟨K, B0⟩ := blk_1 38 w #[va, vc]
  refine (szAttrS_row va a.attrs left _ (HA.out.later B0) HO.out.attrs HO.out.each h0 h1).mono ?_
  rintro e w1 ⟨r, rfl, hr, hb1⟩
  have B1 := B0.trans (hb1.mono (by simp))
  have k2 : w1.cell? ⟨w.heap.size, 1, none⟩ = some vc := (K.below hb1).cell 1
  clear K B0 hb1
  rcases hr with ⟨r0, r1, r2, r3⟩ | rfl
  · have HF : Hid (∀ x ∈ a.attrs, fitA x) := r3
    have r0' : ¬ r < 0 := by omega
    clear r3
    go_wp2_with fail
    refine (szS_row vc a.classes r w1 (HC.out.later B1) HO.out.classes HO.out.sizes (by omega) (by omega)).mono ?_
    rintro e w2 ⟨r', rfl, hr', hb2⟩
    clear k2
    have B2 := B1.trans (hb2.mono B1.size)
    rcases hr' with ⟨q0, q1, q2, q3⟩ | rfl
    · have HQ : Hid (∀ s ∈ a.classes, (s.size : Int) ≤ r) := q3
      have q0' : ¬ r' < 0 := by omega
      clear q3
      go_wp2
      go_ret
      refine ⟨_, rfl, .inl ⟨q0, by omega, ⟨by omega, HF.out, by omega, fun s hs => ?_⟩⟩, B2⟩
      have := HQ.out s hs
      omega
    · go_wp2
      go_ret
      exact ⟨_, rfl, .inr rfl, B2⟩
  · go_wp2
    go_ret
    exact ⟨_, rfl, .inr rfl, B1⟩

set_option maxHeartbeats 800000 in
theorem eqAttrS_row (va vb : Value) (ls : List AttrD) (w : World) (ha : RowA w va ls) (hb : RowA w vb ls) (hn : ls.length ≤ 1099511627776) (he : ∀ a ∈ ls, okA a) :
    Calls Tryd.prog 49 #[va, vb] w fun e w' => e = .returned (.bool true) ∧ Below w.heap.size w w' := by
  have mixed : Tryd.prog.follows .mixedOrders = true := by kernel_rfl
  obtain ⟨oa, ca, rfl, hca, hra⟩ := ha
  obtain ⟨ob, cb, rfl, hcb, hrb⟩ := hb
  have HA : Hid (0 < ls.length → ∃ g o, oa = some ⟨g, o, none⟩ ∧ g < w.heap.size ∧ ∀ j, j < ls.length → CellsA w g (o + j * 3) (ad ls j)) := hra
  have HB : Hid (0 < ls.length → ∃ g o, ob = some ⟨g, o, none⟩ ∧ g < w.heap.size ∧ ∀ j, j < ls.length → CellsA w g (o + j * 3) (ad ls j)) := hrb
  have HE : Hid (∀ a ∈ ls, okA a) := he
  clear hra hrb he
  go_enter Tryd.func49, Tryd.ntmps49
  go_wp2
  go_loopw [5] (fun i wr => ∃ k : Nat, i = .int .i64 k ∧ k ≤ ls.length ∧ Below w.heap.size w wr) (fun i _ => ls.length - (intOf i).toNat)
  case atStart => exact ⟨0, rfl, by omega, Below.refl _ _⟩
  case round =>
    obtain ⟨k, rfl, hk, hbr⟩ := hrel
    by_cases hlt : k < ls.length
    · obtain ⟨g, o, rfl, hg, hj⟩ := HA.out (by omega)
      obtain ⟨g', o', rfl, hg', hj'⟩ := HB.out (by omega)
      obtain ⟨vc, vv, p0, p1, p2, r1, r2⟩ := (hj k hlt).later hbr hg
      obtain ⟨vc', vv', p0', p1', p2', r1', r2'⟩ := (hj' k hlt).later hbr hg'
      obtain ⟨o1, c1, rfl, -, -⟩ := id r1
      obtain ⟨o2, c2, rfl, -, -⟩ := id r2
      obtain ⟨o3, c3, rfl, -, -⟩ := id r1'
      obtain ⟨o4, c4, rfl, -, -⟩ := id r2'
      have cM := fun d os => Calls.regrown_of (eqAttr_row (.agg #[.string (ad ls k).name, .slice o1 (ad ls k).cuts.length c1, .slice o2 (ad ls k).vals.length c2]) (.agg #[.string (ad ls k).name, .slice o3 (ad ls k).cuts.length c3, .slice o4 (ad ls k).vals.length c4]) (ad ls k) (Go.Sort.grow (redrawn wr d) os)
        ⟨_, _, rfl, r1.later (below_regrown wr d os), r2.later (below_regrown wr d os)⟩ ⟨_, _, rfl, r1'.later (below_regrown wr d os), r2'.later (below_regrown wr d os)⟩ (HE.out _ (ad_mem hlt)))
      have e0 := fun d os => cell_regrown p0 d os
      have e1 := fun d os => cell_regrown p1 d os
      have e2 := fun d os => cell_regrown p2 d os
      have e0' := fun d os => cell_regrown p0' d os
      have e1' := fun d os => cell_regrown p1' d os
      have e2' := fun d os => cell_regrown p2' d os
      have hbR := fun d os => hbr.trans ((below_regrown wr d os).mono hbr.size)
      have HBR : Hid (∀ d os, Below w.heap.size w (Go.Sort.grow (redrawn wr d) os)) := hbR
      clear hj hj' p0 p1 p2 p0' p1' p2' r1 r2 r1' r2' hbr hbR
      go_wp2
      refine wp_region_quiet_below mixed (by kernel_rfl) ?_
      repeat (quiet_step (exact cM _ _))
      refine wpQuiet_nil ?_
      intro _ hw'
      obtain ⟨⟨dq, osq⟩, hw''⟩ := hw'
      subst hw''
      clear cM e0 e1 e2 e0' e1' e2'
      go_wp2
      go_roundw
      case rel => exact ⟨k + 1, by go_num, by omega, HBR.out _ _⟩
      case measure => simp [intOf]; omega
    · go_wp2
      go_ret
      exact ⟨rfl, hbr⟩

theorem eqSchema_row (va vb : Value) (a : SchemaD) (w : World) (ha : SchemaAt w va a) (hb : SchemaAt w vb a) (hn : okSch a) :
    Calls Tryd.prog 20 #[va, vb] w fun e w' => e = .returned (.bool true) ∧ Below w.heap.size w w' := by
  obtain ⟨ca, sa, rfl, ha1, ha2⟩ := ha
  obtain ⟨cb, sb, rfl, hb1, hb2⟩ := hb
  have HA : Hid (RowA w ca a.attrs ∧ RowS w sa a.classes ∧ RowA w cb a.attrs ∧ RowS w sb a.classes ∧ okSch a) := ⟨ha1, ha2, hb1, hb2, hn⟩
  clear ha1 ha2 hb1 hb2 hn
  go_enter Tryd.func20, Tryd.ntmps20
  go_wp2_with fail
  obtain ⟨K1, K2, B0⟩ := blk_2 43 43 w #[ca, sa] #[cb, sb]
  obtain ⟨h1, h2, h3, h4, hn⟩ := HA.out
  refine (eqAttrS_row ca cb a.attrs _ (h1.later B0) (h3.later B0) hn.attrs hn.each).mono ?_
  rintro e w1 ⟨rfl, hb1⟩
  have B1 := B0.trans (hb1.mono (by simp; omega))
  have k1 : w1.cell? ⟨w.heap.size, 1, none⟩ = some sa := (K1.below hb1).cell 1
  have k2 : w1.cell? ⟨w.heap.size + 1, 1, none⟩ = some sb := (K2.below hb1).cell 1
  have h2 := h2.later B1
  have h4 := h4.later B1
  clear HA h1 h3 K1 K2 B0 hb1
  go_wp2_with fail
  refine (eqS_row sa sb a.classes _ h2 h4 hn.classes.1).mono ?_
  rintro e w2 ⟨rfl, hb2⟩
  clear h2 h4 k1 k2 hn
  go_wp2
  go_ret
  exact ⟨rfl, B1.trans (hb2.mono B1.size)⟩
end Go.Proofs.YtlpjigpnpafkiabDoor
/- The exact law of SchemaOf: the walk. -/
namespace Go.Proofs.YtlpjigpnpafkiabDoor
open Go.RowKit
set_option maxRecDepth 100000

theorem mkK_le {p q : Nat → Nat} : ∀ (n : Nat), (∀ j, j < n → p j ≤ 3 ∧ q j ≤ 4) → mkK 1 p q n ≤ 1 + n * 8
  | 0, _ => by simp [mkK]
  | n + 1, h => by
    have h1 := mkK_le n fun j hj => h j (by omega)
    have h2 := h n (by omega)
    simp only [mkK]
    omega
theorem ok_lens {a : AttrD} (ho : attrOk a = true) : a.cuts.length ≤ 3 ∧ a.vals.length ≤ 4 := by
  by_cases h0 : a.vals.length = 0
  · have := ok_cuts ho h0; omega
  · have := ok_vals ho h0; omega
theorem ok_fit {a : AttrD} (ho : attrOk a = true) : okA a := by
  have hn := (word_size (ok_name ho)).2
  have hl := ok_lens ho
  refine ⟨by omega, by omega, by omega, fun t ht => ?_⟩
  by_cases h0 : a.vals.length = 0
  · rw [List.eq_nil_of_length_eq_zero h0] at ht; cases ht
  · have := (word_size (words_all (ok_vals ho h0).2.2.2 t ht)).2
    omega
theorem sch_fit {t : SchemaD} (ho : schemaOk t = true) : okSch t := by
  obtain ⟨⟨h1, h5⟩, ⟨h2, h3⟩, hwo, hat⟩ := sch_parts ho
  exact ⟨by omega, fun a ha => ok_fit (attrsOk_each hat a ha), by omega, fun s hs => by have := (word_size (words_all hwo s hs)).2; omega⟩
theorem got_smallS (s : ByteArray) : okSch ((schemaOf s).getD emptyS) ∧ ((schemaOf s).getD emptyS).attrs.length ≤ 5 ∧ ((schemaOf s).getD emptyS).classes.length ≤ 3 ∧ mkK 1 (pOf ((schemaOf s).getD emptyS).attrs) (qOf ((schemaOf s).getD emptyS).attrs) ((schemaOf s).getD emptyS).attrs.length ≤ 41 := by
  cases h : schemaOf s with
  | none => exact ⟨⟨by simp [emptyS], fun _ h => by simp [emptyS] at h, by simp [emptyS], fun _ h => by simp [emptyS] at h⟩, by simp [emptyS], by simp [emptyS], by simp [emptyS, mkK]⟩
  | some t =>
    have ho := ((schemaOf_iff s t).1 h).1
    simp only [Option.getD_some]
    obtain ⟨⟨h1, h5⟩, ⟨h2, h3⟩, hwo, hat⟩ := sch_parts ho
    refine ⟨sch_fit ho, h5, h3, ?_⟩
    have := mkK_le (p := pOf t.attrs) (q := qOf t.attrs) t.attrs.length fun j hj => ok_lens (attrsOk_each hat _ (ad_mem hj))
    omega
theorem in_lt {base n c : Nat} {w : World} {va vc : Value} {L : Nat → Value × Value} {ys zs : List Value} {ls : List AttrD} (h : SepL base w va L ys ls n) (hc : w.ownsRow base 9 1 vc c zs) : ∀ k, InS va vc L n k → base ≤ k ∧ k < w.heap.size := by
  intro k hk
  rcases hk with (hk | ⟨j, hj, hk | hk⟩) | hk
  · exact h.row.lt k hk
  · exact (h.ints j hj).lt k hk
  · exact (h.strs j hj).lt k hk
  · exact hc.lt k hk

set_option maxHeartbeats 3200000 in
theorem schemaOf_walk (a0 : ByteArray) (hs : a0.size ≤ 1048576) (u : TypeId) (ev : Value) (m : Int) (w : World) (hE : Env u ev m w) :
    Calls Tryd.prog 6 #[.string a0] w fun e w' => e = .returned (.bool true) ∧ Below w.heap.size w w' := by
  have S := specSchemaOf_any a0 w hs
  have HI : Hid (∀ W (_ : Below w.heap.size w W), Calls Tryd.prog 22 #[.string a0] W fun e w' => ∃ v, e = .returned (.tuple #[v, .bool (schemaOf a0).isSome]) ∧ OwnSep W.heap.size w' v ((schemaOf a0).getD emptyS) ∧ Below W.heap.size W w') := fun W hW => implSchemaOf_any a0 u ev m W hs (hE.later hW)
  obtain ⟨hok, hl1, hl2, hl3⟩ := got_smallS a0
  have HOK : Hid (okSch ((schemaOf a0).getD emptyS)) := hok
  clear hE hok
  generalize (schemaOf a0).getD emptyS = a at S HI HOK hl1 hl2 hl3
  generalize (schemaOf a0).isSome = b at S HI
  go_enter Tryd.func6, Tryd.ntmps6
  go_wp2_with fail
  refine S.mono ?_
  rintro e w1 ⟨v1, rfl, hx1, hb1⟩
  clear S
  replace hx1 := hx1.own.at
  have HX1 : Hid (SchemaAt w1 v1 a) := hx1
  have HB1 : Hid (Below w.heap.size w w1) := hb1
  have hs1 := hb1.size
  obtain ⟨y1, y2, rfl, rr1, rr2⟩ := id hx1
  obtain ⟨o1, c1, rfl, -, -⟩ := id rr1
  obtain ⟨o2, c2, rfl, -, -⟩ := id rr2
  clear rr1 rr2 hx1 hb1
  obtain ⟨KW, B1⟩ := blk_1 43 w1 #[.slice o1 a.attrs.length c1, .slice o2 a.classes.length c2]
  have HIW : Hid (∀ W (_ : Below w1.heap.size w1 W), Calls Tryd.prog 22 #[.string a0] W fun e w' => ∃ v, e = .returned (.tuple #[v, .bool b]) ∧ OwnSep W.heap.size w' v a ∧ Below W.heap.size W w') := fun W hW => HI.out W (HB1.out.trans (hW.mono hs1))
  clear HI
  have cI := HIW.out _ B1
  go_wp2_with fail
  refine cI.mono ?_
  rintro e w2 ⟨v2, rfl, ho2, hb2⟩
  clear cI
  have B2 := B1.trans (hb2.mono B1.size)
  replace KW := KW.below hb2
  have hsz2 := hb2.size
  rw [World.size_alloc] at hsz2 ho2
  clear B1 hb2
  have HAT : Hid (SchemaAt w2 v2 a) := ho2.own.at
  obtain ⟨y1, y2, L, ys, rfl, sp, cl, hod⟩ := ho2
  obtain ⟨p1, d1, hp1⟩ := own_form sp.row
  obtain ⟨p2, d2, hp2⟩ := own_form cl
  subst hp1 hp2
  have HOD : Hid (∀ j c b, j < a.attrs.length → (Value.slice p2 a.classes.length d2).ownBlock = some c → (L j).2.ownBlock = some b → c < b) := hod
  have HLT : Hid (∀ k, InS (.slice p1 a.attrs.length d1) (.slice p2 a.classes.length d2) L a.attrs.length k → w1.heap.size + 1 ≤ k ∧ k < w2.heap.size) := in_lt sp cl
  have HSP : Hid (SepL (w1.heap.size + 1) w2 (.slice p1 a.attrs.length d1) L ys a.attrs a.attrs.length ∧ w2.ownsRow (w1.heap.size + 1) 9 1 (.slice p2 a.classes.length d2) a.classes.length (a.classes.map Value.string)) := ⟨sp, cl⟩
  clear sp cl hod
  obtain ⟨KG, BG⟩ := blk_1 43 w2 #[.slice p1 a.attrs.length d1, .slice p2 a.classes.length d2]
  replace KW := KW.below BG
  have B3 := B2.trans (BG.mono B2.size)
  have cE := eqSchema_row (.agg #[.slice p1 a.attrs.length d1, .slice p2 a.classes.length d2]) (.agg #[.slice o1 a.attrs.length c1, .slice o2 a.classes.length c2]) a _ (HAT.out.later BG) (HX1.out.later B3) HOK.out
  have HO3 : Hid (SepL (w1.heap.size + 1) (w2.alloc (.cells #[.slice p1 a.attrs.length d1, .slice p2 a.classes.length d2] 43)) (.slice p1 a.attrs.length d1) L ys a.attrs a.attrs.length ∧ (w2.alloc (.cells #[.slice p1 a.attrs.length d1, .slice p2 a.classes.length d2] 43)).ownsRow (w1.heap.size + 1) 9 1 (.slice p2 a.classes.length d2) a.classes.length (a.classes.map Value.string)) := ⟨HSP.out.1.below BG, own_below HSP.out.2 BG⟩
  have kw0 : (w2.alloc (.cells #[.slice p1 a.attrs.length d1, .slice p2 a.classes.length d2] 43)).cell? ⟨w1.heap.size, 0, none⟩ = some (.slice o1 a.attrs.length c1) := KW.cell 0
  have kw1 : (w2.alloc (.cells #[.slice p1 a.attrs.length d1, .slice p2 a.classes.length d2] 43)).cell? ⟨w1.heap.size, 1, none⟩ = some (.slice o2 a.classes.length c2) := KW.cell 1
  clear B2 BG HSP HAT
  go_wp2_with fail
  refine cE.mono ?_
  rintro e w3 ⟨rfl, hb3⟩
  clear cE kw0 kw1
  have B4 := B3.trans (hb3.mono B3.size)
  replace KW := KW.below hb3
  replace KG := KG.below hb3
  have m1 := HO3.out.1.below hb3
  have m2 := own_below HO3.out.2 hb3
  clear B3 hb3 HO3
  have cM := markSchema_any _ _ L ys _ a.attrs a.attrs.length a.classes.length (w1.heap.size + 1) 1 w3 m1 m2 (fun j x y hj hx hy => HOD.out j x y hj hx hy) (by omega) (by omega) (by omega) (by omega)
  generalize hKN : mkK 1 (pOf a.attrs) (qOf a.attrs) a.attrs.length = KN at cM hl3
  have HKN : Hid (mkK 1 (pOf a.attrs) (qOf a.attrs) a.attrs.length = KN) := hKN
  have hsum : ((KN + a.classes.length : Nat) : Int) = (KN : Int) + (a.classes.length : Int) := by omega
  rw [hsum] at cM
  have kg0 : w3.cell? ⟨w2.heap.size, 0, none⟩ = some (.slice p1 a.attrs.length d1) := KG.cell 0
  have kg1 : w3.cell? ⟨w2.heap.size, 1, none⟩ = some (.slice p2 a.classes.length d2) := KG.cell 1
  clear m1 m2 hKN
  go_wp2_with fail
  refine cM.mono ?_
  rintro e w4 ⟨rfl, hm4, hg4⟩
  clear cM kg0 kg1
  have B5 : Below w1.heap.size w1 w4 := hg4.below B4 B4.size (fun k hk => by have := (HLT.out k hk).1; omega)
  replace KW := hg4.blk KW (fun e => by have := (HLT.out _ e).1; omega)
  replace KG := hg4.blk KG (fun e => by have := (HLT.out _ e).2; omega)
  clear B4 hg4
  have cH := heldSchema_any _ _ L (pOf a.attrs) (qOf a.attrs) a.attrs.length a.classes.length (w1.heap.size + 1) 1 w4 hm4 (by omega) (by omega) (by omega) (by rw [HKN.out]; omega)
  rw [HKN.out, hsum] at cH
  have kg0 : w4.cell? ⟨w2.heap.size, 0, none⟩ = some (.slice p1 a.attrs.length d1) := KG.cell 0
  have kg1 : w4.cell? ⟨w2.heap.size, 1, none⟩ = some (.slice p2 a.classes.length d2) := KG.cell 1
  go_wp2_with fail
  refine cH.mono ?_
  rintro e w5 ⟨rfl, hb5⟩
  clear cH kg0 kg1
  have B6 := B5.trans (hb5.mono B5.size)
  replace KW := KW.below hb5
  replace KG := KG.below hb5
  have HM5 : Hid (MarkSch (w1.heap.size + 1) w5 (.slice p1 a.attrs.length d1) (.slice p2 a.classes.length d2) L (pOf a.attrs) (qOf a.attrs) a.attrs.length a.classes.length 1) := hm4.below hb5
  clear B5 hb5 hm4
  have n0 : ¬ (KN : Int) + (a.classes.length : Int) < 0 := by omega
  have cI := HIW.out _ B6
  go_wp2_with fail
  refine cI.mono ?_
  rintro e w6 ⟨v6, rfl, ho6, hb6⟩
  clear cI
  have B7 := B6.trans (hb6.mono B6.size)
  replace KW := KW.below hb6
  replace KG := KG.below hb6
  have HM6 : Hid (MarkSch (w1.heap.size + 1) w6 (.slice p1 a.attrs.length d1) (.slice p2 a.classes.length d2) L (pOf a.attrs) (qOf a.attrs) a.attrs.length a.classes.length 1) := HM5.out.below hb6
  have hsz6 := hb6.size
  clear B6 hb6 HM5
  have HA6 : Hid (SchemaAt w6 v6 a) := ho6.own.at
  obtain ⟨y1, y2, rfl, rr1, rr2⟩ := ho6.own.at
  obtain ⟨r1, e1, rfl, -, -⟩ := id rr1
  obtain ⟨r2, e2, rfl, -, -⟩ := id rr2
  clear rr1 rr2 ho6
  obtain ⟨KH, BH⟩ := blk_1 43 w6 #[.slice r1 a.attrs.length e1, .slice r2 a.classes.length e2]
  replace KW := KW.below BH
  replace KG := KG.below BH
  have B8 := B7.trans (BH.mono B7.size)
  have HM7 : Hid (MarkSch (w1.heap.size + 1) (w6.alloc (.cells #[.slice r1 a.attrs.length e1, .slice r2 a.classes.length e2] 43)) (.slice p1 a.attrs.length d1) (.slice p2 a.classes.length d2) L (pOf a.attrs) (qOf a.attrs) a.attrs.length a.classes.length 1) := HM6.out.below BH
  have cE := eqSchema_row (.agg #[.slice r1 a.attrs.length e1, .slice r2 a.classes.length e2]) (.agg #[.slice o1 a.attrs.length c1, .slice o2 a.classes.length c2]) a _ (HA6.out.later BH) (HX1.out.later B8) HOK.out
  have kw0 : (w6.alloc (.cells #[.slice r1 a.attrs.length e1, .slice r2 a.classes.length e2] 43)).cell? ⟨w1.heap.size, 0, none⟩ = some (.slice o1 a.attrs.length c1) := KW.cell 0
  have kw1 : (w6.alloc (.cells #[.slice r1 a.attrs.length e1, .slice r2 a.classes.length e2] 43)).cell? ⟨w1.heap.size, 1, none⟩ = some (.slice o2 a.classes.length c2) := KW.cell 1
  clear B7 BH HM6 HA6
  go_wp2_with fail
  refine cE.mono ?_
  rintro e w7 ⟨rfl, hb7⟩
  clear cE kw0 kw1
  have B9 := B8.trans (hb7.mono B8.size)
  replace KG := KG.below hb7
  have hm8 := HM7.out.below hb7
  clear B8 hb7 HM7 KW KH
  have cH := heldSchema_any _ _ L (pOf a.attrs) (qOf a.attrs) a.attrs.length a.classes.length (w1.heap.size + 1) 1 w7 hm8 (by omega) (by omega) (by omega) (by rw [HKN.out]; omega)
  rw [HKN.out, hsum] at cH
  have kg0 : w7.cell? ⟨w2.heap.size, 0, none⟩ = some (.slice p1 a.attrs.length d1) := KG.cell 0
  have kg1 : w7.cell? ⟨w2.heap.size, 1, none⟩ = some (.slice p2 a.classes.length d2) := KG.cell 1
  go_wp2_with fail
  refine cH.mono ?_
  rintro e w8 ⟨rfl, hb8⟩
  clear cH kg0 kg1
  go_wp2
  go_ret
  exact ⟨rfl, HB1.out.trans ((B9.trans (hb8.mono B9.size)).mono hs1)⟩
end Go.Proofs.YtlpjigpnpafkiabDoor
