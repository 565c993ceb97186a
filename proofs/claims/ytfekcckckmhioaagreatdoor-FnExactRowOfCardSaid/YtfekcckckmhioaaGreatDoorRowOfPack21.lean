/- Texts of this claim, put together: part 21. -/
import Derived.Test.YtfekcckckmhioaaGreatDoorRowOfPack20
import Derived.Test.YtfekcckckmhioaaGreatDoorRowOfPack18
import Derived.Test.YtfekcckckmhioaaGreatDoorRowOfPack1
import Derived.WalkKit
import Derived.ProofKit
import Derived.OpenShut
import Derived.Deep.QuietTactic
import Derived.BigQuiet
import Derived.WalkSmall
/- What the laws' own helpers write over a schema, and look at again. -/
namespace Go.Proofs.YtfekcckckmhioaaGreatDoor
open Go.RowKit
set_option maxRecDepth 100000

theorem own_keptS {w w' : World} {R : Nat → Prop} {b e s n : Nat} {v : Value} {xs : List Value} (h : w.ownsRow b e s v n xs) (hg : GrownS w w' R) (hr : ∀ k, v.ownBlock = some k → ¬ R k) : w'.ownsRow b e s v n xs := by
  refine ⟨h.1, ?_⟩
  rcases h.2 with h' | ⟨g, cap, cur, rfl, hgb, hc, r⟩
  · exact .inl h'
  · refine .inr ⟨g, cap, cur, rfl, hgb, ?_, r⟩
    rw [hg.block g (Array.getElem?_eq_some_iff.1 hc).1 (hr g rfl)]; exact hc
def pOf (ls : List AttrD) (j : Nat) : Nat := (ad ls j).cuts.length
def qOf (ls : List AttrD) (j : Nat) : Nat := (ad ls j).vals.length
theorem SepL.spine {base : Nat} {w : World} {v : Value} {L : Nat → Value × Value} {ys : List Value} {ls : List AttrD} {n : Nat} (h : SepL base w v L ys ls n) (K : Nat → Nat) : Spine base w v L K n 0 ys :=
  ⟨h.row, fun j hj => ⟨(h.cells j hj).2.1, (h.cells j hj).2.2⟩, fun j hj => by omega⟩
theorem SepL.rows {base : Nat} {w : World} {v : Value} {L : Nat → Value × Value} {ys : List Value} {ls : List AttrD} {n : Nat} (h : SepL base w v L ys ls n) (K : Nat → Nat) : Rows2 base w L (pOf ls) (qOf ls) K n 0 0 :=
  ⟨fun j hj => ⟨_, h.ints j hj, fun h => by omega⟩, fun j hj => ⟨_, h.strs j hj, fun h => by omega⟩⟩
theorem ne_of_ord {x y : Value} (h : ∀ a b, x.ownBlock = some a → y.ownBlock = some b → a ≠ b) : x.ownBlock = none ∨ x.ownBlock ≠ y.ownBlock := by
  cases e : x.ownBlock with
  | none => exact .inl rfl
  | some a => exact .inr fun e' => h a a e e'.symm rfl
theorem SepL.ord {base : Nat} {w : World} {v : Value} {L : Nat → Value × Value} {ys : List Value} {ls : List AttrD} {n : Nat} (h : SepL base w v L ys ls n) : Ord L n := by
  refine ⟨fun i j hi hj hne => ne_of_ord fun a b ha hb => ?_, fun i j hi hj hne => ne_of_ord fun a b ha hb => ?_⟩
  · rcases Nat.lt_or_gt_of_ne hne with h1 | h1
    · have := h.ord1 i j a b h1 hj ha hb; omega
    · have := h.ord1 j i b a h1 hi hb ha; omega
  · rcases Nat.lt_or_gt_of_ne hne with h1 | h1
    · have := h.ord2 i j a b h1 hj ha hb; omega
    · have := h.ord2 j i b a h1 hi hb ha; omega
/-- A schema whose lists bear the law's marks. -/
structure MarkSch (base : Nat) (w : World) (va vc : Value) (L : Nat → Value × Value) (p q : Nat → Nat) (n c k0 : Nat) : Prop where
  spine : ∃ ys, Spine base w va L (mkK k0 p q) n n ys
  rows : Rows2 base w L p q (mkK k0 p q) n n n
  cls : ∃ zs, w.ownsRow base 9 1 vc c zs ∧ ∀ t, t < c → zs[t]? = some (mkS (mkK k0 p q n) t)
theorem MarkSch.below {base : Nat} {w w' : World} {va vc : Value} {L : Nat → Value × Value} {p q : Nat → Nat} {n c k0 : Nat} (h : MarkSch base w va vc L p q n c k0) (hb : Below w.heap.size w w') : MarkSch base w' va vc L p q n c k0 := by
  obtain ⟨ys, h1⟩ := h.spine
  obtain ⟨zs, h2, h3⟩ := h.cls
  exact ⟨⟨ys, h1.below hb⟩, h.rows.below hb, zs, own_below h2 hb, h3⟩
/-- The blocks that the marks of a schema may turn. -/
def InS (va vc : Value) (L : Nat → Value × Value) (n : Nat) (k : Nat) : Prop := InL va L n k ∨ vc.ownBlock = some k
theorem GrownS.mono {w w' : World} {R R' : Nat → Prop} (h : GrownS w w' R) (hr : ∀ k, R k → R' k) : GrownS w w' R' := ⟨h.os, h.tape, h.output, h.size, fun k hk hn => h.block k hk fun e => hn (hr k e)⟩
theorem GrownS.alloc {w w' : World} {R : Nat → Prop} {o : Obj} (h : GrownS (w.alloc o) w' R) : GrownS w w' R :=
  ⟨h.os, h.tape, h.output, by have := h.size; rw [World.size_alloc] at this; omega, fun k hk hn => (h.block k (by rw [World.size_alloc]; omega) hn).trans (((Below.refl w.heap.size w).alloc (Nat.le_refl _) o).block k hk)⟩

theorem markAttrS_all (v : Value) (n base k0 : Nat) (L : Nat → Value × Value) (p q : Nat → Nat) (ys : List Value) (w : World) (hS : Spine base w v L (mkK k0 p q) n 0 ys) (hR : Rows2 base w L p q (mkK k0 p q) n 0 0) (hO : Ord L n)
    (hn : n ≤ 1048576) (h0 : 0 < k0) (hK : mkK k0 p q n ≤ 35184372088832) :
    Calls Tryz.prog 36 #[v, .int .i64 (k0 : Int)] w fun e w' => e = .returned (.int .i64 ((mkK k0 p q n : Nat) : Int)) ∧ (∃ ys, Spine base w' v L (mkK k0 p q) n n ys) ∧ Rows2 base w' L p q (mkK k0 p q) n n n ∧ GrownS w w' (InL v L n) := by
  have hform : ∀ j, j < n → (∃ a l c, (L j).1 = .slice a l c) ∧ ∃ a l c, (L j).2 = .slice a l c := fun j hj => by
    obtain ⟨xs, h1, _⟩ := hR.ints j hj
    obtain ⟨zs, h2, _⟩ := hR.strs j hj
    obtain ⟨a, c, e⟩ := own_form h1
    obtain ⟨a', c', e'⟩ := own_form h2
    exact ⟨⟨a, _, c, e⟩, a', _, c', e'⟩
  rcases id hS.row.2 with ⟨rfl, rfl⟩ | ⟨g, cap, cur, rfl, _⟩
  · refine (markAttrS_zero k0 w).mono fun e w' ⟨he, hw⟩ => ?_
    subst he hw
    exact ⟨rfl, ⟨ys, hS⟩, hR, GrownS.refl _ _⟩
  · exact markAttrS_pos g cap n base k0 L p q ys w hS hR hO hn h0 hK hform
set_option maxHeartbeats 800000 in
theorem markSchema_any (va vc : Value) (L : Nat → Value × Value) (ys zs : List Value) (ls : List AttrD) (n c base k0 : Nat) (w : World) (h : SepL base w va L ys ls n) (hc : w.ownsRow base 9 1 vc c zs)
    (hord : ∀ j a b, j < n → vc.ownBlock = some a → (L j).2.ownBlock = some b → a ≠ b) (hn : n ≤ 1048576) (hcl : c ≤ 1048576) (h0 : 0 < k0) (hK : mkK k0 (pOf ls) (qOf ls) n ≤ 35184372088832) :
    Calls Tryz.prog 13 #[.agg #[va, vc], .int .i64 (k0 : Int)] w fun e w' => e = .returned (.int .i64 ((mkK k0 (pOf ls) (qOf ls) n + c : Nat) : Int)) ∧ MarkSch base w' va vc L (pOf ls) (qOf ls) n c k0 ∧ GrownS w w' (InS va vc L n) := by
  obtain ⟨K, B0⟩ := blk_1 35 w #[va, vc]
  have h1 := h.below B0
  have hc1 := own_below hc B0
  have cA := markAttrS_all va n base k0 L (pOf ls) (qOf ls) ys _ (h1.spine _) (h1.rows _) h.ord hn h0 hK
  have HP : Hid (0 < mkK k0 (pOf ls) (qOf ls) n) := mkK_pos h0 n
  have HLT : Hid (∀ k, InL va L n k → k < w.heap.size) := by
    intro k hk
    rcases hk with hk | ⟨j, hj, hk | hk⟩
    · exact (h.row.lt k hk).2
    · exact ((h.ints j hj).lt k hk).2
    · exact ((h.strs j hj).lt k hk).2
  have HNI : Hid (∀ k, vc.ownBlock = some k → ¬ InL va L n k) := by
    intro k hk hin
    rcases hin with hin | ⟨j, hj, hin | hin⟩
    · rcases apart_ty hc h.row (by decide) with e | e
      · rw [e] at hk; cases hk
      · exact e (hk.trans hin.symm)
    · rcases apart_ty hc (h.ints j hj) (by decide) with e | e
      · rw [e] at hk; cases hk
      · exact e (hk.trans hin.symm)
    · exact hord j k k hj hk hin rfl
  have HC1 : Hid ((w.alloc (.cells #[va, vc] 35)).ownsRow base 9 1 vc c zs) := hc1
  have HN2 : Hid (∀ j, j < n → (L j).2.ownBlock = none ∨ (L j).2.ownBlock ≠ vc.ownBlock) := fun j hj => ne_of_ord fun a b ha hb => by have := hord j b a hj hb ha; omega
  clear h h1 hc hc1 hord
  go_enter Tryz.func13, Tryz.ntmps13
  go_wp2_with fail
  refine cA.mono ?_
  rintro e w1 ⟨rfl, ⟨ys1, hs1⟩, hr1, hg1⟩
  clear cA
  have K1 := hg1.blk K (fun e => by have := HLT.out _ e; omega)
  have hcv := own_keptS HC1.out hg1 HNI.out
  have k1 : w1.cell? ⟨w.heap.size, 1, none⟩ = some vc := K1.cell 1
  have cS := markS_all c base (mkK k0 (pOf ls) (qOf ls) n) vc zs w1 (by omega) HP.out (by omega) hcv
  have HX : Hid (Spine base w1 va L (mkK k0 (pOf ls) (qOf ls)) n n ys1 ∧ Rows2 base w1 L (pOf ls) (qOf ls) (mkK k0 (pOf ls) (qOf ls)) n n n ∧ GrownS (w.alloc (.cells #[va, vc] 35)) w1 (InL va L n) ∧ w1.ownsRow base 9 1 vc c zs) := ⟨hs1, hr1, hg1, hcv⟩
  clear hs1 hr1 hg1 hcv K K1
  go_wp2_with fail
  refine cS.mono ?_
  rintro e w2 ⟨rfl, ⟨us, ho2, hus⟩, hg2⟩
  clear cS k1
  obtain ⟨hs1, hr1, hg1, hcv⟩ := HX.out
  have S2 := hs1.kept hg2 (apart_ty hs1.row hcv (by decide))
  have R2 := hr1.kept hg2 (fun j hj => by obtain ⟨xs, a, _⟩ := hr1.ints j hj; exact apart_ty a hcv (by decide)) HN2.out
  have G2 : GrownS w w2 (InS va vc L n) := (hg1.alloc.mono (fun k hk => .inl hk)).grown hg2 (fun j hj => .inl (.inr hj))
  have HY : Hid (MarkSch base w2 va vc L (pOf ls) (qOf ls) n c k0 ∧ GrownS w w2 (InS va vc L n)) := ⟨⟨⟨_, S2⟩, R2, us, ho2, hus⟩, G2⟩
  clear S2 R2 G2 hs1 hr1 hg1 hcv HX ho2 hus hg2
  go_wp2
  go_ret
  exact ⟨ret_int (by omega), HY.out.1, HY.out.2⟩
end Go.Proofs.YtfekcckckmhioaaGreatDoor
/- What the law's own helpers do with lists of bytes: held against each other, written over, looked at again. -/
namespace Go.Proofs.YtfekcckckmhioaaGreatDoor
open Go.RowKit
set_option maxRecDepth 100000

theorem eq_zero (oa ob : Option Addr) (ca cb : Nat) (w : World) : Calls Tryz.prog 12 #[.slice oa 0 ca, .slice ob 0 cb] w fun e w' => e = .returned (.bool true) ∧ w' = w := by
  go_enter Tryz.func12, Tryz.ntmps12
  go_wp2
  refine wp_loop_rounds 1 ?_
  rw [rounds_succ]
  go_wp2
  go_ret
  exact ⟨rfl, rfl⟩

set_option maxHeartbeats 400000 in
theorem eq_pos (ga oa gb ob n ca cb : Nat) (zs : List Int) (w : World) (hn : n ≤ 140737488351232) (hz : zs.length = n)
    (ha : ∀ j, j < n → w.cell? ⟨ga, oa + j, none⟩ = some (.int .u8 (zs.getD j 0))) (hb : ∀ j, j < n → w.cell? ⟨gb, ob + j, none⟩ = some (.int .u8 (zs.getD j 0))) :
    Calls Tryz.prog 12 #[.slice (some ⟨ga, oa, none⟩) n ca, .slice (some ⟨gb, ob, none⟩) n cb] w fun e w' => e = .returned (.bool true) ∧ Below w.heap.size w w' := by
  go_enter Tryz.func12, Tryz.ntmps12
  go_wp2
  go_loopw [5] (fun i wr => ∃ k : Nat, i = .int .i64 k ∧ k ≤ n ∧ ∃ q, wr = w.drewN q) (fun i _ => n - (intOf i).toNat)
  case atStart => exact ⟨0, rfl, by omega, 0, rfl⟩
  case round =>
    obtain ⟨k, rfl, hk, q, rfl⟩ := hrel
    by_cases hlt : k < n
    · have ha' : (w.drewN q).cell? ⟨ga, oa + k, none⟩ = some (.int .u8 (zs.getD k 0)) := ha k hlt
      have hb' : (w.drewN q).cell? ⟨gb, ob + k, none⟩ = some (.int .u8 (zs.getD k 0)) := hb k hlt
      go_wp2
      go_quiet (fail)
      all_goals go_wp2
      all_goals go_roundw
      case rel => exact ⟨k + 1, by go_num, by omega, _, by first | rfl | (simp only [World.drewN_drewN]; rfl)⟩
      case measure => simp [intOf]; omega
    · go_wp2
      go_ret
      exact ⟨rfl, below_drewN (Below.refl _ _) _⟩

theorem eq_any (zs : List Int) (va vb : Value) (b1 b2 : Nat) (w : World) (hn : zs.length ≤ 140737488351232)
    (ha : w.ownsRow b1 5 1 va zs.length (zs.map (Value.int .u8))) (hb : w.ownsRow b2 5 1 vb zs.length (zs.map (Value.int .u8))) :
    Calls Tryz.prog 12 #[va, vb] w fun e w' => e = .returned (.bool true) ∧ Below w.heap.size w w' := by
  have z : ∀ oa ob ca cb, Calls Tryz.prog 12 #[.slice oa 0 ca, .slice ob 0 cb] w fun e w' => e = .returned (.bool true) ∧ Below w.heap.size w w' := fun oa ob ca cb =>
    (eq_zero oa ob ca cb w).mono fun e w' ⟨h1, h2⟩ => ⟨h1, by rw [h2]; exact Below.refl _ _⟩
  rcases ha.2 with ⟨rfl, h0⟩ | ⟨ga, ca, cua, rfl, _⟩ <;> rcases hb.2 with ⟨rfl, h1⟩ | ⟨gb, cb, cub, rfl, _⟩
  · exact z _ _ _ _
  · rw [h0]; exact z _ _ _ _
  · rw [h1]; exact z _ _ _ _
  · exact eq_pos ga 0 gb 0 zs.length ca cb zs w hn rfl (fun j hj => by rw [Nat.zero_add, ha.cellAt j (by omega)]; exact getD_map zs j hj) (fun j hj => by rw [Nat.zero_add, hb.cellAt j (by omega)]; exact getD_map zs j hj)

end Go.Proofs.YtfekcckckmhioaaGreatDoor
/- What the law writes over a list of bytes, and looks at again. -/
namespace Go.Proofs.YtfekcckckmhioaaGreatDoor
open Go.RowKit
set_option maxRecDepth 100000

def mk8 (k : Int) : Value := .int .u8 (IntKind.u8.wrap k)

set_option maxHeartbeats 400000 in
theorem mark_pos (g n cap base : Nat) (k0 : Int) (xs : List Value) (w : World) (hn : n ≤ 140737488351232) (h0 : 0 ≤ k0) (h1 : k0 ≤ 140737488351232)
    (ho : w.ownsRow base 5 1 (.slice (some ⟨g, 0, none⟩) n cap) n xs) :
    Calls Tryz.prog 14 #[.slice (some ⟨g, 0, none⟩) n cap, .int .i64 k0] w fun e w' => e = .returned (.int .i64 (k0 + n)) ∧ (∃ ys, w'.ownsRow base 5 1 (.slice (some ⟨g, 0, none⟩) n cap) n ys ∧ ∀ j, j < n → ys[j]? = some (mk8 (k0 + j))) ∧ w.grownBy w' (some g) := by
  go_enter Tryz.func14, Tryz.ntmps14
  go_wp2
  go_loopw [1, 5] (fun kk i wr => ∃ (k : Nat) (ys : List Value), i = .int .i64 k ∧ kk = .int .i64 (k0 + k) ∧ k ≤ n ∧ wr.ownsRow base 5 1 (.slice (some ⟨g, 0, none⟩) n cap) n ys ∧ (∀ j, j < k → ys[j]? = some (mk8 (k0 + j))) ∧ w.grownBy wr (some g)) (fun _ i _ => n - (intOf i).toNat)
  case atStart => exact ⟨0, xs, rfl, by simp, by omega, ho, by omega, World.grownBy.refl _ _⟩
  case round =>
    obtain ⟨k, ys, rfl, rfl, hk, hown, hys, hgr⟩ := hrel
    by_cases hlt : k < n
    · have hlen : ys.length = n := by have := hown.1; omega
      have hc : wr.cell? ⟨g, k, none⟩ = some (ys[k]'(by omega)) := by rw [hown.cellAt k (by omega)]; exact List.getElem?_eq_getElem _
      have hf : wr.frozen? ⟨g, k, none⟩ = false := hown.frozenAt k
      go_wp2
      go_roundw
      case rel =>
        have hs := hown.stored k (mk8 (k0 + k))
        refine ⟨k + 1, _, by go_num, by go_num, by omega, hs.1, ?_, grownBy_trans hgr hs.2⟩
        intro j hj
        rw [List.getElem?_set]
        by_cases e : k = j
        · subst e; rw [if_pos rfl, if_pos (by omega)]
        · rw [if_neg e]; exact hys j (by omega)
      case measure => simp [intOf]; omega
    · go_wp2
      go_ret
      exact ⟨ret_int (by omega), ⟨ys, hown, fun j hj => hys j (by omega)⟩, hgr⟩

theorem mark_zero (k0 : Int) (w : World) : Calls Tryz.prog 14 #[.slice none 0 0, .int .i64 k0] w fun e w' => e = .returned (.int .i64 k0) ∧ w' = w := by
  go_enter Tryz.func14, Tryz.ntmps14
  go_wp2
  refine wp_loop_rounds 1 ?_
  rw [rounds_succ]
  go_wp2
  go_ret
  exact ⟨rfl, rfl⟩

theorem mark_any (n base : Nat) (v : Value) (k0 : Int) (xs : List Value) (w : World) (hn : n ≤ 140737488351232) (h0 : 0 ≤ k0) (h1 : k0 ≤ 140737488351232) (ho : w.ownsRow base 5 1 v n xs) :
    Calls Tryz.prog 14 #[v, .int .i64 k0] w fun e w' => e = .returned (.int .i64 (k0 + n)) ∧ (∃ ys, w'.ownsRow base 5 1 v n ys ∧ ∀ j, j < n → ys[j]? = some (mk8 (k0 + j))) ∧ w.grownBy w' v.ownBlock := by
  rcases ho.2 with ⟨rfl, rfl⟩ | ⟨g, cap, cur, rfl, _⟩
  · refine (mark_zero k0 w).mono fun e w' ⟨he, hw⟩ => ?_
    subst he hw
    exact ⟨ret_int (by omega), ⟨xs, ho, by omega⟩, World.grownBy.refl _ _⟩
  · exact mark_pos g n cap base k0 xs w hn h0 h1 ho
end Go.Proofs.YtfekcckckmhioaaGreatDoor
/- A list of bytes that came in, copied by the law into memory of its own. -/
namespace Go.Proofs.YtfekcckckmhioaaGreatDoor
open Go.RowKit
set_option maxRecDepth 100000

/-- The cells of a row of the call's own. -/
theorem own_cells {w : World} {base g n cap : Nat} {zs : List Int} (hz : zs.length = n) (h : w.ownsRow base 5 1 (.slice (some ⟨g, 0, none⟩) n cap) n (zs.map (Value.int .u8))) : ∀ j, j < n → w.cell? ⟨g, 0 + j, none⟩ = some (.int .u8 (zs.getD j 0)) := by
  intro j hj
  rw [Nat.zero_add, h.cellAt j (by omega)]
  exact getD_map zs j (by omega)
theorem eq_at {w : World} {b1 b2 n : Nat} {va vb : Value} {zs : List Int} (hz : zs.length = n) (hn : n ≤ 140737488351232) (ha : w.ownsRow b1 5 1 va n (zs.map (Value.int .u8))) (hb : w.ownsRow b2 5 1 vb n (zs.map (Value.int .u8))) :
    Calls Tryz.prog 12 #[va, vb] w fun e w' => e = .returned (.bool true) ∧ Below w.heap.size w w' := by
  subst hz
  exact eq_any zs va vb b1 b2 w hn ha hb

theorem t5infoB : (Tryz.prog.info? 5).map (fun i => (i.zero, i.size, i.bytes)) = some (some (.int .u8 0), 1, 1) := by kernel_rfl

set_option maxHeartbeats 400000 in
theorem to_pos (b o n cap : Nat) (zs : List Int) (w : World) (hn : n ≤ 1048576) (hz : zs.length = n) (hb : b < w.heap.size)
    (hc : ∀ j, j < n → w.cell? ⟨b, o + j, none⟩ = some (.int .u8 (zs.getD j 0))) :
    Calls Tryz.prog 8 #[.slice (some ⟨b, o, none⟩) n cap] w fun e w' => ∃ g, e = .returned (.slice (some ⟨g, 0, none⟩) n n) ∧ w'.ownsRow w.heap.size 5 1 (.slice (some ⟨g, 0, none⟩) n n) n (zs.map (Value.int .u8)) ∧ Below w.heap.size w w' := by
  obtain ⟨i0, hi, hz0, hz1, hz2⟩ := info_parts t5infoB
  go_enter Tryz.func8, Tryz.ntmps8
  go_wp2_with (at_make; refine wpList_make_full _ rfl _ _ 26 rfl w.heap.size 5 i0 (.int .u8 0) 1 Tryz.underlying26 hi hz0 hz1 .i64 .i64 _ _ n rfl rfl rfl rfl ?c1 ?c2 ?c3 ?_)
  case c1 => rw [hz2]; omega
  case c2 => unfold maxLen; omega
  case c3 => omega
  intro w1 ho1 hg1
  have hb1 : Below w.heap.size w w1 := (Below.refl _ _).grown hg1 (Nat.le_refl _) (by intro k hk; cases hk)
  clear hg1
  go_wp2
  go_loopw [4] (fun i wr => ∃ (k : Nat) (ys : List Value), i = .int .i64 k ∧ k ≤ n ∧ wr.ownsRow w.heap.size 5 1 (.slice (some ⟨w.heap.size, 0, none⟩) n n) n ys ∧ (∀ j, j < k → ys[j]? = some (.int .u8 (zs.getD j 0))) ∧ Below w.heap.size w wr) (fun i _ => n - (intOf i).toNat)
  case atStart => exact ⟨0, _, rfl, by omega, ho1, by omega, hb1⟩
  case round =>
    obtain ⟨k, ys, rfl, hk, hown, hys, hbr⟩ := hrel
    clear ho1 hb1
    by_cases hlt : k < n
    · have hlen : ys.length = n := by have := hown.1; omega
      have hcs : wr.cell? ⟨b, o + k, none⟩ = some (.int .u8 (zs.getD k 0)) := (hbr.cell (p := ⟨b, o + k, none⟩) hb).trans (hc k hlt)
      have hcd : wr.cell? ⟨w.heap.size, k, none⟩ = some (ys[k]'(by omega)) := by rw [hown.cellAt k (by omega)]; exact List.getElem?_eq_getElem _
      have hf : wr.frozen? ⟨w.heap.size, k, none⟩ = false := hown.frozenAt k
      have hs := hown.stored k (.int .u8 (zs.getD k 0))
      have hbs := hbr.setCell (p := ⟨w.heap.size, k, none⟩) (Nat.le_refl _) (.int .u8 (zs.getD k 0))
      generalize hzz : zs.getD k 0 = z at hcs hs hbs
      have HZZ : Hid (zs.getD k 0 = z) := hzz
      clear hzz
      go_wp2
      go_roundw
      case rel =>
        refine ⟨k + 1, _, by go_num, by omega, hs.1, ?_, hbs⟩
        intro j hj
        rw [List.getElem?_set]
        by_cases e : k = j
        · subst e; rw [if_pos rfl, if_pos (by omega), HZZ.out]
        · rw [if_neg e]; exact hys j (by omega)
      case measure => simp [intOf]; omega
    · go_wp2
      go_ret
      have hlen : ys.length = n := by have := hown.1; omega
      have e : ys = zs.map (Value.int .u8) := by
        apply List.ext_getElem?
        intro j
        by_cases hj : j < n
        · rw [hys j (by omega), getD_map zs j (by omega)]
        · rw [List.getElem?_eq_none (by omega), List.getElem?_eq_none (by simp; omega)]
      exact ⟨_, rfl, e ▸ hown, hbr⟩

set_option maxHeartbeats 400000 in
theorem to_zero (a : Option Addr) (cap : Nat) (w : World) :
    Calls Tryz.prog 8 #[.slice a 0 cap] w fun e w' => ∃ g, e = .returned (.slice (some ⟨g, 0, none⟩) 0 0) ∧ w'.ownsRow w.heap.size 5 1 (.slice (some ⟨g, 0, none⟩) 0 0) 0 [] ∧ Below w.heap.size w w' := by
  obtain ⟨i0, hi, hz0, hz1, hz2⟩ := info_parts t5infoB
  go_enter Tryz.func8, Tryz.ntmps8
  go_wp2_with (at_make; refine wpList_make_full _ rfl _ _ 26 rfl w.heap.size 5 i0 (.int .u8 0) 1 Tryz.underlying26 hi hz0 hz1 .i64 .i64 _ _ 0 rfl rfl rfl rfl ?c1 ?c2 ?c3 ?_)
  case c1 => omega
  case c2 => unfold maxLen; omega
  case c3 => omega
  intro w1 ho1 hg1
  have hb1 : Below w.heap.size w w1 := (Below.refl _ _).grown hg1 (Nat.le_refl _) (by intro k hk; cases hk)
  rw [toList_madeCells_one] at ho1
  clear hg1
  go_wp2
  refine wp_loop_rounds 1 ?_
  rw [rounds_succ]
  go_wp2
  go_ret
  exact ⟨_, rfl, ho1, hb1⟩

/-- Whatever came in. -/
theorem to_any (a : Option Addr) (len cap : Nat) (zs : List Int) (w : World) (h : IsRow .u8 w a len cap zs) (hn : len ≤ 1048576) :
    Calls Tryz.prog 8 #[.slice a len cap] w fun e w' => ∃ g, e = .returned (.slice (some ⟨g, 0, none⟩) len len) ∧ w'.ownsRow w.heap.size 5 1 (.slice (some ⟨g, 0, none⟩) len len) len ((zs.take len).map (Value.int .u8)) ∧ Below w.heap.size w w' := by
  by_cases h0 : 0 < len
  · obtain ⟨b, o, rfl, hb, hc⟩ := h.at h0
    exact to_pos b o len cap (zs.take len) w hn h.len hb hc
  · obtain rfl : len = 0 := by omega
    simpa using to_zero a cap w
end Go.Proofs.YtfekcckckmhioaaGreatDoor
