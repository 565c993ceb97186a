/- Texts of this claim, put together: part 9. -/
import Derived.Test.YtobimpgapfecoabBranchTotalsPack8
import Derived.Test.YtobimpgapfecoabBranchTotalsPack6
import Derived.Test.YtobimpgapfecoabBranchTotalsPack3
import Derived.Test.YtobimpgapfecoabBranchTotalsPack4
import Derived.Test.YtobimpgapfecoabBranchTotalsPack5
import Derived.Test.YtobimpgapfecoabBranchTotalsPack2
import Derived.ChangeSame
/- What the laws' own helpers write over a schema, and look at again. -/
namespace Go.Proofs.Ytobimpgapfecoab
open Go.RowKit
set_option maxRecDepth 100000
def pOf (ls : List AttrD) (j : Nat) : Nat := (ad ls j).cuts.length
def qOf (ls : List AttrD) (j : Nat) : Nat := (ad ls j).vals.length
theorem SepL.spine {base : Nat} {w : World} {v : Value} {L : Nat → Value × Value} {ys : List Value} {ls : List AttrD} {n : Nat} (h : SepL base w v L ys ls n) (K : Nat → Nat) : Spine base w v L K n 0 ys :=
  ⟨h.row, fun j hj => ⟨(h.cells j hj).2.1, (h.cells j hj).2.2⟩, fun j hj => by omega⟩
theorem SepL.rows {base : Nat} {w : World} {v : Value} {L : Nat → Value × Value} {ys : List Value} {ls : List AttrD} {n : Nat} (h : SepL base w v L ys ls n) (K : Nat → Nat) : Rows2 base w L (pOf ls) (qOf ls) K n 0 0 :=
  ⟨fun j hj => ⟨_, h.ints j hj, fun h => by omega⟩, fun j hj => ⟨_, h.strs j hj, fun h => by omega⟩⟩
theorem SepL.ord {base : Nat} {w : World} {v : Value} {L : Nat → Value × Value} {ys : List Value} {ls : List AttrD} {n : Nat} (h : SepL base w v L ys ls n) : Ord L n := by
  refine ⟨fun i j hi hj hne => ne_of_ord fun a b ha hb => ?_, fun i j hi hj hne => ne_of_ord fun a b ha hb => ?_⟩
  · rcases Nat.lt_or_gt_of_ne hne with h1 | h1
    · have := h.ord1 i j a b h1 hj ha hb; omega
    · have := h.ord1 j i b a h1 hi hb ha; omega
  · rcases Nat.lt_or_gt_of_ne hne with h1 | h1
    · have := h.ord2 i j a b h1 hj ha hb; omega
    · have := h.ord2 j i b a h1 hi hb ha; omega
/-- A schema whose lists bear the law's marks. -/
structure MarkSch (base : Nat) (w : World) (va vc : Value) (L : Nat → Value × Value) (p q : Nat → Nat) (n c k0 : Nat) : Prop where
  spine : ∃ ys, Spine base w va L (mkK k0 p q) n n ys
  rows : Rows2 base w L p q (mkK k0 p q) n n n
  cls : ∃ zs, w.ownsRow base 9 1 vc c zs ∧ ∀ t, t < c → zs[t]? = some (mkS (mkK k0 p q n) t)
theorem MarkSch.below {base : Nat} {w w' : World} {va vc : Value} {L : Nat → Value × Value} {p q : Nat → Nat} {n c k0 : Nat} (h : MarkSch base w va vc L p q n c k0) (hb : Below w.heap.size w w') : MarkSch base w' va vc L p q n c k0 := by
  obtain ⟨ys, h1⟩ := h.spine
  obtain ⟨zs, h2, h3⟩ := h.cls
  exact ⟨⟨ys, h1.below hb⟩, h.rows.below hb, zs, own_below h2 hb, h3⟩
/-- The blocks that the marks of a schema may turn. -/
def InS (va vc : Value) (L : Nat → Value × Value) (n : Nat) (k : Nat) : Prop := InL va L n k ∨ vc.ownBlock = some k
theorem markAttrS_all (v : Value) (n base k0 : Nat) (L : Nat → Value × Value) (p q : Nat → Nat) (ys : List Value) (w : World) (hS : Spine base w v L (mkK k0 p q) n 0 ys) (hR : Rows2 base w L p q (mkK k0 p q) n 0 0) (hO : Ord L n)
    (hn : n ≤ 1048576) (h0 : 0 < k0) (hK : mkK k0 p q n ≤ 35184372088832) :
    Calls Try.prog 57 #[v, .int .i64 (k0 : Int)] w fun e w' => e = .returned (.int .i64 ((mkK k0 p q n : Nat) : Int)) ∧ (∃ ys, Spine base w' v L (mkK k0 p q) n n ys) ∧ Rows2 base w' L p q (mkK k0 p q) n n n ∧ GrownS w w' (InL v L n) := by
  have hform : ∀ j, j < n → (∃ a l c, (L j).1 = .slice a l c) ∧ ∃ a l c, (L j).2 = .slice a l c := fun j hj => by
    obtain ⟨xs, h1, _⟩ := hR.ints j hj
    obtain ⟨zs, h2, _⟩ := hR.strs j hj
    obtain ⟨a, c, e⟩ := own_form h1
    obtain ⟨a', c', e'⟩ := own_form h2
    exact ⟨⟨a, _, c, e⟩, a', _, c', e'⟩
  rcases id hS.row.2 with ⟨rfl, rfl⟩ | ⟨g, cap, cur, rfl, _⟩
  · refine (markAttrS_zero k0 w).mono fun e w' ⟨he, hw⟩ => ?_
    subst he hw
    exact ⟨rfl, ⟨ys, hS⟩, hR, GrownS.refl _ _⟩
  · exact markAttrS_pos g cap n base k0 L p q ys w hS hR hO hn h0 hK hform
set_option maxHeartbeats 800000 in
theorem markSchema_any (va vc : Value) (L : Nat → Value × Value) (ys zs : List Value) (ls : List AttrD) (n c base k0 : Nat) (w : World) (h : SepL base w va L ys ls n) (hc : w.ownsRow base 9 1 vc c zs)
    (hord : ∀ j a b, j < n → vc.ownBlock = some a → (L j).2.ownBlock = some b → a ≠ b) (hn : n ≤ 1048576) (hcl : c ≤ 1048576) (h0 : 0 < k0) (hK : mkK k0 (pOf ls) (qOf ls) n ≤ 35184372088832) :
    Calls Try.prog 19 #[.agg #[va, vc], .int .i64 (k0 : Int)] w fun e w' => e = .returned (.int .i64 ((mkK k0 (pOf ls) (qOf ls) n + c : Nat) : Int)) ∧ MarkSch base w' va vc L (pOf ls) (qOf ls) n c k0 ∧ GrownS w w' (InS va vc L n) := by
  obtain ⟨K, B0⟩ := blk_1 40 w #[va, vc]
  have h1 := h.below B0
  have hc1 := own_below hc B0
  have cA := markAttrS_all va n base k0 L (pOf ls) (qOf ls) ys _ (h1.spine _) (h1.rows _) h.ord hn h0 hK
  have HP : Hid (0 < mkK k0 (pOf ls) (qOf ls) n) := mkK_pos h0 n
  have HLT : Hid (∀ k, InL va L n k → k < w.heap.size) := by
    intro k hk
    rcases hk with hk | ⟨j, hj, hk | hk⟩
    · exact (h.row.lt k hk).2
    · exact ((h.ints j hj).lt k hk).2
    · exact ((h.strs j hj).lt k hk).2
  have HNI : Hid (∀ k, vc.ownBlock = some k → ¬ InL va L n k) := by
    intro k hk hin
    rcases hin with hin | ⟨j, hj, hin | hin⟩
    · rcases apart_ty hc h.row (by decide) with e | e
      · rw [e] at hk; cases hk
      · exact e (hk.trans hin.symm)
    · rcases apart_ty hc (h.ints j hj) (by decide) with e | e
      · rw [e] at hk; cases hk
      · exact e (hk.trans hin.symm)
    · exact hord j k k hj hk hin rfl
  have HC1 : Hid ((w.alloc (.cells #[va, vc] 40)).ownsRow base 9 1 vc c zs) := hc1
  have HN2 : Hid (∀ j, j < n → (L j).2.ownBlock = none ∨ (L j).2.ownBlock ≠ vc.ownBlock) := fun j hj => ne_of_ord fun a b ha hb => by have := hord j b a hj hb ha; omega
  clear h h1 hc hc1 hord
  go_enter Try.func19, Try.ntmps19
  go_wp2_with fail
  refine cA.mono ?_
  rintro e w1 ⟨rfl, ⟨ys1, hs1⟩, hr1, hg1⟩
  clear cA
  have K1 := hg1.blk K (fun e => by have := HLT.out _ e; omega)
  have hcv := own_keptS HC1.out hg1 HNI.out
  have k1 : w1.cell? ⟨w.heap.size, 1, none⟩ = some vc := K1.cell 1
  have cS := markS_all c base (mkK k0 (pOf ls) (qOf ls) n) vc zs w1 (by omega) HP.out (by omega) hcv
  have HX : Hid (Spine base w1 va L (mkK k0 (pOf ls) (qOf ls)) n n ys1 ∧ Rows2 base w1 L (pOf ls) (qOf ls) (mkK k0 (pOf ls) (qOf ls)) n n n ∧ GrownS (w.alloc (.cells #[va, vc] 40)) w1 (InL va L n) ∧ w1.ownsRow base 9 1 vc c zs) := ⟨hs1, hr1, hg1, hcv⟩
  clear hs1 hr1 hg1 hcv K K1
  go_wp2_with fail
  refine cS.mono ?_
  rintro e w2 ⟨rfl, ⟨us, ho2, hus⟩, hg2⟩
  clear cS k1
  obtain ⟨hs1, hr1, hg1, hcv⟩ := HX.out
  have S2 := hs1.kept hg2 (apart_ty hs1.row hcv (by decide))
  have R2 := hr1.kept hg2 (fun j hj => by obtain ⟨xs, a, _⟩ := hr1.ints j hj; exact apart_ty a hcv (by decide)) HN2.out
  have G2 : GrownS w w2 (InS va vc L n) := (hg1.alloc.mono (fun k hk => .inl hk)).grown hg2 (fun j hj => .inl (.inr hj))
  have HY : Hid (MarkSch base w2 va vc L (pOf ls) (qOf ls) n c k0 ∧ GrownS w w2 (InS va vc L n)) := ⟨⟨⟨_, S2⟩, R2, us, ho2, hus⟩, G2⟩
  clear S2 R2 G2 hs1 hr1 hg1 hcv HX ho2 hus hg2
  go_wp2
  go_ret
  exact ⟨ret_int (by omega), HY.out.1, HY.out.2⟩
end Go.Proofs.Ytobimpgapfecoab
/- How many bins an attribute has, in plain words. -/
namespace Go.Proofs.Ytobimpgapfecoab
def bins (a : AttrD) : Int := if attrOk a = true then (if a.vals.length = 0 then (a.cuts.length : Int) + 1 else a.vals.length) else 0
theorem ok_kind {a : AttrD} (h : attrOk a = true) : (a.vals.length = 0 ↔ a.cuts.length ≠ 0) := by
  unfold attrOk at h
  rw [Bool.and_eq_true] at h
  have h2 := h.2
  by_cases h0 : a.cuts.length = 0
  · rw [if_pos h0] at h2
    unfold choices at h2
    rw [Bool.and_eq_true] at h2
    have := of_decide_eq_true h2.1
    omega
  · rw [if_neg h0, Bool.and_eq_true] at h2
    have := of_decide_eq_true h2.1
    omega

end Go.Proofs.Ytobimpgapfecoab
/- Chapter 9 in plain words: questions. -/
namespace Go.Proofs.Ytobimpgapfecoab
open Go.RowKit
set_option maxRecDepth 100000
structure ForkD where
  attr : Int
  pos : Int
def forkV (f : ForkD) : Value := .agg #[.int .i64 f.attr, .int .i64 f.pos]
def forkAttr (s : SchemaD) (f : ForkD) : AttrD := ad s.attrs f.attr.toNat
def forkTop (s : SchemaD) (f : ForkD) : Int := if 0 < (forkAttr s f).cuts.length then bins (forkAttr s f) - 2 else bins (forkAttr s f) - 1
def forkOk (s : SchemaD) (f : ForkD) : Bool := schemaOk s && (decide (0 ≤ f.attr ∧ f.attr ≤ (s.attrs.length : Int) - 1) && decide (-1 ≤ f.pos ∧ f.pos ≤ forkTop s f))
def branches (s : SchemaD) (f : ForkD) : Int := if forkOk s f = true then (if f.pos = -1 then bins (forkAttr s f) else 2) else 0
def branchOf (s : SchemaD) (f : ForkD) (b : Int) : Int :=
  if forkOk s f = true ∧ 0 ≤ b ∧ b ≤ bins (forkAttr s f) - 1 then
    (if f.pos = -1 then b else if 0 < (forkAttr s f).cuts.length then (if f.pos < b then 1 else 0) else (if b = f.pos then 0 else 1))
  else -1
theorem fork_parts {s : SchemaD} {f : ForkD} (h : forkOk s f = true) : schemaOk s = true ∧ (∃ k : Nat, f.attr = (k : Int) ∧ k < s.attrs.length ∧ forkAttr s f = ad s.attrs k) ∧ -1 ≤ f.pos ∧ f.pos ≤ forkTop s f := by
  unfold forkOk at h
  rw [Bool.and_eq_true, Bool.and_eq_true, decide_eq_true_eq, decide_eq_true_eq] at h
  obtain ⟨h1, h2, h3⟩ := h
  obtain ⟨k, hk⟩ := Int.eq_ofNat_of_zero_le h2.1
  exact ⟨h1, ⟨k, hk, by omega, by unfold forkAttr; rw [hk]; rfl⟩, h3.1, h3.2⟩
/-- The cells of one attribute of a schema that came in, in every later world. -/
theorem attr_at {w : World} {oa : Option Addr} {ka : Nat} {vc : Value} {s : SchemaD} (h : SchemaAt w (.agg #[.slice oa s.attrs.length ka, vc]) s) {k : Nat} (hk : k < s.attrs.length) :
    ∃ ga fa y1 z1 y2 z2, oa = some ⟨ga, fa, none⟩ ∧ ∀ W, Below w.heap.size w W → W.cell? ⟨ga, fa + k * 3, none⟩ = some (.string (ad s.attrs k).name) ∧ W.cell? ⟨ga, fa + k * 3 + 1, none⟩ = some (.slice y1 (ad s.attrs k).cuts.length z1) ∧
      W.cell? ⟨ga, fa + k * 3 + 2, none⟩ = some (.slice y2 (ad s.attrs k).vals.length z2) ∧ AttrAt W (.agg #[.string (ad s.attrs k).name, .slice y1 (ad s.attrs k).cuts.length z1, .slice y2 (ad s.attrs k).vals.length z2]) (ad s.attrs k) := by
  obtain ⟨va', vc', e', rA, -⟩ := h
  cases e'
  obtain ⟨oa', ka', e', -, hrA⟩ := rA
  cases e'
  obtain ⟨ga, fa, rfl, hga, hjA⟩ := hrA (by omega)
  obtain ⟨x1, x2, c0, c1, c2, r1, r2⟩ := hjA k hk
  obtain ⟨y1, z1, rfl, -, -⟩ := id r1
  obtain ⟨y2, z2, rfl, -, -⟩ := id r2
  exact ⟨ga, fa, y1, z1, y2, z2, rfl, fun W hb => ⟨(hb.cell (p := ⟨ga, fa + k * 3, none⟩) hga).trans c0, (hb.cell (p := ⟨ga, fa + k * 3 + 1, none⟩) hga).trans c1, (hb.cell (p := ⟨ga, fa + k * 3 + 2, none⟩) hga).trans c2, _, _, rfl, r1.later hb, r2.later hb⟩⟩
end Go.Proofs.Ytobimpgapfecoab
/- A question that comes in to a law; a list of integers that comes in or is copied. -/
namespace Go.Proofs.Ytobimpgapfecoab
open Go.ChangeShapes Go.WideShapes Go.ChangeAt Go.RowKit
set_option maxRecDepth 100000
theorem fork_cells : Try.prog.cellsOf 58 = 2 := by kernel_rfl
theorem int_cells9 : Try.prog.cellsOf 3 = 1 := by kernel_rfl
theorem open_fork {H : Type} {enc : TypeId × Value → H} {W : World} {r : Reach} {b0 base : Nat} {sp : Nat → Bool} {hd : Bool} {v : Value} {d : DataW H} {ps : List MemPlace}
    (hval : Value.okWide Try.prog W r b0 58 v) (h : DataW.Trod enc Try.prog W base sp hd 58 v d ps) :
    ∃ a b : Int, v = forkV ⟨a, b⟩ ∧ (Lit.int .i64 a).wf = true ∧ (Lit.int .i64 b).wf = true := by
  obtain ⟨cs, rfl, hs⟩ := okWide_struct Try.underlying58 hval
  obtain ⟨fuel, hf⟩ := h
  obtain ⟨y0, y1, n, -, hl, t0, t1⟩ := trod_struct2 Try.underlying58 hf
  obtain ⟨a, ha, -, wa⟩ := DataW.trod_int Try.underlying3 t0
  obtain ⟨b, hb, -, wb⟩ := DataW.trod_int Try.underlying3 t1
  rw [fork_cells] at hs
  refine ⟨a, b, ?_, wa, wb⟩
  obtain ⟨l⟩ := cs
  match l, hs with
  | [x, y], _ =>
    simp [Value.cells, int_cells9] at ha hb
    rw [ha, hb]; rfl
theorem toFork_any (f : ForkD) (w : World) : Calls Try.prog 30 #[forkV f] w fun e w' => e = .returned (forkV f) ∧ Below w.heap.size w w' := by
  obtain ⟨a, b⟩ := f
  have B : Below w.heap.size w (((w.alloc (.cells #[.int .i64 a, .int .i64 b] 58)).alloc (.cells #[.int .i64 a, .int .i64 b] 60)).alloc (.cells #[.int .i64 a, .int .i64 b] 60)) := (((Below.refl _ _).alloc (Nat.le_refl _) _).alloc (by simp) _).alloc (by simp; omega) _
  unfold forkV
  go_enter Try.func30, Try.ntmps30
  go_wp2
  exact bodyPost_ret (v := .agg #[.int .i64 a, .int .i64 b]) (by simp [results, Try.results30, go_sem]) rfl ⟨rfl, B⟩
theorem eqI_rows {w : World} {va vb : Value} {zs : List Int} (hn : zs.length ≤ 140737488351232) (ha : RowI w va zs) (hb : RowI w vb zs) :
    Calls Try.prog 32 #[va, vb] w fun e w' => e = .returned (.bool true) ∧ Below w.heap.size w w' := by
  obtain ⟨oa, ka, rfl, -, ra⟩ := ha
  obtain ⟨ob, kb, rfl, -, rb⟩ := hb
  by_cases h0 : zs.length = 0
  · rw [h0]
    exact (eqI_zero oa ob ka kb w).mono fun e w' ⟨h1, h2⟩ => ⟨h1, by rw [h2]; exact Below.refl _ _⟩
  · obtain ⟨ga, o, rfl, -, ja⟩ := ra (by omega)
    obtain ⟨gb, o', rfl, -, jb⟩ := rb (by omega)
    exact eqI_pos ga o gb o' zs.length ka kb zs w hn rfl ja jb
theorem toI_rows (a : Option Addr) (len cap : Nat) (zs : List Int) (w : World) (h : IsRow .i64 w a len cap zs) (hn : len ≤ 1048576) :
    Calls Try.prog 46 #[.slice a len cap] w fun e w' => ∃ v, e = .returned v ∧ RowI w' v (zs.take len) ∧ Below w.heap.size w w' := by
  have hl : (zs.take len).length = len := h.len
  refine (toI_any a len cap zs w h hn).mono ?_
  rintro e w' ⟨g, rfl, ho, hb⟩
  exact ⟨_, rfl, RowI.of_own ho hl, hb⟩
theorem toI_own9 (a : Option Addr) (len cap : Nat) (zs : List Int) (w : World) (h : IsRow .i64 w a len cap zs) (hn : len ≤ 1048576) :
    Calls Try.prog 46 #[.slice a len cap] w fun e w' => ∃ v, e = .returned v ∧ w'.ownsRow w.heap.size 3 1 v (zs.take len).length ((zs.take len).map (Value.int .i64)) ∧ Below w.heap.size w w' := by
  have hl : (zs.take len).length = len := h.len
  refine (toI_any a len cap zs w h hn).mono ?_
  rintro e w' ⟨g, rfl, ho, hb⟩
  exact ⟨_, rfl, by rw [hl]; exact ho, hb⟩
end Go.Proofs.Ytobimpgapfecoab
