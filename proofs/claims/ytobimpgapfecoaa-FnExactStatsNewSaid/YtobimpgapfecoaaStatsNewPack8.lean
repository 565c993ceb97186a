/- Texts of this claim, put together: part 8. -/
import Derived.Test.YtobimpgapfecoaaStatsNewPack5
import Derived.Test.YtobimpgapfecoaaStatsNewPack7
import Derived.Test.YtobimpgapfecoaaStatsNewPack1
import Derived.Test.YtobimpgapfecoaaStatsNewPack3
import Derived.Test.YtobimpgapfecoaaStatsNewPack4
/- What the laws' own helpers write over the lists of an attribute, and look at again. -/
namespace Go.Proofs.Ytobimpgapfecoaa
open Go.RowKit
set_option maxRecDepth 100000

/-- An attribute whose lists bear the law's marks from k0 on. -/
def MarkA (base : Nat) (w : World) (vc vv : Value) (p q k0 : Nat) : Prop :=
  (∃ ys, w.ownsRow base 3 1 vc p ys ∧ ∀ j, j < p → ys[j]? = some (mkI ((k0 : Int) + j))) ∧ ∃ zs, w.ownsRow base 9 1 vv q zs ∧ ∀ j, j < q → zs[j]? = some (mkS (k0 + p) j)
theorem MarkA.below {base : Nat} {w w' : World} {vc vv : Value} {p q k0 : Nat} (h : MarkA base w vc vv p q k0) (hb : Below w.heap.size w w') : MarkA base w' vc vv p q k0 := by
  obtain ⟨⟨ys, h1, h2⟩, zs, h3, h4⟩ := h
  exact ⟨⟨ys, own_below h1 hb, h2⟩, zs, own_below h3 hb, h4⟩
/-- Nothing of the old memory has turned but two rows. -/
structure Grown2 (w w' : World) (r q : Option Nat) : Prop where
  os : w'.os = w.os
  tape : w'.tape = w.tape
  output : w'.output = w.output
  size : w.heap.size ≤ w'.heap.size
  block : ∀ k, k < w.heap.size → some k ≠ r → some k ≠ q → w'.heap[k]? = w.heap[k]?
theorem Grown2.below {n : Nat} {w0 w w' : World} {r q : Option Nat} (h : Grown2 w w' r q) (hb : Below n w0 w) (hn : n ≤ w.heap.size) (hr : ∀ k, r = some k → n ≤ k) (hq : ∀ k, q = some k → n ≤ k) : Below n w0 w' :=
  ⟨h.os.trans hb.os, h.tape.trans hb.tape, h.output.trans hb.output, Nat.le_trans hb.size h.size, fun k hk => (h.block k (by omega) (fun e => by have := hr k e.symm; omega) (fun e => by have := hq k e.symm; omega)).trans (hb.block k hk)⟩
theorem Grown2.blk {t : TypeId} {w w' : World} {r q : Option Nat} {g : Nat} {cs : Array Value} (h : Grown2 w w' r q) (hb : Blk t w g cs) (hr : r ≠ some g) (hq : q ≠ some g) : Blk t w' g cs := by
  have hl := hb.lt
  unfold Blk at hb ⊢
  rw [h.block g hl (fun e => hr e.symm) (fun e => hq e.symm)]; exact hb
def Apart (vc vv : Value) : Prop := vc.ownBlock = none ∨ vc.ownBlock ≠ vv.ownBlock
end Go.Proofs.Ytobimpgapfecoaa
/- What lies below is left: a world is grown. -/
namespace Go.Proofs.Ytobimpgapfecoaa
open Go.RowKit
set_option maxRecDepth 100000
theorem grown_of_below {w w' : World} (h : Below w.heap.size w w') (r : Option Nat := none) : w.grownBy w' r := ⟨h.os, h.tape, h.output, h.size, fun k hk _ => h.block k hk⟩
end Go.Proofs.Ytobimpgapfecoaa
/- A world in which what stands at certain blocks alone has turned. -/
namespace Go.Proofs.Ytobimpgapfecoaa
open Go.RowKit
set_option maxRecDepth 100000

/-- Rows of other elements lie in other blocks. -/
theorem apart_ty {w : World} {v v' : Value} {b b' e e' s s' n n' : Nat} {xs xs' : List Value} (h : w.ownsRow b e s v n xs) (h' : w.ownsRow b' e' s' v' n' xs') (he : e ≠ e') : v.ownBlock = none ∨ v.ownBlock ≠ v'.ownBlock := by
  rcases h.2 with ⟨rfl, _⟩ | ⟨g, cap, cur, rfl, _, hc, _⟩
  · exact .inl rfl
  · refine .inr fun eq => ?_
    rcases h'.2 with ⟨rfl, _⟩ | ⟨g', cap', cur', rfl, _, hc', _⟩
    · cases eq
    · injection eq with eq
      simp only at eq
      subst eq
      rw [hc] at hc'
      injection hc' with hc'
      injection hc' with _ h2 _
      exact he h2
/-- Nothing of the old memory has turned but blocks of a set. -/
structure GrownS (w w' : World) (R : Nat → Prop) : Prop where
  os : w'.os = w.os
  tape : w'.tape = w.tape
  output : w'.output = w.output
  size : w.heap.size ≤ w'.heap.size
  block : ∀ k, k < w.heap.size → ¬ R k → w'.heap[k]? = w.heap[k]?
theorem GrownS.refl (w : World) (R : Nat → Prop) : GrownS w w R := ⟨rfl, rfl, rfl, Nat.le_refl _, fun _ _ _ => rfl⟩
theorem GrownS.grown {w w' w'' : World} {R : Nat → Prop} {r : Option Nat} (h : GrownS w w' R) (k : w'.grownBy w'' r) (hr : ∀ j, r = some j → R j ∨ w.heap.size ≤ j) : GrownS w w'' R :=
  ⟨k.os.trans h.os, k.tape.trans h.tape, k.output.trans h.output, Nat.le_trans h.size k.size, fun j hj hR => (k.block j (Nat.lt_of_lt_of_le hj h.size) (fun e => by
    rcases hr j e.symm with h1 | h1
    · exact hR h1
    · omega)).trans (h.block j hj hR)⟩
theorem GrownS.below {n : Nat} {w0 w w' : World} {R : Nat → Prop} (h : GrownS w w' R) (hb : Below n w0 w) (hn : n ≤ w.heap.size) (hr : ∀ k, R k → n ≤ k) : Below n w0 w' :=
  ⟨h.os.trans hb.os, h.tape.trans hb.tape, h.output.trans hb.output, Nat.le_trans hb.size h.size, fun k hk => (h.block k (by omega) (fun e => by have := hr k e; omega)).trans (hb.block k hk)⟩
theorem GrownS.blk {t : TypeId} {w w' : World} {R : Nat → Prop} {g : Nat} {cs : Array Value} (h : GrownS w w' R) (hb : Blk t w g cs) (hr : ¬ R g) : Blk t w' g cs := by
  have hl := hb.lt
  unfold Blk at hb ⊢
  rw [h.block g hl hr]; exact hb


theorem own_keptS {w w' : World} {R : Nat → Prop} {b e s n : Nat} {v : Value} {xs : List Value} (h : w.ownsRow b e s v n xs) (hg : GrownS w w' R) (hr : ∀ k, v.ownBlock = some k → ¬ R k) : w'.ownsRow b e s v n xs := by
  refine ⟨h.1, ?_⟩
  rcases h.2 with h' | ⟨g, cap, cur, rfl, hgb, hc, r⟩
  · exact .inl h'
  · refine .inr ⟨g, cap, cur, rfl, hgb, ?_, r⟩
    rw [hg.block g (Array.getElem?_eq_some_iff.1 hc).1 (hr g rfl)]; exact hc
theorem ne_of_ord {x y : Value} (h : ∀ a b, x.ownBlock = some a → y.ownBlock = some b → a ≠ b) : x.ownBlock = none ∨ x.ownBlock ≠ y.ownBlock := by
  cases e : x.ownBlock with
  | none => exact .inl rfl
  | some a => exact .inr fun e' => h a a e e'.symm rfl
theorem GrownS.mono {w w' : World} {R R' : Nat → Prop} (h : GrownS w w' R) (hr : ∀ k, R k → R' k) : GrownS w w' R' := ⟨h.os, h.tape, h.output, h.size, fun k hk hn => h.block k hk fun e => hn (hr k e)⟩
theorem GrownS.alloc {w w' : World} {R : Nat → Prop} {o : Obj} (h : GrownS (w.alloc o) w' R) : GrownS w w' R :=
  ⟨h.os, h.tape, h.output, by have := h.size; rw [World.size_alloc] at this; omega, fun k hk hn => (h.block k (by rw [World.size_alloc]; omega) hn).trans (((Below.refl w.heap.size w).alloc (Nat.le_refl _) o).block k hk)⟩
end Go.Proofs.Ytobimpgapfecoaa
/- What the laws' own helpers write over a list of attributes, and look at again. -/
namespace Go.Proofs.Ytobimpgapfecoaa
open Go.RowKit
set_option maxRecDepth 100000
/-- Where the marks of the j-th attribute begin. -/
def mkK (k0 : Nat) (p q : Nat → Nat) : Nat → Nat
  | 0 => k0
  | j + 1 => mkK k0 p q j + 1 + p j + q j
theorem mkK_mono {k0 : Nat} {p q : Nat → Nat} {i j : Nat} (h : i ≤ j) : mkK k0 p q i ≤ mkK k0 p q j := by
  induction j with
  | zero => obtain rfl : i = 0 := by omega
            exact Nat.le_refl _
  | succ j ih =>
    by_cases e : i = j + 1
    · rw [e]; exact Nat.le_refl _
    · have := ih (by omega); simp only [mkK]; omega
theorem mkK_pos {k0 : Nat} {p q : Nat → Nat} (h : 0 < k0) (j : Nat) : 0 < mkK k0 p q j := by have := mkK_mono (k0 := k0) (p := p) (q := q) (Nat.zero_le j); simp only [mkK] at this; omega

/-- The lists of the attributes, the first i1 of numbers and the first i2 of texts marked. -/
structure Rows2 (base : Nat) (w : World) (L : Nat → Value × Value) (p q K : Nat → Nat) (n i1 i2 : Nat) : Prop where
  ints : ∀ j, j < n → ∃ xs, w.ownsRow base 3 1 (L j).1 (p j) xs ∧ (j < i1 → ∀ t, t < p j → xs[t]? = some (mkI (((K j + 1 : Nat) : Int) + t)))
  strs : ∀ j, j < n → ∃ zs, w.ownsRow base 9 1 (L j).2 (q j) zs ∧ (j < i2 → ∀ t, t < q j → zs[t]? = some (mkS (K j + 1 + p j) t))
theorem Rows2.kept {base : Nat} {w w' : World} {L : Nat → Value × Value} {p q K : Nat → Nat} {n i1 i2 : Nat} {r : Option Nat} (h : Rows2 base w L p q K n i1 i2) (hg : w.grownBy w' r)
    (h1 : ∀ j, j < n → (L j).1.ownBlock = none ∨ (L j).1.ownBlock ≠ r) (h2 : ∀ j, j < n → (L j).2.ownBlock = none ∨ (L j).2.ownBlock ≠ r) : Rows2 base w' L p q K n i1 i2 :=
  ⟨fun j hj => by obtain ⟨xs, a, b⟩ := h.ints j hj; exact ⟨xs, a.kept hg (h1 j hj), b⟩, fun j hj => by obtain ⟨xs, a, b⟩ := h.strs j hj; exact ⟨xs, a.kept hg (h2 j hj), b⟩⟩
theorem Rows2.below {base : Nat} {w w' : World} {L : Nat → Value × Value} {p q K : Nat → Nat} {n i1 i2 : Nat} (h : Rows2 base w L p q K n i1 i2) (hb : Below w.heap.size w w') : Rows2 base w' L p q K n i1 i2 :=
  ⟨fun j hj => by obtain ⟨xs, a, b⟩ := h.ints j hj; exact ⟨xs, own_below a hb, b⟩, fun j hj => by obtain ⟨xs, a, b⟩ := h.strs j hj; exact ⟨xs, own_below a hb, b⟩⟩
/-- Lists of two attributes never share a block. -/
structure Ord (L : Nat → Value × Value) (n : Nat) : Prop where
  ints : ∀ i j, i < n → j < n → i ≠ j → (L i).1.ownBlock = none ∨ (L i).1.ownBlock ≠ (L j).1.ownBlock
  strs : ∀ i j, i < n → j < n → i ≠ j → (L i).2.ownBlock = none ∨ (L i).2.ownBlock ≠ (L j).2.ownBlock
theorem Rows2.mark1 {base : Nat} {w w' : World} {L : Nat → Value × Value} {p q K : Nat → Nat} {n i i2 : Nat} (h : Rows2 base w L p q K n i i2) (hO : Ord L n) (hi : i < n) (hg : w.grownBy w' (L i).1.ownBlock)
    {ys : List Value} (ho : w'.ownsRow base 3 1 (L i).1 (p i) ys) (hys : ∀ t, t < p i → ys[t]? = some (mkI (((K i + 1 : Nat) : Int) + t))) : Rows2 base w' L p q K n (i + 1) i2 := by
  obtain ⟨xi, ai, _⟩ := h.ints i hi
  refine ⟨fun j hj => ?_, fun j hj => ?_⟩
  · by_cases e : j = i
    · subst e; exact ⟨ys, ho, fun _ => hys⟩
    · obtain ⟨xs, a, b⟩ := h.ints j hj
      exact ⟨xs, a.kept hg (hO.ints j i hj hi e), fun hlt => b (by omega)⟩
  · obtain ⟨xs, a, b⟩ := h.strs j hj
    exact ⟨xs, a.kept hg (apart_ty a ai (by decide)), b⟩
theorem Rows2.mark2 {base : Nat} {w w' : World} {L : Nat → Value × Value} {p q K : Nat → Nat} {n i i1 : Nat} (h : Rows2 base w L p q K n i1 i) (hO : Ord L n) (hi : i < n) (hg : w.grownBy w' (L i).2.ownBlock)
    {ys : List Value} (ho : w'.ownsRow base 9 1 (L i).2 (q i) ys) (hys : ∀ t, t < q i → ys[t]? = some (mkS (K i + 1 + p i) t)) : Rows2 base w' L p q K n i1 (i + 1) := by
  obtain ⟨xi, ai, _⟩ := h.strs i hi
  refine ⟨fun j hj => ?_, fun j hj => ?_⟩
  · obtain ⟨xs, a, b⟩ := h.ints j hj
    exact ⟨xs, a.kept hg (apart_ty a ai (by decide)), b⟩
  · by_cases e : j = i
    · subst e; exact ⟨ys, ho, fun _ => hys⟩
    · obtain ⟨xs, a, b⟩ := h.strs j hj
      exact ⟨xs, a.kept hg (hO.strs j i hj hi e), fun hlt => b (by omega)⟩
/-- The row of attributes leads to its lists; the first i names are marked. -/
structure Spine (base : Nat) (w : World) (v : Value) (L : Nat → Value × Value) (K : Nat → Nat) (n i : Nat) (ys : List Value) : Prop where
  row : w.ownsRow base 55 3 v n ys
  two : ∀ j, j < n → ys[j * 3 + 1]? = some (L j).1 ∧ ys[j * 3 + 2]? = some (L j).2
  name : ∀ j, j < i → ys[j * 3]? = some (.string (mtxt (K j)))
theorem Spine.kept {base : Nat} {w w' : World} {v : Value} {L : Nat → Value × Value} {K : Nat → Nat} {n i : Nat} {ys : List Value} {r : Option Nat} (h : Spine base w v L K n i ys) (hg : w.grownBy w' r) (hr : v.ownBlock = none ∨ v.ownBlock ≠ r) : Spine base w' v L K n i ys :=
  ⟨h.row.kept hg hr, h.two, h.name⟩
theorem Spine.below {base : Nat} {w w' : World} {v : Value} {L : Nat → Value × Value} {K : Nat → Nat} {n i : Nat} {ys : List Value} (h : Spine base w v L K n i ys) (hb : Below w.heap.size w w') : Spine base w' v L K n i ys :=
  ⟨own_below h.row hb, h.two, h.name⟩
theorem Spine.store {base : Nat} {w : World} {g cap : Nat} {L : Nat → Value × Value} {K : Nat → Nat} {n i : Nat} {ys : List Value} (h : Spine base w (.slice (some ⟨g, 0, none⟩) n cap) L K n i ys) (hi : i < n) :
    Spine base (w.setCell ⟨g, i * 3, none⟩ (.string (mtxt (K i)))) (.slice (some ⟨g, 0, none⟩) n cap) L K n (i + 1) (ys.set (i * 3) (.string (mtxt (K i)))) := by
  have hl : ys.length = n * 3 := h.row.1
  refine ⟨(h.row.stored _ _).1, fun j hj => ?_, fun j hj => ?_⟩
  · rw [List.getElem?_set_ne (by omega), List.getElem?_set_ne (by omega)]; exact h.two j hj
  · by_cases e : j = i
    · subst e; rw [List.getElem?_set_self (by omega)]
    · rw [List.getElem?_set_ne (by omega)]; exact h.name j (by omega)
/-- The blocks that the marks of a list of attributes may turn. -/
def InL (v : Value) (L : Nat → Value × Value) (n : Nat) (k : Nat) : Prop := v.ownBlock = some k ∨ ∃ j, j < n ∧ ((L j).1.ownBlock = some k ∨ (L j).2.ownBlock = some k)

set_option maxHeartbeats 1600000 in
theorem markAttrS_pos (g cap n base k0 : Nat) (L : Nat → Value × Value) (p q : Nat → Nat) (ys : List Value) (w : World) (hS : Spine base w (.slice (some ⟨g, 0, none⟩) n cap) L (mkK k0 p q) n 0 ys) (hR : Rows2 base w L p q (mkK k0 p q) n 0 0) (hO : Ord L n)
    (hn : n ≤ 1048576) (h0 : 0 < k0) (hK : mkK k0 p q n ≤ 35184372088832) (hform : ∀ j, j < n → (∃ a l c, (L j).1 = .slice a l c) ∧ ∃ a l c, (L j).2 = .slice a l c) :
    Calls Try.prog 80 #[.slice (some ⟨g, 0, none⟩) n cap, .int .i64 (k0 : Int)] w fun e w' => e = .returned (.int .i64 ((mkK k0 p q n : Nat) : Int)) ∧ (∃ ys, Spine base w' (.slice (some ⟨g, 0, none⟩) n cap) L (mkK k0 p q) n n ys) ∧ Rows2 base w' L p q (mkK k0 p q) n n n ∧ GrownS w w' (InL (.slice (some ⟨g, 0, none⟩) n cap) L n) := by
  have HO : Hid (Ord L n) := hO
  have HF : Hid (∀ j, j < n → (∃ a l c, (L j).1 = .slice a l c) ∧ ∃ a l c, (L j).2 = .slice a l c) := hform
  have HP : Hid (∀ j, 0 < mkK k0 p q j) := mkK_pos h0
  have HM : Hid (∀ i, i < n → mkK k0 p q i + 1 + p i + q i ≤ 35184372088832) := fun i hi => by
    have := mkK_mono (k0 := k0) (p := p) (q := q) (i := i + 1) (j := n) (by omega)
    simp only [mkK] at this; omega
  have HS0 : Hid (∃ ys, Spine base w (.slice (some ⟨g, 0, none⟩) n cap) L (mkK k0 p q) n 0 ys) := ⟨ys, hS⟩
  have HR0 : Hid (Rows2 base w L p q (mkK k0 p q) n 0 0) := hR
  clear hO hform h0 hK hS hR
  go_enter Try.func80, Try.ntmps80
  go_wp2
  go_loopw [1, 5] (fun kk i wr => ∃ (k : Nat) (ys : List Value), i = .int .i64 k ∧ kk = .int .i64 ((mkK k0 p q k : Nat) : Int) ∧ k ≤ n ∧ Spine base wr (.slice (some ⟨g, 0, none⟩) n cap) L (mkK k0 p q) n k ys ∧ Rows2 base wr L p q (mkK k0 p q) n k k ∧ GrownS w wr (InL (.slice (some ⟨g, 0, none⟩) n cap) L n)) (fun _ i _ => n - (intOf i).toNat)
  case atStart =>
    obtain ⟨ys, h⟩ := HS0.out
    exact ⟨0, ys, rfl, rfl, by omega, h, HR0.out, GrownS.refl _ _⟩
  case round =>
    obtain ⟨k, ys, rfl, rfl, hk, hsp, hrw, hgr⟩ := hrel
    have HSP : Hid (Spine base wr (.slice (some ⟨g, 0, none⟩) n cap) L (mkK k0 p q) n k ys) := hsp
    have HRW : Hid (Rows2 base wr L p q (mkK k0 p q) n k k) := hrw
    have HGR : Hid (GrownS w wr (InL (.slice (some ⟨g, 0, none⟩) n cap) L n)) := hgr
    clear hsp hrw hgr
    by_cases hlt : k < n
    rotate_left
    · obtain rfl : k = n := by omega
      go_wp2
      go_ret
      exact ⟨rfl, ⟨ys, HSP.out⟩, HRW.out, HGR.out⟩
    have hM := HM.out k hlt
    have hP := HP.out k
    have HKS : Hid (mkK k0 p q (k + 1) = mkK k0 p q k + 1 + p k + q k) := rfl
    have cT := markText_any (mkK k0 p q k) wr hP (by omega)
    go_wp2_with fail
    refine cT.mono ?_
    rintro e w1 ⟨rfl, hb1⟩
    clear cT
    have S1 := HSP.out.below hb1
    have R1 := HRW.out.below hb1
    have G1 := HGR.out.grown (grown_of_below hb1) (fun j hj => by cases hj)
    have hl : ys.length = n * 3 := S1.row.1
    obtain ⟨u0, hc0⟩ : ∃ u, w1.cell? ⟨g, k * 3, none⟩ = some u := ⟨ys[k * 3]'(by omega), by rw [S1.row.cellAt (k * 3) (by omega)]; exact List.getElem?_eq_getElem _⟩
    have hf0 : w1.frozen? ⟨g, k * 3, none⟩ = false := S1.row.frozenAt _
    have gst := (S1.row.stored (k * 3) (.string (mtxt (mkK k0 p q k)))).2
    have S2 := S1.store hlt
    have R2 : Rows2 base (w1.setCell ⟨g, k * 3, none⟩ (.string (mtxt (mkK k0 p q k)))) L p q (mkK k0 p q) n k k := R1.kept gst
      (fun j hj => by obtain ⟨xs, a, _⟩ := R1.ints j hj; exact apart_ty a S1.row (by decide)) (fun j hj => by obtain ⟨xs, a, _⟩ := R1.strs j hj; exact apart_ty a S1.row (by decide))
    have G2 := G1.grown gst (fun j hj => .inl (.inl hj))
    obtain ⟨⟨a1, l1, b1, e1⟩, a2, l2, b2, e2⟩ := HF.out k hlt
    obtain ⟨t1, t2⟩ := S2.two k hlt
    have q1 : (w1.setCell ⟨g, k * 3, none⟩ (.string (mtxt (mkK k0 p q k)))).cell? ⟨g, k * 3 + 1, none⟩ = some (L k).1 := by rw [S2.row.cellAt _ (by omega)]; exact t1
    obtain ⟨x1, o1, _⟩ := R2.ints k hlt
    have cI := markI_any (p k) base (L k).1 ((mkK k0 p q k : Int) + 1) x1 _ (by omega) (by omega) (by omega) o1
    have HX : Hid (Spine base (w1.setCell ⟨g, k * 3, none⟩ (.string (mtxt (mkK k0 p q k)))) (.slice (some ⟨g, 0, none⟩) n cap) L (mkK k0 p q) n (k + 1) (ys.set (k * 3) (.string (mtxt (mkK k0 p q k)))) ∧ Rows2 base (w1.setCell ⟨g, k * 3, none⟩ (.string (mtxt (mkK k0 p q k)))) L p q (mkK k0 p q) n k k ∧ GrownS w (w1.setCell ⟨g, k * 3, none⟩ (.string (mtxt (mkK k0 p q k)))) (InL (.slice (some ⟨g, 0, none⟩) n cap) L n)) := ⟨S2, R2, G2⟩
    have HT : Hid ((ys.set (k * 3) (.string (mtxt (mkK k0 p q k))))[k * 3 + 2]? = some (L k).2) := t2
    clear S1 R1 G1 S2 R2 G2 gst t1 t2 o1 hb1 HSP HRW HGR
    rw [e1] at q1 cI
    go_wp2_with fail
    refine cI.mono ?_
    rintro e w2 ⟨rfl, ⟨y1, oy, hy⟩, hg2⟩
    clear cI q1 hc0 hf0
    rw [← e1] at oy hg2
    obtain ⟨S2, R2, G2⟩ := HX.out
    obtain ⟨x1', o1', _⟩ := R2.ints k hlt
    have R3 := R2.mark1 HO.out hlt hg2 oy (fun t ht => by rw [hy t ht]; congr 2)
    have S3 := S2.kept hg2 (apart_ty S2.row o1' (by decide))
    have G3 := G2.grown hg2 (fun j hj => .inl (.inr ⟨k, hlt, .inl hj⟩))
    have q2 : w2.cell? ⟨g, k * 3 + 2, none⟩ = some (L k).2 := by rw [S3.row.cellAt _ (by omega)]; exact HT.out
    obtain ⟨x2, o2, _⟩ := R3.strs k hlt
    have cS := markS_all (q k) base (mkK k0 p q k + 1 + p k) (L k).2 x2 w2 (by omega) (by omega) (by omega) o2
    rw [show ((mkK k0 p q k + 1 + p k : Nat) : Int) = (mkK k0 p q k : Int) + 1 + (p k : Int) by omega] at cS
    have HX3 : Hid (Spine base w2 (.slice (some ⟨g, 0, none⟩) n cap) L (mkK k0 p q) n (k + 1) (ys.set (k * 3) (.string (mtxt (mkK k0 p q k)))) ∧ Rows2 base w2 L p q (mkK k0 p q) n (k + 1) k ∧ GrownS w w2 (InL (.slice (some ⟨g, 0, none⟩) n cap) L n)) := ⟨S3, R3, G3⟩
    clear S2 R2 G2 S3 R3 G3 hg2 oy hy o1' o2 HX
    rw [e2] at q2 cS
    go_wp2_with fail
    refine cS.mono ?_
    rintro e w3 ⟨rfl, ⟨y2, oy, hy⟩, hg3⟩
    clear cS q2
    rw [← e2] at oy hg3
    obtain ⟨S3, R3, G3⟩ := HX3.out
    obtain ⟨x2', o2', _⟩ := R3.strs k hlt
    have R4 := R3.mark2 HO.out hlt hg3 oy hy
    have S4 := S3.kept hg3 (apart_ty S3.row o2' (by decide))
    have G4 := G3.grown hg3 (fun j hj => .inl (.inr ⟨k, hlt, .inr hj⟩))
    have HX4 : Hid (Spine base w3 (.slice (some ⟨g, 0, none⟩) n cap) L (mkK k0 p q) n (k + 1) (ys.set (k * 3) (.string (mtxt (mkK k0 p q k)))) ∧ Rows2 base w3 L p q (mkK k0 p q) n (k + 1) (k + 1) ∧ GrownS w w3 (InL (.slice (some ⟨g, 0, none⟩) n cap) L n)) := ⟨S4, R4, G4⟩
    clear S3 R3 G3 S4 R4 G4 hg3 oy hy o2' HX3
    go_wp2
    go_roundw
    case rel => exact ⟨k + 1, _, by go_num, by rw [HKS.out]; congr 1, by omega, HX4.out.1, HX4.out.2.1, HX4.out.2.2⟩
    case measure => simp [intOf]; omega

theorem markAttrS_zero (k0 : Int) (w : World) : Calls Try.prog 80 #[.slice none 0 0, .int .i64 k0] w fun e w' => e = .returned (.int .i64 k0) ∧ w' = w := by
  go_enter Try.func80, Try.ntmps80
  go_wp2
  refine wp_loop_rounds 1 ?_
  rw [rounds_succ]
  go_wp2
  go_ret
  exact ⟨rfl, rfl⟩
end Go.Proofs.Ytobimpgapfecoaa
