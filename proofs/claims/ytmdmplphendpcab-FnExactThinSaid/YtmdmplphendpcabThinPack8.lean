/- Texts of this claim, put together: part 8. -/
import Derived.Test.YtmdmplphendpcabRows
import Derived.WalkKit
import Derived.ProofKit
import Derived.OpenShut
import Derived.Test.YtmdmplphendpcabThinPack4
import Derived.Test.YtmdmplphendpcabThinPack3
import Derived.Test.YtmdmplphendpcabThinPack1
import Derived.Test.YtmdmplphendpcabThinPack7
/- A step of a region that draws; a row as a slice. -/
namespace Go.Proofs.Ytmdmplphendpcab
open Go.RowKit
set_option maxRecDepth 100000
theorem step_wp {P : Program} {ops : Array Oper} {o : Oper} {a : Act} {w : World} {K : Act → World → Prop} {Q : Exit → Act → World → Prop} {E : Prop} (hg : o.guard = none) (h : Oper.wp P o a w K Q) :
    if Region.wanted o (yielded ops a.tmps) = true then Oper.wp P o a w K Q else E := by
  rw [if_pos (by simp [Region.wanted, hg])]; exact h
theorem own_slice {w : World} {b e s n : Nat} {v : Value} {xs : List Value} (h : w.ownsRow b e s v n xs) : ∃ o c, v = .slice o n c := by
  rcases h.2 with ⟨rfl, h0⟩ | ⟨g, cap, cur, rfl, _⟩
  · exact ⟨none, 0, by rw [h0]⟩
  · exact ⟨_, _, rfl⟩
end Go.Proofs.Ytmdmplphendpcab
/- What the law writes over a list of integers, and looks at again. -/
namespace Go.Proofs.Ytmdmplphendpcab
open Go.RowKit
set_option maxRecDepth 100000

def mkI (k : Int) : Value := .int .i64 (k)

set_option maxHeartbeats 400000 in
theorem markI_pos (g n cap base : Nat) (k0 : Int) (xs : List Value) (w : World) (hn : n ≤ 140737488351232) (h0 : 0 ≤ k0) (h1 : k0 ≤ 140737488351232)
    (ho : w.ownsRow base 3 1 (.slice (some ⟨g, 0, none⟩) n cap) n xs) :
    Calls Try.prog 45 #[.slice (some ⟨g, 0, none⟩) n cap, .int .i64 k0] w fun e w' => e = .returned (.int .i64 (k0 + n)) ∧ (∃ ys, w'.ownsRow base 3 1 (.slice (some ⟨g, 0, none⟩) n cap) n ys ∧ ∀ j, j < n → ys[j]? = some (mkI (k0 + j))) ∧ w.grownBy w' (some g) := by
  go_enter Try.func45, Try.ntmps45
  go_wp2
  go_loopw [1, 5] (fun kk i wr => ∃ (k : Nat) (ys : List Value), i = .int .i64 k ∧ kk = .int .i64 (k0 + k) ∧ k ≤ n ∧ wr.ownsRow base 3 1 (.slice (some ⟨g, 0, none⟩) n cap) n ys ∧ (∀ j, j < k → ys[j]? = some (mkI (k0 + j))) ∧ w.grownBy wr (some g)) (fun _ i _ => n - (intOf i).toNat)
  case atStart => exact ⟨0, xs, rfl, by simp, by omega, ho, by omega, World.grownBy.refl _ _⟩
  case round =>
    obtain ⟨k, ys, rfl, rfl, hk, hown, hys, hgr⟩ := hrel
    by_cases hlt : k < n
    · have hlen : ys.length = n := by have := hown.1; omega
      have hc : wr.cell? ⟨g, k, none⟩ = some (ys[k]'(by omega)) := by rw [hown.cellAt k (by omega)]; exact List.getElem?_eq_getElem _
      have hf : wr.frozen? ⟨g, k, none⟩ = false := hown.frozenAt k
      go_wp2
      go_roundw
      case rel =>
        have hs := hown.stored k (mkI (k0 + k))
        refine ⟨k + 1, _, by go_num, by go_num, by omega, hs.1, ?_, grownBy_trans hgr hs.2⟩
        intro j hj
        rw [List.getElem?_set]
        by_cases e : k = j
        · subst e; rw [if_pos rfl, if_pos (by omega)]
        · rw [if_neg e]; exact hys j (by omega)
      case measure => simp [intOf]; omega
    · go_wp2
      go_ret
      exact ⟨ret_int (by omega), ⟨ys, hown, fun j hj => hys j (by omega)⟩, hgr⟩

set_option maxHeartbeats 400000 in
theorem heldI_pos (g n cap base : Nat) (k0 : Int) (ys : List Value) (w : World) (hn : n ≤ 140737488351232) (h0 : 0 ≤ k0) (h1 : k0 ≤ 140737488351232)
    (ho : w.ownsRow base 3 1 (.slice (some ⟨g, 0, none⟩) n cap) n ys) (hys : ∀ j, j < n → ys[j]? = some (mkI (k0 + j))) :
    Calls Try.prog 47 #[.slice (some ⟨g, 0, none⟩) n cap, .int .i64 k0] w fun e w' => e = .returned (.int .i64 (k0 + n)) ∧ w' = w := by
  go_enter Try.func47, Try.ntmps47
  go_wp2
  go_loop [1, 5] (fun kk i => ∃ k : Nat, i = .int .i64 k ∧ kk = .int .i64 (k0 + k) ∧ k ≤ n) (fun _ i => n - (intOf i).toNat)
  case atStart => exact ⟨0, rfl, by simp, by omega⟩
  case round =>
    obtain ⟨k, rfl, rfl, hk⟩ := hrel
    by_cases hlt : k < n
    · have hc : w.cell? ⟨g, k, none⟩ = some (.int .i64 ((k0 + k))) := by rw [ho.cellAt k (by omega)]; exact hys k hlt
      clear hys
      go_wp2
      go_round
      case rel => exact ⟨k + 1, by go_num, by go_num, by omega⟩
      case measure => simp [intOf]; omega
    · go_wp2
      go_ret
      exact ⟨ret_int (by omega), rfl⟩

theorem markI_zero (k0 : Int) (w : World) : Calls Try.prog 45 #[.slice none 0 0, .int .i64 k0] w fun e w' => e = .returned (.int .i64 k0) ∧ w' = w := by
  go_enter Try.func45, Try.ntmps45
  go_wp2
  refine wp_loop_rounds 1 ?_
  rw [rounds_succ]
  go_wp2
  go_ret
  exact ⟨rfl, rfl⟩

theorem heldI_zero (k0 : Int) (w : World) : Calls Try.prog 47 #[.slice none 0 0, .int .i64 k0] w fun e w' => e = .returned (.int .i64 k0) ∧ w' = w := by
  go_enter Try.func47, Try.ntmps47
  go_wp2
  refine wp_loop_rounds 1 ?_
  rw [rounds_succ]
  go_wp2
  go_ret
  exact ⟨rfl, rfl⟩

theorem markI_any (n base : Nat) (v : Value) (k0 : Int) (xs : List Value) (w : World) (hn : n ≤ 140737488351232) (h0 : 0 ≤ k0) (h1 : k0 ≤ 140737488351232) (ho : w.ownsRow base 3 1 v n xs) :
    Calls Try.prog 45 #[v, .int .i64 k0] w fun e w' => e = .returned (.int .i64 (k0 + n)) ∧ (∃ ys, w'.ownsRow base 3 1 v n ys ∧ ∀ j, j < n → ys[j]? = some (mkI (k0 + j))) ∧ w.grownBy w' v.ownBlock := by
  rcases ho.2 with ⟨rfl, rfl⟩ | ⟨g, cap, cur, rfl, _⟩
  · refine (markI_zero k0 w).mono fun e w' ⟨he, hw⟩ => ?_
    subst he hw
    exact ⟨ret_int (by omega), ⟨xs, ho, by omega⟩, World.grownBy.refl _ _⟩
  · exact markI_pos g n cap base k0 xs w hn h0 h1 ho

theorem heldI_any (n base : Nat) (v : Value) (k0 : Int) (ys : List Value) (w : World) (hn : n ≤ 140737488351232) (h0 : 0 ≤ k0) (h1 : k0 ≤ 140737488351232) (ho : w.ownsRow base 3 1 v n ys) (hys : ∀ j, j < n → ys[j]? = some (mkI (k0 + j))) :
    Calls Try.prog 47 #[v, .int .i64 k0] w fun e w' => e = .returned (.int .i64 (k0 + n)) ∧ w' = w := by
  rcases ho.2 with ⟨rfl, rfl⟩ | ⟨g, cap, cur, rfl, _⟩
  · refine (heldI_zero k0 w).mono fun e w' ⟨he, hw⟩ => ?_
    subst he hw
    exact ⟨ret_int (by omega), rfl⟩
  · exact heldI_pos g n cap base k0 ys w hn h0 h1 ho hys
/-- Two rows apart: the one was there ahead of the other's memory; the other way round. -/
theorem apart' {w : World} {v v' : Value} {b b' n n' e e' B : Nat} {xs xs' : List Value} (_h : w.ownsRow b e 1 v n xs) (h' : w.ownsRow b' e' 1 v' n' xs') (hb : ∀ k, v.ownBlock = some k → k < B) (hB : B ≤ b' := by omega) : v.ownBlock = none ∨ v.ownBlock ≠ v'.ownBlock :=
  apart _h h' fun k hk => Nat.lt_of_lt_of_le (hb k hk) hB
theorem apart2 {w : World} {v v' : Value} {b b' n n' e e' B : Nat} {xs xs' : List Value} (h : w.ownsRow b e 1 v n xs) (_h' : w.ownsRow b' e' 1 v' n' xs') (hb : ∀ k, v'.ownBlock = some k → k < B) (hB : B ≤ b := by omega) : v.ownBlock = none ∨ v.ownBlock ≠ v'.ownBlock := by
  cases ev : v.ownBlock with
  | none => exact .inl rfl
  | some k =>
    refine .inr fun e' => ?_
    have h1 := hb k e'.symm
    have h2 := (h.lt k ev).1
    omega
end Go.Proofs.Ytmdmplphendpcab
/- A world in which what stands at certain blocks alone has turned. -/
namespace Go.Proofs.Ytmdmplphendpcab
open Go.RowKit
set_option maxRecDepth 100000

/-- Rows of other elements lie in other blocks. -/
theorem apart_ty {w : World} {v v' : Value} {b b' e e' s s' n n' : Nat} {xs xs' : List Value} (h : w.ownsRow b e s v n xs) (h' : w.ownsRow b' e' s' v' n' xs') (he : e ≠ e') : v.ownBlock = none ∨ v.ownBlock ≠ v'.ownBlock := by
  rcases h.2 with ⟨rfl, _⟩ | ⟨g, cap, cur, rfl, _, hc, _⟩
  · exact .inl rfl
  · refine .inr fun eq => ?_
    rcases h'.2 with ⟨rfl, _⟩ | ⟨g', cap', cur', rfl, _, hc', _⟩
    · cases eq
    · injection eq with eq
      simp only at eq
      subst eq
      rw [hc] at hc'
      injection hc' with hc'
      injection hc' with _ h2 _
      exact he h2
theorem grown_of_below {w w' : World} (h : Below w.heap.size w w') : w.grownBy w' none := ⟨h.os, h.tape, h.output, h.size, fun k hk _ => h.block k hk⟩
/-- Nothing of the old memory has turned but blocks of a set. -/
structure GrownS (w w' : World) (R : Nat → Prop) : Prop where
  os : w'.os = w.os
  tape : w'.tape = w.tape
  output : w'.output = w.output
  size : w.heap.size ≤ w'.heap.size
  block : ∀ k, k < w.heap.size → ¬ R k → w'.heap[k]? = w.heap[k]?
theorem GrownS.refl (w : World) (R : Nat → Prop) : GrownS w w R := ⟨rfl, rfl, rfl, Nat.le_refl _, fun _ _ _ => rfl⟩
theorem GrownS.grown {w w' w'' : World} {R : Nat → Prop} {r : Option Nat} (h : GrownS w w' R) (k : w'.grownBy w'' r) (hr : ∀ j, r = some j → R j ∨ w.heap.size ≤ j) : GrownS w w'' R :=
  ⟨k.os.trans h.os, k.tape.trans h.tape, k.output.trans h.output, Nat.le_trans h.size k.size, fun j hj hR => (k.block j (Nat.lt_of_lt_of_le hj h.size) (fun e => by
    rcases hr j e.symm with h1 | h1
    · exact hR h1
    · omega)).trans (h.block j hj hR)⟩
theorem GrownS.below {n : Nat} {w0 w w' : World} {R : Nat → Prop} (h : GrownS w w' R) (hb : Below n w0 w) (hn : n ≤ w.heap.size) (hr : ∀ k, R k → n ≤ k) : Below n w0 w' :=
  ⟨h.os.trans hb.os, h.tape.trans hb.tape, h.output.trans hb.output, Nat.le_trans hb.size h.size, fun k hk => (h.block k (by omega) (fun e => by have := hr k e; omega)).trans (hb.block k hk)⟩
theorem GrownS.blk {t : TypeId} {w w' : World} {R : Nat → Prop} {g : Nat} {cs : Array Value} (h : GrownS w w' R) (hb : Blk t w g cs) (hr : ¬ R g) : Blk t w' g cs := by
  have hl := hb.lt
  unfold Blk at hb ⊢
  rw [h.block g hl hr]; exact hb


theorem own_keptS {w w' : World} {R : Nat → Prop} {b e s n : Nat} {v : Value} {xs : List Value} (h : w.ownsRow b e s v n xs) (hg : GrownS w w' R) (hr : ∀ k, v.ownBlock = some k → ¬ R k) : w'.ownsRow b e s v n xs := by
  refine ⟨h.1, ?_⟩
  rcases h.2 with h' | ⟨g, cap, cur, rfl, hgb, hc, r⟩
  · exact .inl h'
  · refine .inr ⟨g, cap, cur, rfl, hgb, ?_, r⟩
    rw [hg.block g (Array.getElem?_eq_some_iff.1 hc).1 (hr g rfl)]; exact hc
theorem ne_of_ord {x y : Value} (h : ∀ a b, x.ownBlock = some a → y.ownBlock = some b → a ≠ b) : x.ownBlock = none ∨ x.ownBlock ≠ y.ownBlock := by
  cases e : x.ownBlock with
  | none => exact .inl rfl
  | some a => exact .inr fun e' => h a a e e'.symm rfl
theorem GrownS.mono {w w' : World} {R R' : Nat → Prop} (h : GrownS w w' R) (hr : ∀ k, R k → R' k) : GrownS w w' R' := ⟨h.os, h.tape, h.output, h.size, fun k hk hn => h.block k hk fun e => hn (hr k e)⟩
theorem GrownS.alloc {w w' : World} {R : Nat → Prop} {o : Obj} (h : GrownS (w.alloc o) w' R) : GrownS w w' R :=
  ⟨h.os, h.tape, h.output, by have := h.size; rw [World.size_alloc] at this; omega, fun k hk hn => (h.block k (by rw [World.size_alloc]; omega) hn).trans (((Below.refl w.heap.size w).alloc (Nat.le_refl _) o).block k hk)⟩
end Go.Proofs.Ytmdmplphendpcab
/- What the laws' own helpers write over counts, and look at again. -/
namespace Go.Proofs.Ytmdmplphendpcab
open Go.RowKit
set_option maxRecDepth 100000
set_option linter.unusedSimpArgs false
/-- The number of the first mark of the j-th list. -/
def mkC (k0 : Nat) (p : Nat → Nat) : Nat → Nat
  | 0 => k0
  | j + 1 => mkC k0 p j + p j
theorem mkC_mono {k0 : Nat} {p : Nat → Nat} {i j : Nat} (h : i ≤ j) : mkC k0 p i ≤ mkC k0 p j := by
  induction j with
  | zero => obtain rfl : i = 0 := by omega
            exact Nat.le_refl _
  | succ j ih =>
    by_cases e : i = j + 1
    · subst e; exact Nat.le_refl _
    · have := ih (by omega); simp only [mkC]; omega
def lenL (cs : List (List Int)) (j : Nat) : Nat := (il cs j).length
/-- Lists of numbers, the first i of them marked. -/
structure RowsM (base : Nat) (w : World) (L : Nat → Value) (p K : Nat → Nat) (n i : Nat) : Prop where
  ints : ∀ j, j < n → ∃ xs, w.ownsRow base 3 1 (L j) (p j) xs ∧ (j < i → ∀ t, t < p j → xs[t]? = some (mkI ((K j : Int) + t)))
theorem RowsM.below {base : Nat} {w w' : World} {L : Nat → Value} {p K : Nat → Nat} {n i : Nat} (h : RowsM base w L p K n i) (hb : Below w.heap.size w w') : RowsM base w' L p K n i :=
  ⟨fun j hj => by obtain ⟨xs, a, b⟩ := h.ints j hj; exact ⟨xs, own_below a hb, b⟩⟩
theorem RowsM.kept {base : Nat} {w w' : World} {L : Nat → Value} {p K : Nat → Nat} {n i : Nat} {r : Option Nat} (h : RowsM base w L p K n i) (hg : w.grownBy w' r) (h1 : ∀ j, j < n → (L j).ownBlock = none ∨ (L j).ownBlock ≠ r) : RowsM base w' L p K n i :=
  ⟨fun j hj => by obtain ⟨xs, a, b⟩ := h.ints j hj; exact ⟨xs, a.kept hg (h1 j hj), b⟩⟩
def OrdL (L : Nat → Value) (n : Nat) : Prop := ∀ i j, i < n → j < n → i ≠ j → (L i).ownBlock = none ∨ (L i).ownBlock ≠ (L j).ownBlock
theorem SepII.ordL {base : Nat} {w : World} {v : Value} {L : Nat → Value} {ys : List Value} {cs : List (List Int)} {n : Nat} (h : SepII base w v L ys cs n) : OrdL L n := fun i j hi hj hne => ne_of_ord fun a b ha hb => by
  rcases Nat.lt_or_gt_of_ne hne with h1 | h1
  · have := h.ord i j a b h1 hj ha hb; omega
  · have := h.ord j i b a h1 hi hb ha; omega
theorem RowsM.mark {base : Nat} {w w' : World} {L : Nat → Value} {p K : Nat → Nat} {n i : Nat} (h : RowsM base w L p K n i) (hO : OrdL L n) (hi : i < n) (hg : w.grownBy w' (L i).ownBlock)
    {ys : List Value} (ho : w'.ownsRow base 3 1 (L i) (p i) ys) (hys : ∀ t, t < p i → ys[t]? = some (mkI ((K i : Int) + t))) : RowsM base w' L p K n (i + 1) := by
  refine ⟨fun j hj => ?_⟩
  by_cases e : j = i
  · subst e; exact ⟨ys, ho, fun _ => hys⟩
  · obtain ⟨xs, a, b⟩ := h.ints j hj
    exact ⟨xs, a.kept hg (hO j i hj hi e), fun hlt => b (by omega)⟩
/-- The blocks that the marks may turn. -/
def InII (L : Nat → Value) (n : Nat) (k : Nat) : Prop := ∃ j, j < n ∧ (L j).ownBlock = some k
set_option maxHeartbeats 800000 in
theorem markII_pos (g cap n base k0 : Nat) (L : Nat → Value) (p : Nat → Nat) (ys : List Value) (w : World) (hrow : w.ownsRow base 26 1 (.slice (some ⟨g, 0, none⟩) n cap) n ys) (hcells : ∀ j, j < n → ys[j]? = some (L j)) (hR : RowsM base w L p (mkC k0 p) n 0) (hO : OrdL L n)
    (hn : n ≤ 1048576) (hK : mkC k0 p n ≤ 35184372088832) :
    Calls Try.prog 46 #[.slice (some ⟨g, 0, none⟩) n cap, .int .i64 (k0 : Int)] w fun e w' => e = .returned (.int .i64 ((mkC k0 p n : Nat) : Int)) ∧ w'.ownsRow base 26 1 (.slice (some ⟨g, 0, none⟩) n cap) n ys ∧ RowsM base w' L p (mkC k0 p) n n ∧ GrownS w w' (InII L n) := by
  have HO : Hid (OrdL L n) := hO
  have HC : Hid (∀ j, j < n → ys[j]? = some (L j)) := hcells
  have HM : Hid (∀ i, i < n → mkC k0 p i + p i ≤ 35184372088832) := fun i hi => by
    have := mkC_mono (k0 := k0) (p := p) (show i + 1 ≤ n by omega)
    simp only [mkC] at this
    omega
  have HW : Hid (w.ownsRow base 26 1 (.slice (some ⟨g, 0, none⟩) n cap) n ys ∧ RowsM base w L p (mkC k0 p) n 0) := ⟨hrow, hR⟩
  clear hO hcells hrow hR
  go_enter Try.func46, Try.ntmps46
  go_wp2
  go_loopw [1, 5] (fun kv i wr => ∃ q : Nat, i = .int .i64 q ∧ q ≤ n ∧ kv = .int .i64 ((mkC k0 p q : Nat) : Int) ∧ wr.ownsRow base 26 1 (.slice (some ⟨g, 0, none⟩) n cap) n ys ∧ RowsM base wr L p (mkC k0 p) n q ∧ GrownS w wr (InII L n)) (fun _ i _ => n - (intOf i).toNat)
  case atStart => exact ⟨0, rfl, by omega, rfl, HW.out.1, HW.out.2, GrownS.refl _ _⟩
  case round =>
    obtain ⟨q, rfl, hq, rfl, hown, hrows, hgr⟩ := hrel
    by_cases hlt : q < n
    · obtain ⟨xs, hx, -⟩ := hrows.ints q hlt
      obtain ⟨ol, cl, hL⟩ := own_slice hx
      have hcell : wr.cell? ⟨g, q, none⟩ = some (.slice ol (p q) cl) := by rw [hown.cellAt q (by omega), HC.out q hlt, hL]
      have hmq := HM.out q hlt
      have e1 := markI_any (p q) base (L q) ((mkC k0 p q : Nat) : Int) xs wr (by omega) (by omega) (by omega) hx
      rw [hL] at e1
      have HX : Hid (wr.ownsRow base 26 1 (.slice (some ⟨g, 0, none⟩) n cap) n ys ∧ RowsM base wr L p (mkC k0 p) n q ∧ GrownS w wr (InII L n) ∧ wr.ownsRow base 3 1 (L q) (p q) xs) := ⟨hown, hrows, hgr, hx⟩
      have HL : Hid (L q = .slice ol (p q) cl) := hL
      clear hown hrows hgr hx hL
      go_wp2_with fail
      refine e1.mono ?_
      clear e1
      rintro e w1 ⟨rfl, ⟨zs, hz, hzs⟩, hg1⟩
      obtain ⟨hown, hrows, hgr, hx⟩ := HX.out
      rw [← HL.out] at hz hg1
      have own1 := hown.kept hg1 (apart_ty hown hx (by decide))
      have rows1 := hrows.mark HO.out hlt hg1 hz hzs
      have gr1 := hgr.grown hg1 (fun j hj => .inl ⟨q, hlt, hj⟩)
      have HY : Hid (w1.ownsRow base 26 1 (.slice (some ⟨g, 0, none⟩) n cap) n ys ∧ RowsM base w1 L p (mkC k0 p) n (q + 1) ∧ GrownS w w1 (InII L n)) := ⟨own1, rows1, gr1⟩
      have HK2 : Hid (((mkC k0 p (q + 1) : Nat) : Int) = ((mkC k0 p q : Nat) : Int) + (p q : Int)) := by simp only [mkC]; exact Int.natCast_add _ _
      clear own1 rows1 gr1 hown hrows hgr hx hz hzs hg1 HX
      go_wp2
      go_roundw
      case rel => exact ⟨q + 1, by go_num, by omega, by rw [HK2.out], HY.out.1, HY.out.2.1, HY.out.2.2⟩
      case measure => simp [intOf]; omega
    · obtain rfl : q = n := by omega
      have HX : Hid (wr.ownsRow base 26 1 (.slice (some ⟨g, 0, none⟩) q cap) q ys ∧ RowsM base wr L p (mkC k0 p) q q ∧ GrownS w wr (InII L q)) := ⟨hown, hrows, hgr⟩
      clear hown hrows hgr
      go_wp2
      go_ret
      exact ⟨rfl, HX.out.1, HX.out.2.1, HX.out.2.2⟩
end Go.Proofs.Ytmdmplphendpcab
