/- Texts of this claim, put together: part 8. -/
import Derived.Test.YtobimpgapfecoabRows
import Derived.WalkKit
import Derived.ProofKit
import Derived.OpenShut
import Derived.Test.YtobimpgapfecoabThinPack4
import Derived.Test.YtobimpgapfecoabThinPack1
import Derived.Test.YtobimpgapfecoabThinPack3
/- A step of a region that draws; a row as a slice. -/
namespace Go.Proofs.Ytobimpgapfecoab
open Go.RowKit
set_option maxRecDepth 100000
theorem step_wp {P : Program} {ops : Array Oper} {o : Oper} {a : Act} {w : World} {K : Act → World → Prop} {Q : Exit → Act → World → Prop} {E : Prop} (hg : o.guard = none) (h : Oper.wp P o a w K Q) :
    if Region.wanted o (yielded ops a.tmps) = true then Oper.wp P o a w K Q else E := by
  rw [if_pos (by simp [Region.wanted, hg])]; exact h
theorem own_slice {w : World} {b e s n : Nat} {v : Value} {xs : List Value} (h : w.ownsRow b e s v n xs) : ∃ o c, v = .slice o n c := by
  rcases h.2 with ⟨rfl, h0⟩ | ⟨g, cap, cur, rfl, _⟩
  · exact ⟨none, 0, by rw [h0]⟩
  · exact ⟨_, _, rfl⟩
end Go.Proofs.Ytobimpgapfecoab
/- What the law writes over a list of integers, and looks at again. -/
namespace Go.Proofs.Ytobimpgapfecoab
open Go.RowKit
set_option maxRecDepth 100000

def mkI (k : Int) : Value := .int .i64 (k)

set_option maxHeartbeats 400000 in
theorem markI_pos (g n cap base : Nat) (k0 : Int) (xs : List Value) (w : World) (hn : n ≤ 140737488351232) (h0 : 0 ≤ k0) (h1 : k0 ≤ 140737488351232)
    (ho : w.ownsRow base 3 1 (.slice (some ⟨g, 0, none⟩) n cap) n xs) :
    Calls Try.prog 33 #[.slice (some ⟨g, 0, none⟩) n cap, .int .i64 k0] w fun e w' => e = .returned (.int .i64 (k0 + n)) ∧ (∃ ys, w'.ownsRow base 3 1 (.slice (some ⟨g, 0, none⟩) n cap) n ys ∧ ∀ j, j < n → ys[j]? = some (mkI (k0 + j))) ∧ w.grownBy w' (some g) := by
  go_enter Try.func33, Try.ntmps33
  go_wp2
  go_loopw [1, 5] (fun kk i wr => ∃ (k : Nat) (ys : List Value), i = .int .i64 k ∧ kk = .int .i64 (k0 + k) ∧ k ≤ n ∧ wr.ownsRow base 3 1 (.slice (some ⟨g, 0, none⟩) n cap) n ys ∧ (∀ j, j < k → ys[j]? = some (mkI (k0 + j))) ∧ w.grownBy wr (some g)) (fun _ i _ => n - (intOf i).toNat)
  case atStart => exact ⟨0, xs, rfl, by simp, by omega, ho, by omega, World.grownBy.refl _ _⟩
  case round =>
    obtain ⟨k, ys, rfl, rfl, hk, hown, hys, hgr⟩ := hrel
    by_cases hlt : k < n
    · have hlen : ys.length = n := by have := hown.1; omega
      have hc : wr.cell? ⟨g, k, none⟩ = some (ys[k]'(by omega)) := by rw [hown.cellAt k (by omega)]; exact List.getElem?_eq_getElem _
      have hf : wr.frozen? ⟨g, k, none⟩ = false := hown.frozenAt k
      go_wp2
      go_roundw
      case rel =>
        have hs := hown.stored k (mkI (k0 + k))
        refine ⟨k + 1, _, by go_num, by go_num, by omega, hs.1, ?_, grownBy_trans hgr hs.2⟩
        intro j hj
        rw [List.getElem?_set]
        by_cases e : k = j
        · subst e; rw [if_pos rfl, if_pos (by omega)]
        · rw [if_neg e]; exact hys j (by omega)
      case measure => simp [intOf]; omega
    · go_wp2
      go_ret
      exact ⟨ret_int (by omega), ⟨ys, hown, fun j hj => hys j (by omega)⟩, hgr⟩

set_option maxHeartbeats 400000 in
theorem heldI_pos (g n cap base : Nat) (k0 : Int) (ys : List Value) (w : World) (hn : n ≤ 140737488351232) (h0 : 0 ≤ k0) (h1 : k0 ≤ 140737488351232)
    (ho : w.ownsRow base 3 1 (.slice (some ⟨g, 0, none⟩) n cap) n ys) (hys : ∀ j, j < n → ys[j]? = some (mkI (k0 + j))) :
    Calls Try.prog 34 #[.slice (some ⟨g, 0, none⟩) n cap, .int .i64 k0] w fun e w' => e = .returned (.int .i64 (k0 + n)) ∧ w' = w := by
  go_enter Try.func34, Try.ntmps34
  go_wp2
  go_loop [1, 5] (fun kk i => ∃ k : Nat, i = .int .i64 k ∧ kk = .int .i64 (k0 + k) ∧ k ≤ n) (fun _ i => n - (intOf i).toNat)
  case atStart => exact ⟨0, rfl, by simp, by omega⟩
  case round =>
    obtain ⟨k, rfl, rfl, hk⟩ := hrel
    by_cases hlt : k < n
    · have hc : w.cell? ⟨g, k, none⟩ = some (.int .i64 ((k0 + k))) := by rw [ho.cellAt k (by omega)]; exact hys k hlt
      clear hys
      go_wp2
      go_round
      case rel => exact ⟨k + 1, by go_num, by go_num, by omega⟩
      case measure => simp [intOf]; omega
    · go_wp2
      go_ret
      exact ⟨ret_int (by omega), rfl⟩

theorem markI_zero (k0 : Int) (w : World) : Calls Try.prog 33 #[.slice none 0 0, .int .i64 k0] w fun e w' => e = .returned (.int .i64 k0) ∧ w' = w := by
  go_enter Try.func33, Try.ntmps33
  go_wp2
  refine wp_loop_rounds 1 ?_
  rw [rounds_succ]
  go_wp2
  go_ret
  exact ⟨rfl, rfl⟩

theorem heldI_zero (k0 : Int) (w : World) : Calls Try.prog 34 #[.slice none 0 0, .int .i64 k0] w fun e w' => e = .returned (.int .i64 k0) ∧ w' = w := by
  go_enter Try.func34, Try.ntmps34
  go_wp2
  refine wp_loop_rounds 1 ?_
  rw [rounds_succ]
  go_wp2
  go_ret
  exact ⟨rfl, rfl⟩

theorem markI_any (n base : Nat) (v : Value) (k0 : Int) (xs : List Value) (w : World) (hn : n ≤ 140737488351232) (h0 : 0 ≤ k0) (h1 : k0 ≤ 140737488351232) (ho : w.ownsRow base 3 1 v n xs) :
    Calls Try.prog 33 #[v, .int .i64 k0] w fun e w' => e = .returned (.int .i64 (k0 + n)) ∧ (∃ ys, w'.ownsRow base 3 1 v n ys ∧ ∀ j, j < n → ys[j]? = some (mkI (k0 + j))) ∧ w.grownBy w' v.ownBlock := by
  rcases ho.2 with ⟨rfl, rfl⟩ | ⟨g, cap, cur, rfl, _⟩
  · refine (markI_zero k0 w).mono fun e w' ⟨he, hw⟩ => ?_
    subst he hw
    exact ⟨ret_int (by omega), ⟨xs, ho, by omega⟩, World.grownBy.refl _ _⟩
  · exact markI_pos g n cap base k0 xs w hn h0 h1 ho

theorem heldI_any (n base : Nat) (v : Value) (k0 : Int) (ys : List Value) (w : World) (hn : n ≤ 140737488351232) (h0 : 0 ≤ k0) (h1 : k0 ≤ 140737488351232) (ho : w.ownsRow base 3 1 v n ys) (hys : ∀ j, j < n → ys[j]? = some (mkI (k0 + j))) :
    Calls Try.prog 34 #[v, .int .i64 k0] w fun e w' => e = .returned (.int .i64 (k0 + n)) ∧ w' = w := by
  rcases ho.2 with ⟨rfl, rfl⟩ | ⟨g, cap, cur, rfl, _⟩
  · refine (heldI_zero k0 w).mono fun e w' ⟨he, hw⟩ => ?_
    subst he hw
    exact ⟨ret_int (by omega), rfl⟩
  · exact heldI_pos g n cap base k0 ys w hn h0 h1 ho hys
/-- Two rows apart: the one was there ahead of the other's memory; the other way round. -/
theorem apart' {w : World} {v v' : Value} {b b' n n' e e' B : Nat} {xs xs' : List Value} (_h : w.ownsRow b e 1 v n xs) (h' : w.ownsRow b' e' 1 v' n' xs') (hb : ∀ k, v.ownBlock = some k → k < B) (hB : B ≤ b' := by omega) : v.ownBlock = none ∨ v.ownBlock ≠ v'.ownBlock :=
  apart _h h' fun k hk => Nat.lt_of_lt_of_le (hb k hk) hB
theorem apart2 {w : World} {v v' : Value} {b b' n n' e e' B : Nat} {xs xs' : List Value} (h : w.ownsRow b e 1 v n xs) (_h' : w.ownsRow b' e' 1 v' n' xs') (hb : ∀ k, v'.ownBlock = some k → k < B) (hB : B ≤ b := by omega) : v.ownBlock = none ∨ v.ownBlock ≠ v'.ownBlock := by
  cases ev : v.ownBlock with
  | none => exact .inl rfl
  | some k =>
    refine .inr fun e' => ?_
    have h1 := hb k e'.symm
    have h2 := (h.lt k ev).1
    omega
end Go.Proofs.Ytobimpgapfecoab
/- What lies below is left: a world is grown. -/
namespace Go.Proofs.Ytobimpgapfecoab
open Go.RowKit
set_option maxRecDepth 100000
theorem grown_of_below {w w' : World} (h : Below w.heap.size w w') (r : Option Nat := none) : w.grownBy w' r := ⟨h.os, h.tape, h.output, h.size, fun k hk _ => h.block k hk⟩
end Go.Proofs.Ytobimpgapfecoab
/- A world in which what stands at certain blocks alone has turned. -/
namespace Go.Proofs.Ytobimpgapfecoab
open Go.RowKit
set_option maxRecDepth 100000

/-- Rows of other elements lie in other blocks. -/
theorem apart_ty {w : World} {v v' : Value} {b b' e e' s s' n n' : Nat} {xs xs' : List Value} (h : w.ownsRow b e s v n xs) (h' : w.ownsRow b' e' s' v' n' xs') (he : e ≠ e') : v.ownBlock = none ∨ v.ownBlock ≠ v'.ownBlock := by
  rcases h.2 with ⟨rfl, _⟩ | ⟨g, cap, cur, rfl, _, hc, _⟩
  · exact .inl rfl
  · refine .inr fun eq => ?_
    rcases h'.2 with ⟨rfl, _⟩ | ⟨g', cap', cur', rfl, _, hc', _⟩
    · cases eq
    · injection eq with eq
      simp only at eq
      subst eq
      rw [hc] at hc'
      injection hc' with hc'
      injection hc' with _ h2 _
      exact he h2
/-- Nothing of the old memory has turned but blocks of a set. -/
structure GrownS (w w' : World) (R : Nat → Prop) : Prop where
  os : w'.os = w.os
  tape : w'.tape = w.tape
  output : w'.output = w.output
  size : w.heap.size ≤ w'.heap.size
  block : ∀ k, k < w.heap.size → ¬ R k → w'.heap[k]? = w.heap[k]?
theorem GrownS.refl (w : World) (R : Nat → Prop) : GrownS w w R := ⟨rfl, rfl, rfl, Nat.le_refl _, fun _ _ _ => rfl⟩
theorem GrownS.grown {w w' w'' : World} {R : Nat → Prop} {r : Option Nat} (h : GrownS w w' R) (k : w'.grownBy w'' r) (hr : ∀ j, r = some j → R j ∨ w.heap.size ≤ j) : GrownS w w'' R :=
  ⟨k.os.trans h.os, k.tape.trans h.tape, k.output.trans h.output, Nat.le_trans h.size k.size, fun j hj hR => (k.block j (Nat.lt_of_lt_of_le hj h.size) (fun e => by
    rcases hr j e.symm with h1 | h1
    · exact hR h1
    · omega)).trans (h.block j hj hR)⟩
theorem GrownS.below {n : Nat} {w0 w w' : World} {R : Nat → Prop} (h : GrownS w w' R) (hb : Below n w0 w) (hn : n ≤ w.heap.size) (hr : ∀ k, R k → n ≤ k) : Below n w0 w' :=
  ⟨h.os.trans hb.os, h.tape.trans hb.tape, h.output.trans hb.output, Nat.le_trans hb.size h.size, fun k hk => (h.block k (by omega) (fun e => by have := hr k e; omega)).trans (hb.block k hk)⟩
theorem GrownS.blk {t : TypeId} {w w' : World} {R : Nat → Prop} {g : Nat} {cs : Array Value} (h : GrownS w w' R) (hb : Blk t w g cs) (hr : ¬ R g) : Blk t w' g cs := by
  have hl := hb.lt
  unfold Blk at hb ⊢
  rw [h.block g hl hr]; exact hb


theorem own_keptS {w w' : World} {R : Nat → Prop} {b e s n : Nat} {v : Value} {xs : List Value} (h : w.ownsRow b e s v n xs) (hg : GrownS w w' R) (hr : ∀ k, v.ownBlock = some k → ¬ R k) : w'.ownsRow b e s v n xs := by
  refine ⟨h.1, ?_⟩
  rcases h.2 with h' | ⟨g, cap, cur, rfl, hgb, hc, r⟩
  · exact .inl h'
  · refine .inr ⟨g, cap, cur, rfl, hgb, ?_, r⟩
    rw [hg.block g (Array.getElem?_eq_some_iff.1 hc).1 (hr g rfl)]; exact hc
theorem ne_of_ord {x y : Value} (h : ∀ a b, x.ownBlock = some a → y.ownBlock = some b → a ≠ b) : x.ownBlock = none ∨ x.ownBlock ≠ y.ownBlock := by
  cases e : x.ownBlock with
  | none => exact .inl rfl
  | some a => exact .inr fun e' => h a a e e'.symm rfl
theorem GrownS.mono {w w' : World} {R R' : Nat → Prop} (h : GrownS w w' R) (hr : ∀ k, R k → R' k) : GrownS w w' R' := ⟨h.os, h.tape, h.output, h.size, fun k hk hn => h.block k hk fun e => hn (hr k e)⟩
theorem GrownS.alloc {w w' : World} {R : Nat → Prop} {o : Obj} (h : GrownS (w.alloc o) w' R) : GrownS w w' R :=
  ⟨h.os, h.tape, h.output, by have := h.size; rw [World.size_alloc] at this; omega, fun k hk hn => (h.block k (by rw [World.size_alloc]; omega) hn).trans (((Below.refl w.heap.size w).alloc (Nat.le_refl _) o).block k hk)⟩
end Go.Proofs.Ytobimpgapfecoab
