/- Texts of this claim, put together: part 20. -/
import Derived.Test.YtfekcckckmhioaaGreatDoorRowOfPack18
import Derived.Test.YtfekcckckmhioaaGreatDoorRowOfPack1
import Derived.Test.YtfekcckckmhioaaGreatDoorRowOfPack5
import Derived.Deep.QuietTactic
import Derived.BigQuiet
import Derived.WalkSmall
import Derived.Lib.QuietBelow
import Derived.Test.YtfekcckckmhioaaGreatDoorRowOfPack19
import Derived.Test.YtfekcckckmhioaaGreatDoorRowOfPack3
/- What the law writes over a list of integers, and looks at again. -/
namespace Go.Proofs.YtfekcckckmhioaaGreatDoor
open Go.RowKit
set_option maxRecDepth 100000

def mkI (k : Int) : Value := .int .i64 (k)

set_option maxHeartbeats 400000 in
theorem markI_pos (g n cap base : Nat) (k0 : Int) (xs : List Value) (w : World) (hn : n ≤ 140737488351232) (h0 : 0 ≤ k0) (h1 : k0 ≤ 140737488351232)
    (ho : w.ownsRow base 3 1 (.slice (some ⟨g, 0, none⟩) n cap) n xs) :
    Calls Tryz.prog 38 #[.slice (some ⟨g, 0, none⟩) n cap, .int .i64 k0] w fun e w' => e = .returned (.int .i64 (k0 + n)) ∧ (∃ ys, w'.ownsRow base 3 1 (.slice (some ⟨g, 0, none⟩) n cap) n ys ∧ ∀ j, j < n → ys[j]? = some (mkI (k0 + j))) ∧ w.grownBy w' (some g) := by
  go_enter Tryz.func38, Tryz.ntmps38
  go_wp2
  go_loopw [1, 5] (fun kk i wr => ∃ (k : Nat) (ys : List Value), i = .int .i64 k ∧ kk = .int .i64 (k0 + k) ∧ k ≤ n ∧ wr.ownsRow base 3 1 (.slice (some ⟨g, 0, none⟩) n cap) n ys ∧ (∀ j, j < k → ys[j]? = some (mkI (k0 + j))) ∧ w.grownBy wr (some g)) (fun _ i _ => n - (intOf i).toNat)
  case atStart => exact ⟨0, xs, rfl, by simp, by omega, ho, by omega, World.grownBy.refl _ _⟩
  case round =>
    obtain ⟨k, ys, rfl, rfl, hk, hown, hys, hgr⟩ := hrel
    by_cases hlt : k < n
    · have hlen : ys.length = n := by have := hown.1; omega
      have hc : wr.cell? ⟨g, k, none⟩ = some (ys[k]'(by omega)) := by rw [hown.cellAt k (by omega)]; exact List.getElem?_eq_getElem _
      have hf : wr.frozen? ⟨g, k, none⟩ = false := hown.frozenAt k
      go_wp2
      go_roundw
      case rel =>
        have hs := hown.stored k (mkI (k0 + k))
        refine ⟨k + 1, _, by go_num, by go_num, by omega, hs.1, ?_, grownBy_trans hgr hs.2⟩
        intro j hj
        rw [List.getElem?_set]
        by_cases e : k = j
        · subst e; rw [if_pos rfl, if_pos (by omega)]
        · rw [if_neg e]; exact hys j (by omega)
      case measure => simp [intOf]; omega
    · go_wp2
      go_ret
      exact ⟨ret_int (by omega), ⟨ys, hown, fun j hj => hys j (by omega)⟩, hgr⟩

set_option maxHeartbeats 400000 in
theorem heldI_pos (g n cap base : Nat) (k0 : Int) (ys : List Value) (w : World) (hn : n ≤ 140737488351232) (h0 : 0 ≤ k0) (h1 : k0 ≤ 140737488351232)
    (ho : w.ownsRow base 3 1 (.slice (some ⟨g, 0, none⟩) n cap) n ys) (hys : ∀ j, j < n → ys[j]? = some (mkI (k0 + j))) :
    Calls Tryz.prog 39 #[.slice (some ⟨g, 0, none⟩) n cap, .int .i64 k0] w fun e w' => e = .returned (.int .i64 (k0 + n)) ∧ w' = w := by
  go_enter Tryz.func39, Tryz.ntmps39
  go_wp2
  go_loop [1, 5] (fun kk i => ∃ k : Nat, i = .int .i64 k ∧ kk = .int .i64 (k0 + k) ∧ k ≤ n) (fun _ i => n - (intOf i).toNat)
  case atStart => exact ⟨0, rfl, by simp, by omega⟩
  case round =>
    obtain ⟨k, rfl, rfl, hk⟩ := hrel
    by_cases hlt : k < n
    · have hc : w.cell? ⟨g, k, none⟩ = some (.int .i64 ((k0 + k))) := by rw [ho.cellAt k (by omega)]; exact hys k hlt
      clear hys
      go_wp2
      go_round
      case rel => exact ⟨k + 1, by go_num, by go_num, by omega⟩
      case measure => simp [intOf]; omega
    · go_wp2
      go_ret
      exact ⟨ret_int (by omega), rfl⟩

theorem markI_zero (k0 : Int) (w : World) : Calls Tryz.prog 38 #[.slice none 0 0, .int .i64 k0] w fun e w' => e = .returned (.int .i64 k0) ∧ w' = w := by
  go_enter Tryz.func38, Tryz.ntmps38
  go_wp2
  refine wp_loop_rounds 1 ?_
  rw [rounds_succ]
  go_wp2
  go_ret
  exact ⟨rfl, rfl⟩

theorem heldI_zero (k0 : Int) (w : World) : Calls Tryz.prog 39 #[.slice none 0 0, .int .i64 k0] w fun e w' => e = .returned (.int .i64 k0) ∧ w' = w := by
  go_enter Tryz.func39, Tryz.ntmps39
  go_wp2
  refine wp_loop_rounds 1 ?_
  rw [rounds_succ]
  go_wp2
  go_ret
  exact ⟨rfl, rfl⟩

theorem markI_any (n base : Nat) (v : Value) (k0 : Int) (xs : List Value) (w : World) (hn : n ≤ 140737488351232) (h0 : 0 ≤ k0) (h1 : k0 ≤ 140737488351232) (ho : w.ownsRow base 3 1 v n xs) :
    Calls Tryz.prog 38 #[v, .int .i64 k0] w fun e w' => e = .returned (.int .i64 (k0 + n)) ∧ (∃ ys, w'.ownsRow base 3 1 v n ys ∧ ∀ j, j < n → ys[j]? = some (mkI (k0 + j))) ∧ w.grownBy w' v.ownBlock := by
  rcases ho.2 with ⟨rfl, rfl⟩ | ⟨g, cap, cur, rfl, _⟩
  · refine (markI_zero k0 w).mono fun e w' ⟨he, hw⟩ => ?_
    subst he hw
    exact ⟨ret_int (by omega), ⟨xs, ho, by omega⟩, World.grownBy.refl _ _⟩
  · exact markI_pos g n cap base k0 xs w hn h0 h1 ho

theorem heldI_any (n base : Nat) (v : Value) (k0 : Int) (ys : List Value) (w : World) (hn : n ≤ 140737488351232) (h0 : 0 ≤ k0) (h1 : k0 ≤ 140737488351232) (ho : w.ownsRow base 3 1 v n ys) (hys : ∀ j, j < n → ys[j]? = some (mkI (k0 + j))) :
    Calls Tryz.prog 39 #[v, .int .i64 k0] w fun e w' => e = .returned (.int .i64 (k0 + n)) ∧ w' = w := by
  rcases ho.2 with ⟨rfl, rfl⟩ | ⟨g, cap, cur, rfl, _⟩
  · refine (heldI_zero k0 w).mono fun e w' ⟨he, hw⟩ => ?_
    subst he hw
    exact ⟨ret_int (by omega), rfl⟩
  · exact heldI_pos g n cap base k0 ys w hn h0 h1 ho hys
/-- Two rows apart: the one was there ahead of the other's memory; the other way round. -/
theorem apart' {w : World} {v v' : Value} {b b' n n' e e' B : Nat} {xs xs' : List Value} (_h : w.ownsRow b e 1 v n xs) (h' : w.ownsRow b' e' 1 v' n' xs') (hb : ∀ k, v.ownBlock = some k → k < B) (hB : B ≤ b' := by omega) : v.ownBlock = none ∨ v.ownBlock ≠ v'.ownBlock :=
  apart _h h' fun k hk => Nat.lt_of_lt_of_le (hb k hk) hB
theorem apart2 {w : World} {v v' : Value} {b b' n n' e e' B : Nat} {xs xs' : List Value} (h : w.ownsRow b e 1 v n xs) (_h' : w.ownsRow b' e' 1 v' n' xs') (hb : ∀ k, v'.ownBlock = some k → k < B) (hB : B ≤ b := by omega) : v.ownBlock = none ∨ v.ownBlock ≠ v'.ownBlock := by
  cases ev : v.ownBlock with
  | none => exact .inl rfl
  | some k =>
    refine .inr fun e' => ?_
    have h1 := hb k e'.symm
    have h2 := (h.lt k ev).1
    omega
end Go.Proofs.YtfekcckckmhioaaGreatDoor
/- What the laws' own helpers write over a list of texts, and look at again. -/
namespace Go.Proofs.YtfekcckckmhioaaGreatDoor
open Go.RowKit
set_option maxRecDepth 100000

/-- The text that the law writes in the k-th place. -/
def mtxt (k : Nat) : ByteArray := ⟨(109 :: ds k).toArray⟩

set_option maxHeartbeats 800000 in
theorem markText_any (u0 : Nat) (w : World) (h0 : 0 < u0) (h1 : u0 ≤ 9223372036854775807) :
    Calls Tryz.prog 61 #[.int .i64 (u0 : Int)] w fun e w' => e = .returned (.string (mtxt u0)) ∧ Below w.heap.size w w' := by
  have ot := one_text
  have hn0 : decide ((u0 : Int) ≤ 0) = false := by simp; omega
  go_enter Tryz.func61, Tryz.ntmps61
  go_wp2
  go_loopw [0, 3] (fun n v wr => ∃ (u : Nat) (done : List UInt8), n = .int .i64 (u : Int) ∧ u ≤ 9223372036854775807 ∧ v = .string ⟨done.toArray⟩ ∧ done.length ≤ 19 ∧ u < 10 ^ (19 - done.length) ∧ ds u ++ done = ds u0 ∧ Below w.heap.size w wr) (fun n _ _ => (intOf n).toNat)
  case atStart => exact ⟨u0, [], rfl, h1, rfl, by simp, by simp; omega, by simp, Below.refl _ _⟩
  case round =>
    obtain ⟨u, done, rfl, hu, rfl, hlen, hdn, hE, hb⟩ := hrel
    have HE : Hid (ds u ++ done = ds u0) := hE
    have HD : Hid (u < 10 ^ (19 - done.length)) := hdn
    clear hE hdn
    by_cases hz : 0 < u
    · go_wp2
      go_roundw
      case rel =>
        obtain ⟨p1, p2⟩ := pow_step u done.length hz HD.out
        refine ⟨u / 10, UInt8.ofNat (48 + u % 10) :: done, by go_num, by omega, ?_, by simp; omega, by simpa using p2, ?_, ?_⟩
        · exact cat1 _ _ _ (by first | (simp; done) | (congr 1; omega))
        · rw [← HE.out, ds_pos u hz]; simp
        · exact hb.alloc hb.size _
      case measure => simp [intOf]; omega
    · obtain rfl : u = 0 := by omega
      go_wp2
      go_ret
      refine ⟨?_, hb⟩
      have hE := HE.out
      rw [ds_zero, List.nil_append] at hE
      unfold mtxt
      rw [← hE]
      exact congrArg Ending.returned (cat1 109 109 done rfl)

def mkS (k0 : Nat) (j : Nat) : Value := .string (mtxt (k0 + j))

set_option maxHeartbeats 800000 in
theorem markS_any (g n cap base k0 : Nat) (xs : List Value) (w : World) (hn : n ≤ 140737488351232) (h0 : 0 < k0) (h1 : k0 ≤ 140737488351232)
    (ho : w.ownsRow base 9 1 (.slice (some ⟨g, 0, none⟩) n cap) n xs) :
    Calls Tryz.prog 37 #[.slice (some ⟨g, 0, none⟩) n cap, .int .i64 (k0 : Int)] w fun e w' => e = .returned (.int .i64 ((k0 : Int) + n)) ∧ (∃ ys, w'.ownsRow base 9 1 (.slice (some ⟨g, 0, none⟩) n cap) n ys ∧ ∀ j, j < n → ys[j]? = some (mkS k0 j)) ∧ w.grownBy w' (some g) := by
  go_enter Tryz.func37, Tryz.ntmps37
  go_wp2
  go_loopw [1, 5] (fun kk i wr => ∃ (k : Nat) (ys : List Value), i = .int .i64 k ∧ kk = .int .i64 ((k0 : Int) + k) ∧ k ≤ n ∧ wr.ownsRow base 9 1 (.slice (some ⟨g, 0, none⟩) n cap) n ys ∧ (∀ j, j < k → ys[j]? = some (mkS k0 j)) ∧ w.grownBy wr (some g)) (fun _ i _ => n - (intOf i).toNat)
  case atStart => exact ⟨0, xs, rfl, by simp, by omega, ho, by omega, World.grownBy.refl _ _⟩
  case round =>
    obtain ⟨k, ys, rfl, rfl, hk, hown, hys, hgr⟩ := hrel
    by_cases hlt : k < n
    · go_wp2_with fail
      rw [show (k0 : Int) + (k : Int) = ((k0 + k : Nat) : Int) by omega]
      refine (markText_any (k0 + k) wr (by omega) (by omega)).mono ?_
      rintro e w1 ⟨rfl, hb1⟩
      have hown := own_below hown hb1
      have hlen : ys.length = n := by have := hown.1; omega
      have hc : w1.cell? ⟨g, k, none⟩ = some (ys[k]'(by omega)) := by rw [hown.cellAt k (by omega)]; exact List.getElem?_eq_getElem _
      have hf : w1.frozen? ⟨g, k, none⟩ = false := hown.frozenAt k
      have hgr1 : w.grownBy w1 (some g) := ⟨hb1.os.trans hgr.os, hb1.tape.trans hgr.tape, hb1.output.trans hgr.output, Nat.le_trans hgr.size hb1.size, fun j hj hr => (hb1.block j (Nat.lt_of_lt_of_le hj hgr.size)).trans (hgr.block j hj hr)⟩
      have hs := hown.stored k (mkS k0 k)
      have HS : Hid ((w1.setCell ⟨g, k, none⟩ (mkS k0 k)).ownsRow base 9 1 (.slice (some ⟨g, 0, none⟩) n cap) n (ys.set k (mkS k0 k)) ∧ w.grownBy (w1.setCell ⟨g, k, none⟩ (mkS k0 k)) (some g)) := ⟨hs.1, grownBy_trans hgr1 hs.2⟩
      clear hs hgr hgr1 hown hb1
      go_wp2
      go_roundw
      case rel =>
        refine ⟨k + 1, _, by go_num, by go_num, by omega, HS.out.1, ?_, HS.out.2⟩
        intro j hj
        rw [List.getElem?_set]
        by_cases e : k = j
        · subst e; rw [if_pos rfl, if_pos (by omega)]
        · rw [if_neg e]; exact hys j (by omega)
      case measure => simp [intOf]; omega
    · go_wp2
      go_ret
      exact ⟨ret_int (by omega), ⟨ys, hown, fun j hj => hys j (by omega)⟩, hgr⟩

theorem markS_zero (k0 : Int) (w : World) : Calls Tryz.prog 37 #[.slice none 0 0, .int .i64 k0] w fun e w' => e = .returned (.int .i64 k0) ∧ w' = w := by
  go_enter Tryz.func37, Tryz.ntmps37
  go_wp2
  refine wp_loop_rounds 1 ?_
  rw [rounds_succ]
  go_wp2
  go_ret
  exact ⟨rfl, rfl⟩
theorem markS_all (n base k0 : Nat) (v : Value) (xs : List Value) (w : World) (hn : n ≤ 140737488351232) (h0 : 0 < k0) (h1 : k0 ≤ 140737488351232) (ho : w.ownsRow base 9 1 v n xs) :
    Calls Tryz.prog 37 #[v, .int .i64 (k0 : Int)] w fun e w' => e = .returned (.int .i64 ((k0 : Int) + n)) ∧ (∃ ys, w'.ownsRow base 9 1 v n ys ∧ ∀ j, j < n → ys[j]? = some (mkS k0 j)) ∧ w.grownBy w' v.ownBlock := by
  rcases id ho.2 with ⟨rfl, rfl⟩ | ⟨g, cap, cur, rfl, _⟩
  · refine (markS_zero k0 w).mono fun e w' ⟨he, hw⟩ => ?_
    subst he hw
    exact ⟨ret_int (by simp), ⟨xs, ho, by omega⟩, World.grownBy.refl _ _⟩
  · exact markS_any g n cap base k0 xs w hn h0 h1 ho
end Go.Proofs.YtfekcckckmhioaaGreatDoor
/- What the laws' own helpers write over the lists of an attribute, and look at again. -/
namespace Go.Proofs.YtfekcckckmhioaaGreatDoor
open Go.RowKit
set_option maxRecDepth 100000

/-- An attribute whose lists bear the law's marks from k0 on. -/
def MarkA (base : Nat) (w : World) (vc vv : Value) (p q k0 : Nat) : Prop :=
  (∃ ys, w.ownsRow base 3 1 vc p ys ∧ ∀ j, j < p → ys[j]? = some (mkI ((k0 : Int) + j))) ∧ ∃ zs, w.ownsRow base 9 1 vv q zs ∧ ∀ j, j < q → zs[j]? = some (mkS (k0 + p) j)
theorem MarkA.below {base : Nat} {w w' : World} {vc vv : Value} {p q k0 : Nat} (h : MarkA base w vc vv p q k0) (hb : Below w.heap.size w w') : MarkA base w' vc vv p q k0 := by
  obtain ⟨⟨ys, h1, h2⟩, zs, h3, h4⟩ := h
  exact ⟨⟨ys, own_below h1 hb, h2⟩, zs, own_below h3 hb, h4⟩
/-- Nothing of the old memory has turned but two rows. -/
structure Grown2 (w w' : World) (r q : Option Nat) : Prop where
  os : w'.os = w.os
  tape : w'.tape = w.tape
  output : w'.output = w.output
  size : w.heap.size ≤ w'.heap.size
  block : ∀ k, k < w.heap.size → some k ≠ r → some k ≠ q → w'.heap[k]? = w.heap[k]?
theorem Grown2.below {n : Nat} {w0 w w' : World} {r q : Option Nat} (h : Grown2 w w' r q) (hb : Below n w0 w) (hn : n ≤ w.heap.size) (hr : ∀ k, r = some k → n ≤ k) (hq : ∀ k, q = some k → n ≤ k) : Below n w0 w' :=
  ⟨h.os.trans hb.os, h.tape.trans hb.tape, h.output.trans hb.output, Nat.le_trans hb.size h.size, fun k hk => (h.block k (by omega) (fun e => by have := hr k e.symm; omega) (fun e => by have := hq k e.symm; omega)).trans (hb.block k hk)⟩
theorem Grown2.blk {t : TypeId} {w w' : World} {r q : Option Nat} {g : Nat} {cs : Array Value} (h : Grown2 w w' r q) (hb : Blk t w g cs) (hr : r ≠ some g) (hq : q ≠ some g) : Blk t w' g cs := by
  have hl := hb.lt
  unfold Blk at hb ⊢
  rw [h.block g hl (fun e => hr e.symm) (fun e => hq e.symm)]; exact hb
def Apart (vc vv : Value) : Prop := vc.ownBlock = none ∨ vc.ownBlock ≠ vv.ownBlock
end Go.Proofs.YtfekcckckmhioaaGreatDoor
/- What the laws' own helpers write over a list of attributes, and look at again. -/
namespace Go.Proofs.YtfekcckckmhioaaGreatDoor
open Go.RowKit
set_option maxRecDepth 100000

/-- Rows of other elements lie in other blocks. -/
theorem apart_ty {w : World} {v v' : Value} {b b' e e' s s' n n' : Nat} {xs xs' : List Value} (h : w.ownsRow b e s v n xs) (h' : w.ownsRow b' e' s' v' n' xs') (he : e ≠ e') : v.ownBlock = none ∨ v.ownBlock ≠ v'.ownBlock := by
  rcases h.2 with ⟨rfl, _⟩ | ⟨g, cap, cur, rfl, _, hc, _⟩
  · exact .inl rfl
  · refine .inr fun eq => ?_
    rcases h'.2 with ⟨rfl, _⟩ | ⟨g', cap', cur', rfl, _, hc', _⟩
    · cases eq
    · injection eq with eq
      simp only at eq
      subst eq
      rw [hc] at hc'
      injection hc' with hc'
      injection hc' with _ h2 _
      exact he h2
theorem grown_of_below {w w' : World} (h : Below w.heap.size w w') : w.grownBy w' none := ⟨h.os, h.tape, h.output, h.size, fun k hk _ => h.block k hk⟩
/-- Nothing of the old memory has turned but blocks of a set. -/
structure GrownS (w w' : World) (R : Nat → Prop) : Prop where
  os : w'.os = w.os
  tape : w'.tape = w.tape
  output : w'.output = w.output
  size : w.heap.size ≤ w'.heap.size
  block : ∀ k, k < w.heap.size → ¬ R k → w'.heap[k]? = w.heap[k]?
theorem GrownS.refl (w : World) (R : Nat → Prop) : GrownS w w R := ⟨rfl, rfl, rfl, Nat.le_refl _, fun _ _ _ => rfl⟩
theorem GrownS.grown {w w' w'' : World} {R : Nat → Prop} {r : Option Nat} (h : GrownS w w' R) (k : w'.grownBy w'' r) (hr : ∀ j, r = some j → R j ∨ w.heap.size ≤ j) : GrownS w w'' R :=
  ⟨k.os.trans h.os, k.tape.trans h.tape, k.output.trans h.output, Nat.le_trans h.size k.size, fun j hj hR => (k.block j (Nat.lt_of_lt_of_le hj h.size) (fun e => by
    rcases hr j e.symm with h1 | h1
    · exact hR h1
    · omega)).trans (h.block j hj hR)⟩
theorem GrownS.below {n : Nat} {w0 w w' : World} {R : Nat → Prop} (h : GrownS w w' R) (hb : Below n w0 w) (hn : n ≤ w.heap.size) (hr : ∀ k, R k → n ≤ k) : Below n w0 w' :=
  ⟨h.os.trans hb.os, h.tape.trans hb.tape, h.output.trans hb.output, Nat.le_trans hb.size h.size, fun k hk => (h.block k (by omega) (fun e => by have := hr k e; omega)).trans (hb.block k hk)⟩
theorem GrownS.blk {t : TypeId} {w w' : World} {R : Nat → Prop} {g : Nat} {cs : Array Value} (h : GrownS w w' R) (hb : Blk t w g cs) (hr : ¬ R g) : Blk t w' g cs := by
  have hl := hb.lt
  unfold Blk at hb ⊢
  rw [h.block g hl hr]; exact hb

/-- Where the marks of the j-th attribute begin. -/
def mkK (k0 : Nat) (p q : Nat → Nat) : Nat → Nat
  | 0 => k0
  | j + 1 => mkK k0 p q j + 1 + p j + q j
theorem mkK_mono {k0 : Nat} {p q : Nat → Nat} {i j : Nat} (h : i ≤ j) : mkK k0 p q i ≤ mkK k0 p q j := by
  induction j with
  | zero => obtain rfl : i = 0 := by omega
            exact Nat.le_refl _
  | succ j ih =>
    by_cases e : i = j + 1
    · rw [e]; exact Nat.le_refl _
    · have := ih (by omega); simp only [mkK]; omega
theorem mkK_pos {k0 : Nat} {p q : Nat → Nat} (h : 0 < k0) (j : Nat) : 0 < mkK k0 p q j := by have := mkK_mono (k0 := k0) (p := p) (q := q) (Nat.zero_le j); simp only [mkK] at this; omega

/-- The lists of the attributes, the first i1 of numbers and the first i2 of texts marked. -/
structure Rows2 (base : Nat) (w : World) (L : Nat → Value × Value) (p q K : Nat → Nat) (n i1 i2 : Nat) : Prop where
  ints : ∀ j, j < n → ∃ xs, w.ownsRow base 3 1 (L j).1 (p j) xs ∧ (j < i1 → ∀ t, t < p j → xs[t]? = some (mkI (((K j + 1 : Nat) : Int) + t)))
  strs : ∀ j, j < n → ∃ zs, w.ownsRow base 9 1 (L j).2 (q j) zs ∧ (j < i2 → ∀ t, t < q j → zs[t]? = some (mkS (K j + 1 + p j) t))
theorem Rows2.kept {base : Nat} {w w' : World} {L : Nat → Value × Value} {p q K : Nat → Nat} {n i1 i2 : Nat} {r : Option Nat} (h : Rows2 base w L p q K n i1 i2) (hg : w.grownBy w' r)
    (h1 : ∀ j, j < n → (L j).1.ownBlock = none ∨ (L j).1.ownBlock ≠ r) (h2 : ∀ j, j < n → (L j).2.ownBlock = none ∨ (L j).2.ownBlock ≠ r) : Rows2 base w' L p q K n i1 i2 :=
  ⟨fun j hj => by obtain ⟨xs, a, b⟩ := h.ints j hj; exact ⟨xs, a.kept hg (h1 j hj), b⟩, fun j hj => by obtain ⟨xs, a, b⟩ := h.strs j hj; exact ⟨xs, a.kept hg (h2 j hj), b⟩⟩
theorem Rows2.below {base : Nat} {w w' : World} {L : Nat → Value × Value} {p q K : Nat → Nat} {n i1 i2 : Nat} (h : Rows2 base w L p q K n i1 i2) (hb : Below w.heap.size w w') : Rows2 base w' L p q K n i1 i2 :=
  ⟨fun j hj => by obtain ⟨xs, a, b⟩ := h.ints j hj; exact ⟨xs, own_below a hb, b⟩, fun j hj => by obtain ⟨xs, a, b⟩ := h.strs j hj; exact ⟨xs, own_below a hb, b⟩⟩
/-- Lists of two attributes never share a block. -/
structure Ord (L : Nat → Value × Value) (n : Nat) : Prop where
  ints : ∀ i j, i < n → j < n → i ≠ j → (L i).1.ownBlock = none ∨ (L i).1.ownBlock ≠ (L j).1.ownBlock
  strs : ∀ i j, i < n → j < n → i ≠ j → (L i).2.ownBlock = none ∨ (L i).2.ownBlock ≠ (L j).2.ownBlock
theorem Rows2.mark1 {base : Nat} {w w' : World} {L : Nat → Value × Value} {p q K : Nat → Nat} {n i i2 : Nat} (h : Rows2 base w L p q K n i i2) (hO : Ord L n) (hi : i < n) (hg : w.grownBy w' (L i).1.ownBlock)
    {ys : List Value} (ho : w'.ownsRow base 3 1 (L i).1 (p i) ys) (hys : ∀ t, t < p i → ys[t]? = some (mkI (((K i + 1 : Nat) : Int) + t))) : Rows2 base w' L p q K n (i + 1) i2 := by
  obtain ⟨xi, ai, _⟩ := h.ints i hi
  refine ⟨fun j hj => ?_, fun j hj => ?_⟩
  · by_cases e : j = i
    · subst e; exact ⟨ys, ho, fun _ => hys⟩
    · obtain ⟨xs, a, b⟩ := h.ints j hj
      exact ⟨xs, a.kept hg (hO.ints j i hj hi e), fun hlt => b (by omega)⟩
  · obtain ⟨xs, a, b⟩ := h.strs j hj
    exact ⟨xs, a.kept hg (apart_ty a ai (by decide)), b⟩
theorem Rows2.mark2 {base : Nat} {w w' : World} {L : Nat → Value × Value} {p q K : Nat → Nat} {n i i1 : Nat} (h : Rows2 base w L p q K n i1 i) (hO : Ord L n) (hi : i < n) (hg : w.grownBy w' (L i).2.ownBlock)
    {ys : List Value} (ho : w'.ownsRow base 9 1 (L i).2 (q i) ys) (hys : ∀ t, t < q i → ys[t]? = some (mkS (K i + 1 + p i) t)) : Rows2 base w' L p q K n i1 (i + 1) := by
  obtain ⟨xi, ai, _⟩ := h.strs i hi
  refine ⟨fun j hj => ?_, fun j hj => ?_⟩
  · obtain ⟨xs, a, b⟩ := h.ints j hj
    exact ⟨xs, a.kept hg (apart_ty a ai (by decide)), b⟩
  · by_cases e : j = i
    · subst e; exact ⟨ys, ho, fun _ => hys⟩
    · obtain ⟨xs, a, b⟩ := h.strs j hj
      exact ⟨xs, a.kept hg (hO.strs j i hj hi e), fun hlt => b (by omega)⟩
/-- The row of attributes leads to its lists; the first i names are marked. -/
structure Spine (base : Nat) (w : World) (v : Value) (L : Nat → Value × Value) (K : Nat → Nat) (n i : Nat) (ys : List Value) : Prop where
  row : w.ownsRow base 57 3 v n ys
  two : ∀ j, j < n → ys[j * 3 + 1]? = some (L j).1 ∧ ys[j * 3 + 2]? = some (L j).2
  name : ∀ j, j < i → ys[j * 3]? = some (.string (mtxt (K j)))
theorem Spine.kept {base : Nat} {w w' : World} {v : Value} {L : Nat → Value × Value} {K : Nat → Nat} {n i : Nat} {ys : List Value} {r : Option Nat} (h : Spine base w v L K n i ys) (hg : w.grownBy w' r) (hr : v.ownBlock = none ∨ v.ownBlock ≠ r) : Spine base w' v L K n i ys :=
  ⟨h.row.kept hg hr, h.two, h.name⟩
theorem Spine.below {base : Nat} {w w' : World} {v : Value} {L : Nat → Value × Value} {K : Nat → Nat} {n i : Nat} {ys : List Value} (h : Spine base w v L K n i ys) (hb : Below w.heap.size w w') : Spine base w' v L K n i ys :=
  ⟨own_below h.row hb, h.two, h.name⟩
theorem Spine.store {base : Nat} {w : World} {g cap : Nat} {L : Nat → Value × Value} {K : Nat → Nat} {n i : Nat} {ys : List Value} (h : Spine base w (.slice (some ⟨g, 0, none⟩) n cap) L K n i ys) (hi : i < n) :
    Spine base (w.setCell ⟨g, i * 3, none⟩ (.string (mtxt (K i)))) (.slice (some ⟨g, 0, none⟩) n cap) L K n (i + 1) (ys.set (i * 3) (.string (mtxt (K i)))) := by
  have hl : ys.length = n * 3 := h.row.1
  refine ⟨(h.row.stored _ _).1, fun j hj => ?_, fun j hj => ?_⟩
  · rw [List.getElem?_set_ne (by omega), List.getElem?_set_ne (by omega)]; exact h.two j hj
  · by_cases e : j = i
    · subst e; rw [List.getElem?_set_self (by omega)]
    · rw [List.getElem?_set_ne (by omega)]; exact h.name j (by omega)
/-- The blocks that the marks of a list of attributes may turn. -/
def InL (v : Value) (L : Nat → Value × Value) (n : Nat) (k : Nat) : Prop := v.ownBlock = some k ∨ ∃ j, j < n ∧ ((L j).1.ownBlock = some k ∨ (L j).2.ownBlock = some k)

set_option maxHeartbeats 1600000 in
theorem markAttrS_pos (g cap n base k0 : Nat) (L : Nat → Value × Value) (p q : Nat → Nat) (ys : List Value) (w : World) (hS : Spine base w (.slice (some ⟨g, 0, none⟩) n cap) L (mkK k0 p q) n 0 ys) (hR : Rows2 base w L p q (mkK k0 p q) n 0 0) (hO : Ord L n)
    (hn : n ≤ 1048576) (h0 : 0 < k0) (hK : mkK k0 p q n ≤ 35184372088832) (hform : ∀ j, j < n → (∃ a l c, (L j).1 = .slice a l c) ∧ ∃ a l c, (L j).2 = .slice a l c) :
    Calls Tryz.prog 36 #[.slice (some ⟨g, 0, none⟩) n cap, .int .i64 (k0 : Int)] w fun e w' => e = .returned (.int .i64 ((mkK k0 p q n : Nat) : Int)) ∧ (∃ ys, Spine base w' (.slice (some ⟨g, 0, none⟩) n cap) L (mkK k0 p q) n n ys) ∧ Rows2 base w' L p q (mkK k0 p q) n n n ∧ GrownS w w' (InL (.slice (some ⟨g, 0, none⟩) n cap) L n) := by
  have HO : Hid (Ord L n) := hO
  have HF : Hid (∀ j, j < n → (∃ a l c, (L j).1 = .slice a l c) ∧ ∃ a l c, (L j).2 = .slice a l c) := hform
  have HP : Hid (∀ j, 0 < mkK k0 p q j) := mkK_pos h0
  have HM : Hid (∀ i, i < n → mkK k0 p q i + 1 + p i + q i ≤ 35184372088832) := fun i hi => by
    have := mkK_mono (k0 := k0) (p := p) (q := q) (i := i + 1) (j := n) (by omega)
    simp only [mkK] at this; omega
  have HS0 : Hid (∃ ys, Spine base w (.slice (some ⟨g, 0, none⟩) n cap) L (mkK k0 p q) n 0 ys) := ⟨ys, hS⟩
  have HR0 : Hid (Rows2 base w L p q (mkK k0 p q) n 0 0) := hR
  clear hO hform h0 hK hS hR
  go_enter Tryz.func36, Tryz.ntmps36
  go_wp2
  go_loopw [1, 5] (fun kk i wr => ∃ (k : Nat) (ys : List Value), i = .int .i64 k ∧ kk = .int .i64 ((mkK k0 p q k : Nat) : Int) ∧ k ≤ n ∧ Spine base wr (.slice (some ⟨g, 0, none⟩) n cap) L (mkK k0 p q) n k ys ∧ Rows2 base wr L p q (mkK k0 p q) n k k ∧ GrownS w wr (InL (.slice (some ⟨g, 0, none⟩) n cap) L n)) (fun _ i _ => n - (intOf i).toNat)
  case atStart =>
    obtain ⟨ys, h⟩ := HS0.out
    exact ⟨0, ys, rfl, rfl, by omega, h, HR0.out, GrownS.refl _ _⟩
  case round =>
    obtain ⟨k, ys, rfl, rfl, hk, hsp, hrw, hgr⟩ := hrel
    have HSP : Hid (Spine base wr (.slice (some ⟨g, 0, none⟩) n cap) L (mkK k0 p q) n k ys) := hsp
    have HRW : Hid (Rows2 base wr L p q (mkK k0 p q) n k k) := hrw
    have HGR : Hid (GrownS w wr (InL (.slice (some ⟨g, 0, none⟩) n cap) L n)) := hgr
    clear hsp hrw hgr
    by_cases hlt : k < n
    rotate_left
    · obtain rfl : k = n := by omega
      go_wp2
      go_ret
      exact ⟨rfl, ⟨ys, HSP.out⟩, HRW.out, HGR.out⟩
    have hM := HM.out k hlt
    have hP := HP.out k
    have HKS : Hid (mkK k0 p q (k + 1) = mkK k0 p q k + 1 + p k + q k) := rfl
    have cT := markText_any (mkK k0 p q k) wr hP (by omega)
    go_wp2_with fail
    refine cT.mono ?_
    rintro e w1 ⟨rfl, hb1⟩
    clear cT
    have S1 := HSP.out.below hb1
    have R1 := HRW.out.below hb1
    have G1 := HGR.out.grown (grown_of_below hb1) (fun j hj => by cases hj)
    have hl : ys.length = n * 3 := S1.row.1
    obtain ⟨u0, hc0⟩ : ∃ u, w1.cell? ⟨g, k * 3, none⟩ = some u := ⟨ys[k * 3]'(by omega), by rw [S1.row.cellAt (k * 3) (by omega)]; exact List.getElem?_eq_getElem _⟩
    have hf0 : w1.frozen? ⟨g, k * 3, none⟩ = false := S1.row.frozenAt _
    have gst := (S1.row.stored (k * 3) (.string (mtxt (mkK k0 p q k)))).2
    have S2 := S1.store hlt
    have R2 : Rows2 base (w1.setCell ⟨g, k * 3, none⟩ (.string (mtxt (mkK k0 p q k)))) L p q (mkK k0 p q) n k k := R1.kept gst
      (fun j hj => by obtain ⟨xs, a, _⟩ := R1.ints j hj; exact apart_ty a S1.row (by decide)) (fun j hj => by obtain ⟨xs, a, _⟩ := R1.strs j hj; exact apart_ty a S1.row (by decide))
    have G2 := G1.grown gst (fun j hj => .inl (.inl hj))
    obtain ⟨⟨a1, l1, b1, e1⟩, a2, l2, b2, e2⟩ := HF.out k hlt
    obtain ⟨t1, t2⟩ := S2.two k hlt
    have q1 : (w1.setCell ⟨g, k * 3, none⟩ (.string (mtxt (mkK k0 p q k)))).cell? ⟨g, k * 3 + 1, none⟩ = some (L k).1 := by rw [S2.row.cellAt _ (by omega)]; exact t1
    obtain ⟨x1, o1, _⟩ := R2.ints k hlt
    have cI := markI_any (p k) base (L k).1 ((mkK k0 p q k : Int) + 1) x1 _ (by omega) (by omega) (by omega) o1
    have HX : Hid (Spine base (w1.setCell ⟨g, k * 3, none⟩ (.string (mtxt (mkK k0 p q k)))) (.slice (some ⟨g, 0, none⟩) n cap) L (mkK k0 p q) n (k + 1) (ys.set (k * 3) (.string (mtxt (mkK k0 p q k)))) ∧ Rows2 base (w1.setCell ⟨g, k * 3, none⟩ (.string (mtxt (mkK k0 p q k)))) L p q (mkK k0 p q) n k k ∧ GrownS w (w1.setCell ⟨g, k * 3, none⟩ (.string (mtxt (mkK k0 p q k)))) (InL (.slice (some ⟨g, 0, none⟩) n cap) L n)) := ⟨S2, R2, G2⟩
    have HT : Hid ((ys.set (k * 3) (.string (mtxt (mkK k0 p q k))))[k * 3 + 2]? = some (L k).2) := t2
    clear S1 R1 G1 S2 R2 G2 gst t1 t2 o1 hb1 HSP HRW HGR
    rw [e1] at q1 cI
    go_wp2_with fail
    refine cI.mono ?_
    rintro e w2 ⟨rfl, ⟨y1, oy, hy⟩, hg2⟩
    clear cI q1 hc0 hf0
    rw [← e1] at oy hg2
    obtain ⟨S2, R2, G2⟩ := HX.out
    obtain ⟨x1', o1', _⟩ := R2.ints k hlt
    have R3 := R2.mark1 HO.out hlt hg2 oy (fun t ht => by rw [hy t ht]; congr 2)
    have S3 := S2.kept hg2 (apart_ty S2.row o1' (by decide))
    have G3 := G2.grown hg2 (fun j hj => .inl (.inr ⟨k, hlt, .inl hj⟩))
    have q2 : w2.cell? ⟨g, k * 3 + 2, none⟩ = some (L k).2 := by rw [S3.row.cellAt _ (by omega)]; exact HT.out
    obtain ⟨x2, o2, _⟩ := R3.strs k hlt
    have cS := markS_all (q k) base (mkK k0 p q k + 1 + p k) (L k).2 x2 w2 (by omega) (by omega) (by omega) o2
    rw [show ((mkK k0 p q k + 1 + p k : Nat) : Int) = (mkK k0 p q k : Int) + 1 + (p k : Int) by omega] at cS
    have HX3 : Hid (Spine base w2 (.slice (some ⟨g, 0, none⟩) n cap) L (mkK k0 p q) n (k + 1) (ys.set (k * 3) (.string (mtxt (mkK k0 p q k)))) ∧ Rows2 base w2 L p q (mkK k0 p q) n (k + 1) k ∧ GrownS w w2 (InL (.slice (some ⟨g, 0, none⟩) n cap) L n)) := ⟨S3, R3, G3⟩
    clear S2 R2 G2 S3 R3 G3 hg2 oy hy o1' o2 HX
    rw [e2] at q2 cS
    go_wp2_with fail
    refine cS.mono ?_
    rintro e w3 ⟨rfl, ⟨y2, oy, hy⟩, hg3⟩
    clear cS q2
    rw [← e2] at oy hg3
    obtain ⟨S3, R3, G3⟩ := HX3.out
    obtain ⟨x2', o2', _⟩ := R3.strs k hlt
    have R4 := R3.mark2 HO.out hlt hg3 oy hy
    have S4 := S3.kept hg3 (apart_ty S3.row o2' (by decide))
    have G4 := G3.grown hg3 (fun j hj => .inl (.inr ⟨k, hlt, .inr hj⟩))
    have HX4 : Hid (Spine base w3 (.slice (some ⟨g, 0, none⟩) n cap) L (mkK k0 p q) n (k + 1) (ys.set (k * 3) (.string (mtxt (mkK k0 p q k)))) ∧ Rows2 base w3 L p q (mkK k0 p q) n (k + 1) (k + 1) ∧ GrownS w w3 (InL (.slice (some ⟨g, 0, none⟩) n cap) L n)) := ⟨S4, R4, G4⟩
    clear S3 R3 G3 S4 R4 G4 hg3 oy hy o2' HX3
    go_wp2
    go_roundw
    case rel => exact ⟨k + 1, _, by go_num, by rw [HKS.out]; congr 1, by omega, HX4.out.1, HX4.out.2.1, HX4.out.2.2⟩
    case measure => simp [intOf]; omega

theorem markAttrS_zero (k0 : Int) (w : World) : Calls Tryz.prog 36 #[.slice none 0 0, .int .i64 k0] w fun e w' => e = .returned (.int .i64 k0) ∧ w' = w := by
  go_enter Tryz.func36, Tryz.ntmps36
  go_wp2
  refine wp_loop_rounds 1 ?_
  rw [rounds_succ]
  go_wp2
  go_ret
  exact ⟨rfl, rfl⟩
end Go.Proofs.YtfekcckckmhioaaGreatDoor
