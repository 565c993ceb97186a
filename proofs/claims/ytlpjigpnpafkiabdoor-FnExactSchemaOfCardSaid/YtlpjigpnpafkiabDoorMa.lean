/- What the laws' own helpers write over the lists of an attribute, and look at again. -/
import Derived.Test.YtlpjigpnpafkiabDoorVt
import Derived.Test.YtlpjigpnpafkiabDoorIm
import Derived.Test.YtlpjigpnpafkiabDoorSem
namespace Go.Proofs.YtlpjigpnpafkiabDoor
open Go.RowKit
set_option maxRecDepth 100000

/-- An attribute whose lists bear the law's marks from k0 on. -/
def MarkA (base : Nat) (w : World) (vc vv : Value) (p q k0 : Nat) : Prop :=
  (∃ ys, w.ownsRow base 3 1 vc p ys ∧ ∀ j, j < p → ys[j]? = some (mkI ((k0 : Int) + j))) ∧ ∃ zs, w.ownsRow base 9 1 vv q zs ∧ ∀ j, j < q → zs[j]? = some (mkS (k0 + p) j)
theorem MarkA.below {base : Nat} {w w' : World} {vc vv : Value} {p q k0 : Nat} (h : MarkA base w vc vv p q k0) (hb : Below w.heap.size w w') : MarkA base w' vc vv p q k0 := by
  obtain ⟨⟨ys, h1, h2⟩, zs, h3, h4⟩ := h
  exact ⟨⟨ys, own_below h1 hb, h2⟩, zs, own_below h3 hb, h4⟩
/-- Nothing of the old memory has turned but two rows. -/
structure Grown2 (w w' : World) (r q : Option Nat) : Prop where
  os : w'.os = w.os
  tape : w'.tape = w.tape
  output : w'.output = w.output
  size : w.heap.size ≤ w'.heap.size
  block : ∀ k, k < w.heap.size → some k ≠ r → some k ≠ q → w'.heap[k]? = w.heap[k]?
theorem Grown2.below {n : Nat} {w0 w w' : World} {r q : Option Nat} (h : Grown2 w w' r q) (hb : Below n w0 w) (hn : n ≤ w.heap.size) (hr : ∀ k, r = some k → n ≤ k) (hq : ∀ k, q = some k → n ≤ k) : Below n w0 w' :=
  ⟨h.os.trans hb.os, h.tape.trans hb.tape, h.output.trans hb.output, Nat.le_trans hb.size h.size, fun k hk => (h.block k (by omega) (fun e => by have := hr k e.symm; omega) (fun e => by have := hq k e.symm; omega)).trans (hb.block k hk)⟩
theorem Grown2.blk {t : TypeId} {w w' : World} {r q : Option Nat} {g : Nat} {cs : Array Value} (h : Grown2 w w' r q) (hb : Blk t w g cs) (hr : r ≠ some g) (hq : q ≠ some g) : Blk t w' g cs := by
  have hl := hb.lt
  unfold Blk at hb ⊢
  rw [h.block g hl (fun e => hr e.symm) (fun e => hq e.symm)]; exact hb
def Apart (vc vv : Value) : Prop := vc.ownBlock = none ∨ vc.ownBlock ≠ vv.ownBlock

set_option maxHeartbeats 400000 in
theorem markAttr_any (nm : ByteArray) (vc vv : Value) (p q k0 base : Nat) (xs zs : List Value) (w : World) (hc : w.ownsRow base 3 1 vc p xs) (hv : w.ownsRow base 9 1 vv q zs) (hap : Apart vc vv) (hp : p ≤ 2097152) (hq : q ≤ 2097152) (h0 : 0 < k0) (h1 : k0 ≤ 1099511627776) :
    Calls Tryd.prog 14 #[.agg #[.string nm, vc, vv], .int .i64 (k0 : Int)] w fun e w' => e = .returned (.int .i64 (((k0 + p + q : Nat) : Int))) ∧ MarkA base w' vc vv p q k0 ∧ Grown2 w w' vc.ownBlock vv.ownBlock := by
  have HA : Hid (Apart vc vv) := hap
  obtain ⟨K, B0⟩ := blk_1 28 w #[.string nm, vc, vv]
  have cI := markI_any p base vc k0 xs _ (by omega) (by omega) (by omega) (own_below hc B0)
  have HV : Hid (w.ownsRow base 9 1 vv q zs) := hv
  have HC : Hid (w.ownsRow base 3 1 vc p xs) := hc
  clear hap hv hc
  go_enter Tryd.func14, Tryd.ntmps14
  go_wp2_with fail
  refine cI.mono ?_
  rintro e w1 ⟨rfl, ⟨ys, ho1, hys⟩, hg1⟩
  clear cI
  have HYS : Hid (∀ j, j < p → ys[j]? = some (mkI ((k0 : Int) + j))) := hys
  have K1 := K.kept hg1 fun e => by have := (HC.out.lt _ e).2; omega
  have HG1 : Hid ((w.alloc (.cells #[.string nm, vc, vv] 28)).grownBy w1 vc.ownBlock) := hg1
  have hv1 : w1.ownsRow base 9 1 vv q zs := (own_below HV.out B0).kept hg1 (by
    rcases HA.out with h | h
    · rw [h]; cases e : vv.ownBlock with
      | none => exact .inl rfl
      | some k => exact .inr (by simp)
    · exact .inr fun e => h e.symm)
  have k2 : w1.cell? ⟨w.heap.size, 2, none⟩ = some vv := K1.cell 2
  have cS := markS_all q base (k0 + p) vv zs w1 (by omega) (by omega) (by omega) hv1
  rw [show ((k0 + p : Nat) : Int) = (k0 : Int) + (p : Int) by omega] at cS
  have HO1 : Hid (w1.ownsRow base 3 1 vc p ys) := ho1
  clear hg1 hys K B0 ho1
  go_wp2_with fail
  refine cS.mono ?_
  rintro e w2 ⟨rfl, ⟨us, ho2, hus⟩, hg2⟩
  clear cS k2 K1
  have HUS : Hid (∀ j, j < q → us[j]? = some (mkS (k0 + p) j)) := hus
  clear hus
  go_wp2
  go_ret
  refine ⟨ret_int (by omega), ⟨⟨ys, HO1.out.kept hg2 HA.out, HYS.out⟩, us, ho2, HUS.out⟩, ?_⟩
  have h1 := HG1.out
  have hz := h1.size
  rw [World.size_alloc] at hz
  exact ⟨hg2.os.trans h1.os, hg2.tape.trans h1.tape, hg2.output.trans h1.output, by have := hg2.size; omega, fun k hk hr hq => (hg2.block k (by omega) hq).trans ((h1.block k (by rw [World.size_alloc]; omega) hr).trans (((Below.refl w.heap.size w).alloc (Nat.le_refl _) _).block k hk))⟩

set_option maxHeartbeats 400000 in
theorem heldAttr_any (nm : ByteArray) (vc vv : Value) (p q k0 base : Nat) (w : World) (h : MarkA base w vc vv p q k0) (hp : p ≤ 2097152) (hq : q ≤ 2097152) (h0 : 0 < k0) (h1 : k0 ≤ 1099511627776) :
    Calls Tryd.prog 15 #[.agg #[.string nm, vc, vv], .int .i64 (k0 : Int)] w fun e w' => e = .returned (.int .i64 (((k0 + p + q : Nat) : Int))) ∧ Below w.heap.size w w' := by
  obtain ⟨⟨ys, h1', h2⟩, zs, h3, h4⟩ := h
  obtain ⟨K, B0⟩ := blk_1 28 w #[.string nm, vc, vv]
  have cI := heldI_any p base vc k0 ys _ (by omega) (by omega) (by omega) (own_below h1' B0) h2
  have HV : Hid (w.ownsRow base 9 1 vv q zs ∧ ∀ j, j < q → zs[j]? = some (mkS (k0 + p) j)) := ⟨h3, h4⟩
  clear h1' h2 h3 h4
  go_enter Tryd.func15, Tryd.ntmps15
  go_wp2_with fail
  refine cI.mono ?_
  rintro e w1 ⟨rfl, rfl⟩
  clear cI
  have cS := heldS_all q base (k0 + p) vv zs _ (by omega) (by omega) (by omega) (own_below HV.out.1 B0) HV.out.2
  rw [show ((k0 + p : Nat) : Int) = (k0 : Int) + (p : Int) by omega] at cS
  have n1 : ¬ (k0 : Int) + (p : Int) < 0 := by omega
  have n2 : ¬ (k0 : Int) + (p : Int) + (q : Int) < 0 := by omega
  go_wp2_with fail
  refine cS.mono ?_
  rintro e w2 ⟨rfl, hb2⟩
  clear cS
  go_wp2
  go_ret
  exact ⟨ret_int (by omega), B0.trans (hb2.mono B0.size)⟩
end Go.Proofs.YtlpjigpnpafkiabDoor
