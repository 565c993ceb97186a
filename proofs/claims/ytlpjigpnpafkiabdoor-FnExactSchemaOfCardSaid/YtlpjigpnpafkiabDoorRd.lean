/- A text read as an attribute, by the program. -/
import Derived.Test.YtlpjigpnpafkiabDoorRc
import Derived.Test.YtlpjigpnpafkiabDoorVa
namespace Go.Proofs.YtlpjigpnpafkiabDoor
open Go.RowKit
set_option maxRecDepth 100000

def emptyA : AttrD := ⟨⟨#[]⟩, [], []⟩
theorem ext_le {s : ByteArray} (a b : Nat) : (s.extract a b).size ≤ s.size := by rw [ByteArray.size_extract]; omega
theorem okS_pieces {s : ByteArray} (hs : s.size ≤ 1048576) (b : UInt8) : okS (pieces b s) :=
  ⟨by have := pieces_len b s; omega, fun p hp => by have := pieces_small b s p hp; omega⟩
theorem okA_read {s : ByteArray} (hs : s.size ≤ 1048576) : okA (attrReadI s).1 := by
  have hnil : okS [] := ⟨by simp, fun _ h => by cases h⟩
  unfold attrReadI
  cases s.data.toList.findIdx? isSign with
  | none => exact ⟨Nat.zero_le _, by simp, hnil⟩
  | some k =>
    have h1 : (s.extract 0 k).size ≤ 1099511627776 := by have := ext_le (s := s) 0 k; omega
    have h2 : (s.extract (k + 1) s.size).size ≤ 1048576 := by have := ext_le (s := s) (k + 1) s.size; omega
    simp only [readI]
    split
    · exact ⟨h1, by simp, okS_pieces h2 44⟩
    · cases hn : numsOf (pieces 44 (s.extract (k + 1) s.size)) with
      | none => exact ⟨h1, by simp, hnil⟩
      | some zs =>
        refine ⟨h1, ?_, hnil⟩
        have := nums_len hn
        have := pieces_len 44 (s.extract (k + 1) s.size)
        simp only
        omega
theorem ofI_no1 {s : ByteArray} (h : (attrReadI s).2 = false) : attrOfI s = none := by unfold attrOfI; rw [if_neg (by rw [h]; simp)]
theorem ofI_no2 {s : ByteArray} (h : attrOk (attrReadI s).1 = false) : attrOfI s = none := by unfold attrOfI; rw [if_neg (by rw [h]; simp)]
theorem ofI_yes {s : ByteArray} (h : (attrReadI s).2 = true) (h2 : attrOk (attrReadI s).1 = true) : attrOfI s = some (attrReadI s).1 := by unfold attrOfI; rw [if_pos ⟨h, h2⟩]
theorem own_empty (w : World) (b : Nat) : OwnA b w (.agg #[.string ⟨#[]⟩, .slice none 0 0, .slice none 0 0]) emptyA := ⟨_, _, rfl, own_nilI _ _, own_nilS _ _⟩
theorem OwnA.below {b : Nat} {w w' : World} {v : Value} {a : AttrD} (h : OwnA b w v a) (hb : Below w.heap.size w w') : OwnA b w' v a := by
  obtain ⟨vc, vv, rfl, h1, h2⟩ := h
  exact ⟨vc, vv, rfl, own_below h1 hb, own_below h2 hb⟩
theorem OwnA.setRow {b : Nat} {w : World} {v : Value} {a : AttrD} (h : OwnA b w v a) (k : Nat) (c : Array Value) (hk : k < b) : OwnA b (w.setRow k c) v a := by
  obtain ⟨vc, vv, rfl, h1, h2⟩ := h
  exact ⟨vc, vv, rfl, own_setRow h1 k c hk, own_setRow h2 k c hk⟩
theorem OwnA.base {b b' : Nat} {w : World} {v : Value} {a : AttrD} (h : OwnA b w v a) (hb : b' ≤ b) : OwnA b' w v a := by
  obtain ⟨vc, vv, rfl, h1, h2⟩ := h
  exact ⟨vc, vv, rfl, own_base h1 hb, own_base h2 hb⟩

set_option maxHeartbeats 1600000 in
theorem implAttrOf_any (s : ByteArray) (u : TypeId) (ev : Value) (m : Int) (w : World) (hs : s.size ≤ 1048576) (hE : Env u ev m w) :
    Calls Tryd.prog 13 #[.string s] w fun e w' => ∃ v, e = .returned (.tuple #[v, .bool (attrOfI s).isSome]) ∧ OwnA w.heap.size w' v ((attrOfI s).getD emptyA) ∧ OneNil v ∧ Below w.heap.size w w' := by
  obtain ⟨K0, B0⟩ := blk_1 28 w #[.string ⟨#[]⟩, .slice none 0 0, .slice none 0 0]
  have cR := attrRead_any s u ev m _ hs (hE.later B0)
  have hok := okA_read hs
  have HN1 : Hid ((attrReadI s).2 = false → attrOfI s = none) := ofI_no1
  have HN2 : Hid (attrOk (attrReadI s).1 = false → attrOfI s = none) := ofI_no2
  have HY : Hid ((attrReadI s).2 = true → attrOk (attrReadI s).1 = true → attrOfI s = some (attrReadI s).1) := ofI_yes
  generalize attrReadI s = R at cR hok HN1 HN2 HY
  obtain ⟨a, b⟩ := R
  have HO : Hid (okA a) := hok
  simp only at cR
  clear hok hE
  go_enter Tryd.func13, Tryd.ntmps13
  go_wp2_with fail
  refine cR.mono ?_
  rintro e w1 ⟨v1, rfl, ho1, hn1, hb1⟩
  clear cR
  have HNIL : Hid (OneNil v1) := hn1
  clear hn1
  have B1 := B0.trans (hb1.mono B0.size)
  have K1 := K0.below hb1
  have l0 := K0.lt
  have ho1 := ho1.base (b' := w.heap.size + 1) (by omega)
  clear B0 K0 hb1
  have HX : Hid (AttrAt w1 v1 a) := ho1.at
  have HOW : Hid (OwnA (w.heap.size + 1) w1 v1 a) := ho1
  obtain ⟨vc, vv, hv1, h1, h2⟩ := ho1
  obtain ⟨oc, cc, hvc, -, -⟩ := RowI.of_own h1 rfl
  obtain ⟨ov, cv, hvv, -, -⟩ := RowS.of_own h2 rfl
  clear h1 h2
  subst hvc hvv hv1
  obtain ⟨KA, BA⟩ := blk_1 28 w1 #[.string a.name, .slice oc a.cuts.length cc, .slice ov a.vals.length cv]
  have K2 := K1.below BA
  have B2 := B1.trans (BA.mono B1.size)
  cases b with
  | false =>
    have HF : Hid (attrOfI s = none) := HN1.out rfl
    have HB : Hid (Blk 28 (w1.alloc (.cells #[.string a.name, .slice oc a.cuts.length cc, .slice ov a.vals.length cv] 28)) w.heap.size #[.string ⟨#[]⟩, .slice none 0 0, .slice none 0 0]) := K2
    have HB2 : Hid (Below w.heap.size w (w1.alloc (.cells #[.string a.name, .slice oc a.cuts.length cc, .slice ov a.vals.length cv] 28))) := B2
    clear K1 K2 B1 B2 KA BA
    go_wp2_with (with_reducible refine wp_at_store rfl _ _ rfl ?_; refine ⟨_, rfl, _, _, _, _, _, _, _, rfl, _, _, _, HB.out, ?_⟩)
    refine bodyPost_ret (res_at1 Tryd.results13 _ _ _ _ _ _ _ rfl rfl (HB.out.setRow _)) rfl ?_
    rw [HF.out]
    exact ⟨_, rfl, own_empty _ _, ⟨_, _, _, rfl, .inl rfl⟩, below_row HB2.out (Nat.le_refl _) _⟩
  | true =>
    have c := implAttrOk_any _ a _ (HX.out.later BA) HO.out
    cases hw : attrOk a with
    | false =>
      have HF : Hid (attrOfI s = none) := HN2.out hw
      rw [hw] at c
      clear hw K1 B1
      go_wp2_with fail
      refine c.mono ?_
      rintro e w2 ⟨rfl, hb2⟩
      clear c
      have HB : Hid (Blk 28 w2 w.heap.size #[.string ⟨#[]⟩, .slice none 0 0, .slice none 0 0]) := K2.below hb2
      have HB2 : Hid (Below w.heap.size w w2) := B2.trans (hb2.mono B2.size)
      clear K2 B2 KA BA hb2
      go_wp2_with (with_reducible refine wp_at_store rfl _ _ rfl ?_; refine ⟨_, rfl, _, _, _, _, _, _, _, rfl, _, _, _, HB.out, ?_⟩)
      refine bodyPost_ret (res_at1 Tryd.results13 _ _ _ _ _ _ _ rfl rfl (HB.out.setRow _)) rfl ?_
      rw [HF.out]
      exact ⟨_, rfl, own_empty _ _, ⟨_, _, _, rfl, .inl rfl⟩, below_row HB2.out (Nat.le_refl _) _⟩
    | true =>
      have HF : Hid (attrOfI s = some a) := HY.out rfl hw
      rw [hw] at c
      clear hw K1 B1
      go_wp2_with fail
      refine c.mono ?_
      rintro e w2 ⟨rfl, hb2⟩
      clear c
      have HB : Hid (Blk 28 w2 w.heap.size #[.string ⟨#[]⟩, .slice none 0 0, .slice none 0 0]) := K2.below hb2
      have HA : Hid (Blk 28 w2 w1.heap.size #[.string a.name, .slice oc a.cuts.length cc, .slice ov a.vals.length cv]) := KA.below hb2
      have HB2 : Hid (Below w.heap.size w w2) := B2.trans (hb2.mono B2.size)
      have HO2 := (HOW.out.below BA).below hb2
      clear K2 B2 KA BA hb2
      go_wp2_with (first | (with_reducible refine wp_at_load rfl _ rfl ?_; refine ⟨_, rfl, _, _, _, HA.out, ?_⟩) | (with_reducible refine wp_at_store rfl _ _ rfl ?_; refine ⟨_, rfl, _, _, _, _, _, _, _, rfl, _, _, _, HB.out, ?_⟩))
      refine bodyPost_ret (res_at1 Tryd.results13 _ _ _ _ _ _ _ rfl rfl (HB.out.setRow _)) rfl ?_
      rw [HF.out]
      exact ⟨_, rfl, (HO2.setRow _ _ (by omega)).base (by omega), HNIL.out, below_row HB2.out (Nat.le_refl _) _⟩
end Go.Proofs.YtlpjigpnpafkiabDoor
