/- Texts of this claim, put together: part 12. -/
import Derived.Test.YtfekcckckmhioaaDoorCellTextPack11
import Derived.Test.YtfekcckckmhioaaDoorCellTextPack6
import Derived.Test.YtfekcckckmhioaaDoorCellTextPack3
import Derived.Test.YtfekcckckmhioaaDoorCellTextPack10
import Derived.Test.YtfekcckckmhioaaDoorCellTextPack8
import Derived.Test.YtfekcckckmhioaaDoorRows
import Derived.WalkKit
import Derived.ProofKit
import Derived.OpenShut
import Derived.Deep.RegionHeld3
/- The decimal digits of a number, by the specification's own loop. -/
namespace Go.Proofs.YtfekcckckmhioaaDoor
open Go.RowKit
set_option maxRecDepth 100000

set_option maxHeartbeats 800000 in
theorem digits_neg (u0 : Nat) (w : World) (h0 : 0 < u0) (h1 : u0 ≤ 9223372036854775808) :
    Calls Tryd.prog 23 #[.int .i64 (-(u0 : Int))] w fun e w' => e = .returned (.string ⟨(45 :: ds u0).toArray⟩) ∧ Below w.heap.size w w' := by
  have ot := one_text
  have hz0 : (-(u0 : Int) == 0) = false := by simp; omega
  have hn0 : decide (-(u0 : Int) < 0) = true := by simp; omega
  go_enter Tryd.func23, Tryd.ntmps23
  go_wp2
  go_loopw [0, 4, 5] (fun n v _ wr => ∃ (u : Nat) (done : List UInt8), n = .int .i64 (-(u : Int)) ∧ u ≤ 9223372036854775808 ∧ v = .string ⟨done.toArray⟩ ∧ done.length ≤ 19 ∧ u < 10 ^ (19 - done.length) ∧ ds u ++ done = ds u0 ∧ Below w.heap.size w wr) (fun n _ _ _ => (-(intOf n)).toNat)
  case atStart => exact ⟨u0, [], rfl, h1, rfl, by simp, by simp; omega, by simp, Below.refl _ _⟩
  case round =>
    obtain ⟨u, done, rfl, hu, rfl, hlen, hdn, hE, hb⟩ := hrel
    have HE : Hid (ds u ++ done = ds u0) := hE
    have HD : Hid (u < 10 ^ (19 - done.length)) := hdn
    clear hE hdn
    by_cases hz : 0 < u
    · have hm : (-(u : Int)).tmod 10 = -((u % 10 : Nat) : Int) := by rw [Int.neg_tmod, Int.tmod_eq_emod_of_nonneg (by omega)]; omega
      have hq : (-(u : Int)).tdiv 10 = -((u / 10 : Nat) : Int) := by rw [Int.neg_tdiv, Int.tdiv_eq_ediv_of_nonneg (by omega)]; omega
      have hne : (-(u : Int) != 0) = true := by simp; omega
      by_cases hr : 0 < u % 10
      all_goals
        go_wp2
        go_roundw
        case rel =>
          obtain ⟨p1, p2⟩ := pow_step u done.length hz HD.out
          refine ⟨u / 10, UInt8.ofNat (48 + u % 10) :: done, by go_num, by omega, ?_, by simp; omega, by simpa using p2, ?_, ?_⟩
          · exact cat1 _ _ _ (by first | (simp; done) | (congr 1; omega))
          · rw [← HE.out, ds_pos u hz]; simp
          · exact hb.alloc hb.size _
        case measure => simp [intOf]; omega
    · obtain rfl : u = 0 := by omega
      go_wp2
      go_ret
      refine ⟨?_, hb⟩
      have hE := HE.out
      rw [ds_zero, List.nil_append] at hE
      rw [← hE]
      exact congrArg Ending.returned (cat1 45 45 done rfl)

set_option maxHeartbeats 800000 in
theorem digits_pos (u0 : Nat) (w : World) (h0 : 0 < u0) (h1 : u0 ≤ 9223372036854775807) :
    Calls Tryd.prog 23 #[.int .i64 ((u0 : Int))] w fun e w' => e = .returned (.string ⟨(ds u0).toArray⟩) ∧ Below w.heap.size w w' := by
  have ot := one_text
  have hz0 : ((u0 : Int) == 0) = false := by simp; omega
  have hn0 : decide ((u0 : Int) < 0) = false := by simp
  go_enter Tryd.func23, Tryd.ntmps23
  go_wp2
  go_loopw [0, 4, 5] (fun n v _ wr => ∃ (u : Nat) (done : List UInt8), n = .int .i64 (u : Int) ∧ u ≤ 9223372036854775807 ∧ v = .string ⟨done.toArray⟩ ∧ done.length ≤ 19 ∧ u < 10 ^ (19 - done.length) ∧ ds u ++ done = ds u0 ∧ Below w.heap.size w wr) (fun n _ _ _ => (intOf n).toNat)
  case atStart => exact ⟨u0, [], rfl, h1, rfl, by simp, by simp; omega, by simp, Below.refl _ _⟩
  case round =>
    obtain ⟨u, done, rfl, hu, rfl, hlen, hdn, hE, hb⟩ := hrel
    have HE : Hid (ds u ++ done = ds u0) := hE
    have HD : Hid (u < 10 ^ (19 - done.length)) := hdn
    clear hE hdn
    by_cases hz : 0 < u
    · have hne : ((u : Int) != 0) = true := by simp; omega
      all_goals
        go_wp2
        go_roundw
        case rel =>
          obtain ⟨p1, p2⟩ := pow_step u done.length hz HD.out
          refine ⟨u / 10, UInt8.ofNat (48 + u % 10) :: done, by go_num, by omega, ?_, by simp; omega, by simpa using p2, ?_, ?_⟩
          · exact cat1 _ _ _ (by first | (simp; done) | (congr 1; omega))
          · rw [← HE.out, ds_pos u hz]; simp
          · exact hb.alloc hb.size _
        case measure => simp [intOf]; omega
    · obtain rfl : u = 0 := by omega
      go_wp2
      go_ret
      refine ⟨?_, hb⟩
      have hE := HE.out
      rw [ds_zero, List.nil_append] at hE
      rw [← hE]
      rfl

/-- Whatever the number. -/
theorem digits_any (n : Int) (w : World) (h0 : -9223372036854775808 ≤ n) (h1 : n ≤ 9223372036854775807) :
    Calls Tryd.prog 23 #[.int .i64 n] w fun e w' => e = .returned (.string ⟨(Lib.itoa n).toArray⟩) ∧ Below w.heap.size w w' := by
  by_cases hn : n < 0
  · obtain ⟨u, rfl⟩ : ∃ u : Nat, n = -(u : Int) := ⟨n.natAbs, by omega⟩
    have e : Lib.itoa (-(u : Int)) = 45 :: ds u := by rw [Lib.itoa, if_pos hn, ds_of u (by omega)]; simp
    rw [e]
    exact digits_neg u w (by omega) (by omega)
  · obtain ⟨u, rfl⟩ := Int.eq_ofNat_of_zero_le (show 0 ≤ n by omega)
    by_cases hu : u = 0
    · subst hu
      have e : Lib.itoa ((0 : Nat) : Int) = [48] := by rw [Lib.itoa, if_neg hn]; rw [Lib.decDigits]; rfl
      rw [e]
      go_enter Tryd.func23, Tryd.ntmps23
      go_wp2
      go_ret
      exact ⟨rfl, Below.refl _ _⟩
    · have e : Lib.itoa (u : Int) = ds u := by rw [Lib.itoa, if_neg hn, ds_of u (by omega)]; simp
      rw [e]
      exact digits_pos u w (by omega) (by omega)
end Go.Proofs.YtfekcckckmhioaaDoor
/- The text of a cell, by the specification. -/
namespace Go.Proofs.YtfekcckckmhioaaDoor
open Go.RowKit
set_option maxRecDepth 100000
set_option linter.unusedSimpArgs false
theorem digitsX_any (n : Int) (w : World) (h0 : -9223372036854775808 ≤ n) (h1 : n ≤ 9223372036854775807) :
    Calls Tryd.prog 23 #[.int .i64 n] w fun e w' => e = .returned (.string (itB n)) ∧ Below w.heap.size w w' := digits_any n w h0 h1
set_option maxHeartbeats 1600000 in
theorem specCellText_any (v : Value) (a : AttrD) (b : Int) (w : World) (h : AttrAt w v a) (hn : okA a) :
    Calls Tryd.prog 6 #[v, .int .i64 b] w fun e w' => e = .returned (.string (cellText a b)) ∧ Below w.heap.size w w' := by
  have hat := h
  obtain ⟨vc, vv, rfl, hc, hv⟩ := h
  have HAT : Hid (∀ W, Below w.heap.size w W → AttrAt W (.agg #[.string a.name, vc, vv]) a) := fun W h => hat.later h
  have HC : Hid (∀ W, Below w.heap.size w W → RowI W vc a.cuts) := fun W h => hc.later h
  have HV : Hid (∀ W, Below w.heap.size w W → RowS W vv a.vals) := fun W h => hv.later h
  obtain ⟨oc, cc, rfl, -, -⟩ := id hc
  obtain ⟨ov, cv, rfl, -, -⟩ := id hv
  have lc := hn.cuts
  have lv := hn.vals.1
  have HOK : Hid (okA a) := hn
  have hbl := bins_le hn
  clear hc hv hat hn
  have B0 : Below w.heap.size w (w.alloc (.cells #[.string a.name, .slice oc a.cuts.length cc, .slice ov a.vals.length cv] 28)) := (Below.refl _ _).alloc (Nat.le_refl _) _
  have K0 := Blk.new 28 w #[.string a.name, .slice oc a.cuts.length cc, .slice ov a.vals.length cv]
  have e1 := specAttrOk_any _ a _ (HAT.out _ B0) HOK.out
  cases hk : attrOk a with
  | false =>
    have HE : Hid (cellText a b = ⟨#[]⟩) := if_neg (fun h => by rw [hk] at h; cases h.1)
    rw [hk] at e1
    clear hk
    go_enter Tryd.func6, Tryd.ntmps6
    go_wp2_with fail
    refine e1.mono ?_
    clear e1
    rintro e w1 ⟨rfl, hb1⟩
    go_wp2
    go_ret
    exact ⟨by rw [HE.out]; rfl, B0.trans (hb1.mono (by simp))⟩
  | true =>
    rw [hk] at e1
    go_enter Tryd.func6, Tryd.ntmps6
    go_wp2_with fail
    refine e1.mono ?_
    clear e1
    rintro e w1 ⟨rfl, hb1⟩
    have B1 := B0.trans (hb1.mono (by simp))
    have K1 := K0.below hb1
    have p0 : w1.cell? ⟨w.heap.size, 0, none⟩ = some (.string a.name) := K1.cell 0
    have p1 : w1.cell? ⟨w.heap.size, 1, none⟩ = some (.slice oc a.cuts.length cc) := K1.cell 1
    have p2 : w1.cell? ⟨w.heap.size, 2, none⟩ = some (.slice ov a.vals.length cv) := K1.cell 2
    have e2 := specBins_any _ a w1 (HAT.out w1 B1) HOK.out
    clear K0 hb1
    go_wp2_with fail
    refine e2.mono ?_
    clear e2
    rintro e w2 ⟨rfl, hb2⟩
    have hs2 := hb2.size
    have B2 := B1.trans (hb2.mono B1.size)
    have K2 := K1.below hb2
    have q1 : w2.cell? ⟨w.heap.size, 1, none⟩ = some (.slice oc a.cuts.length cc) := K2.cell 1
    have q2 : w2.cell? ⟨w.heap.size, 2, none⟩ = some (.slice ov a.vals.length cv) := K2.cell 2
    clear p0 p1 p2 K1 hb2 B1
    obtain ⟨l0, l1⟩ := hbl
    have e3 := in_any b (-1) (bins a - 1) w2
    by_cases hin : -1 ≤ b ∧ b ≤ bins a - 1
    rotate_left
    · have HE : Hid (cellText a b = ⟨#[]⟩) := if_neg (fun h => hin h.2)
      rw [decide_eq_false hin] at e3
      clear hk hin
      go_wp2_with fail
      refine e3.mono ?_
      clear e3
      rintro e w3 ⟨rfl, e3'⟩
      rw [e3']
      go_wp2
      go_ret
      exact ⟨by rw [HE.out]; rfl, B2⟩
    have HT : Hid (cellText a b = (if b = -1 then askB else if 0 < a.vals.length then tx a.vals b.toNat else if b < (a.cuts.length : Int) then itB (a.cuts.getD b.toNat 0) else itB (a.cuts.getD (a.cuts.length - 1) 0 + 1))) := if_pos ⟨hk, hin⟩
    have HB : Hid (bins a = (if a.vals.length = 0 then (a.cuts.length : Int) + 1 else a.vals.length)) := by unfold bins; rw [if_pos hk]; rfl
    have HKD : Hid (a.vals.length = 0 ↔ a.cuts.length ≠ 0) := ok_kind hk
    have HCT : Hid (a.vals.length = 0 → ∀ j, j < a.cuts.length → -9999 ≤ a.cuts.getD j 0 ∧ a.cuts.getD j 0 ≤ 9998) := fun _ => cuts_in hk
    rw [decide_eq_true hin] at e3
    obtain ⟨n0, n1⟩ := hin
    clear hk
    go_wp2_with fail
    refine e3.mono ?_
    clear e3
    rintro e w3 ⟨rfl, e3'⟩
    rw [e3']
    clear e3' w3
    rw [HB.out] at n1
    by_cases b1 : b = -1
    · have HE : Hid (cellText a b = askB) := by rw [HT.out, if_pos b1]; rfl
      have hq : (b == -1) = true := by rw [b1]; rfl
      clear b1 HT
      go_wp2
      go_ret
      exact ⟨by rw [HE.out]; rfl, B2⟩
    have hq : (b == -1) = false := by rw [beq_eq_false_iff_ne]; exact b1
    obtain ⟨k, rfl⟩ := Int.eq_ofNat_of_zero_le (show 0 ≤ b by omega)
    by_cases hv0 : 0 < a.vals.length
    · have HE : Hid (cellText a (k : Int) = tx a.vals k) := by rw [HT.out, if_neg b1, if_pos hv0]; rfl
      rw [if_neg (by omega)] at n1
      have hvi : (0 : Int) < (a.vals.length : Int) := by omega
      obtain ⟨ov', cv', e', -, hr⟩ := HV.out w2 B2
      cases e'
      obtain ⟨g, o, rfl, hg, hj⟩ := hr hv0
      have hcell := hj k (by omega)
      have hkl : k < a.vals.length := by omega
      generalize tx a.vals k = u at hcell HE
      clear hr hj b1 HT hv0
      go_wp2
      go_ret
      exact ⟨by rw [HE.out]; rfl, B2⟩
    have hvi : ¬ (0 : Int) < (a.vals.length : Int) := by omega
    have hz : a.vals.length = 0 := by omega
    rw [if_pos hz] at n1
    have hc0 := HKD.out.1 hz
    obtain ⟨oc', cc', e', -, hr⟩ := HC.out w2 B2
    cases e'
    obtain ⟨g, o, rfl, hg, hj⟩ := hr (by omega)
    by_cases hlt : (k : Int) < (a.cuts.length : Int)
    · have HE : Hid (cellText a (k : Int) = itB (a.cuts.getD k 0)) := by rw [HT.out, if_neg b1, if_neg hv0, if_pos hlt]; rfl
      have hcell := hj k (by omega)
      have hr2 := HCT.out hz k (by omega)
      have hkl : k < a.cuts.length := by omega
      generalize a.cuts.getD k 0 = u at hcell HE hr2
      have e4 := digitsX_any u w2 (by omega) (by omega)
      clear hr hj b1 HT hv0 hz hc0
      go_wp2_with fail
      refine e4.mono ?_
      rintro e w4 ⟨rfl, hb4⟩
      go_wp2
      go_ret
      exact ⟨by rw [HE.out]; rfl, B2.trans (hb4.mono B2.size)⟩
    · have HE : Hid (cellText a (k : Int) = itB (a.cuts.getD (a.cuts.length - 1) 0 + 1)) := by rw [HT.out, if_neg b1, if_neg hv0, if_neg hlt]; rfl
      have hcell := hj (a.cuts.length - 1) (by omega)
      have hr2 := HCT.out hz (a.cuts.length - 1) (by omega)
      generalize a.cuts.getD (a.cuts.length - 1) 0 = u at hcell HE hr2
      have e4 := digitsX_any (u + 1) w2 (by omega) (by omega)
      have hcp : 0 < a.cuts.length := by omega
      clear hr hj b1 HT hv0 hz hc0
      go_wp2_with fail
      refine e4.mono ?_
      rintro e w4 ⟨rfl, hb4⟩
      go_wp2
      go_ret
      exact ⟨by rw [HE.out]; rfl, B2.trans (hb4.mono B2.size)⟩
end Go.Proofs.YtfekcckckmhioaaDoor
/- In a region that draws its order: what may be taken first, what comes next. -/
namespace Go.Proofs.YtfekcckckmhioaaDoor
open Go.RowKit
set_option maxRecDepth 100000

section
variable {Pr : Program} {ops : Array Oper} {Q : Exit → Act → World → Prop} {md : Region.Mode} {S : World → Prop}
/-- An operation that may come up now is taken first; it is read off the list, so that it stands written out. -/
theorem takeL (i : Nat) {oi : Oper} (v : Value) {fuel : Nat} {listed : Array Bool} {a : Act} {w : World} (hi : ops.toList[i]? = some oi)
    (hs : Region.noSelect ops = true) (hf : Region.free md ops listed i = true) (hr : (Region.ready md ops listed).contains i = true)
    (hQ : ∀ c a w, Q (.panic c) (a.put oi.dst v) w → Q (.panic c) a w) (hy : YieldsIf Pr ops S oi v a) (hS : S w)
    (h : wpAnyH Pr md ops Q S fuel (listed.setIfInBounds i true) (a.put oi.dst v) w) : wpAnyH Pr md ops Q S (fuel + 1) listed a w :=
  wpAnyH_take (by simpa using hi) hs hf hr hQ hy hS h
/-- The one operation that may come up now. -/
theorem nextL (i : Nat) {oi : Oper} {fuel : Nat} {listed : Array Bool} {a : Act} {w : World} (hi : ops.toList[i]? = some oi) (hr : Region.ready md ops listed = [i])
    (hw : Region.wanted oi (yielded ops a.tmps) = true)
    (h : ∀ K' : Act → World → Prop, (∀ a w, S w → (S w → wpAnyH Pr md ops Q S fuel (listed.setIfInBounds i true) a w) → K' a w) → Oper.wp Pr oi a w K' Q) : wpAnyH Pr md ops Q S (fuel + 1) listed a w := by
  refine wpAnyH_ready hr (by simp) (AllReadyH.cons (o := oi) (by simpa using hi) (fun K hK => ?_) AllReadyH.nil)
  rw [if_pos hw]
  exact h K hK.out
/-- Two may come up now, in either order. -/
theorem next2L (i j : Nat) {oi oj : Oper} {fuel : Nat} {listed : Array Bool} {a : Act} {w : World} (hi : ops.toList[i]? = some oi) (hj : ops.toList[j]? = some oj) (hr : Region.ready md ops listed = [i, j])
    (hw : Region.wanted oi (yielded ops a.tmps) = true) (hw2 : Region.wanted oj (yielded ops a.tmps) = true)
    (h : ∀ K' : Act → World → Prop, (∀ a w, S w → (S w → wpAnyH Pr md ops Q S fuel (listed.setIfInBounds i true) a w) → K' a w) → Oper.wp Pr oi a w K' Q)
    (h2 : ∀ K' : Act → World → Prop, (∀ a w, S w → (S w → wpAnyH Pr md ops Q S fuel (listed.setIfInBounds j true) a w) → K' a w) → Oper.wp Pr oj a w K' Q) : wpAnyH Pr md ops Q S (fuel + 1) listed a w := by
  refine wpAnyH_ready hr (by simp) (AllReadyH.cons (o := oi) (by simpa using hi) (fun K hK => ?_) (AllReadyH.cons (o := oj) (by simpa using hj) (fun K hK => ?_) AllReadyH.nil))
  · rw [if_pos hw]
    exact h K hK.out
  · rw [if_pos hw2]
    exact h2 K hK.out
end

section
variable {ops : Array Oper} {S : World → Prop} {op : Oper} {a : Act}
/-- The load of one integer. -/
theorem yields_int (hw : Region.wanted op (yielded ops a.tmps) = true) (x : Operand) (ho : op.op = .load 3 x) (p : Addr) (hx : a.eval x = .pointer (some p)) (n : Int)
    (hS : ∀ w, S w → w.cell? p = some (.int .i64 n)) : YieldsIf Tryd.prog ops S op (.int .i64 n) a :=
  .inl ⟨hw, fun w hw' => by
    have h := hS w hw'
    unfold execOp
    simp only [ho, hx]
    go_simp⟩
/-- A quotient. -/
theorem yields_quo (hw : Region.wanted op (yielded ops a.tmps) = true) (x y : Operand) (ho : op.op = .binOp .quo 3 x y 3) (m n : Int) (hx : a.eval x = .int .i64 m) (hy : a.eval y = .int .i64 n)
    (h0 : 0 ≤ m) (h1 : m ≤ 9223372036854775807) (h2 : 0 < n) : YieldsIf Tryd.prog ops S op (.int .i64 (m / n)) a :=
  .inl ⟨hw, fun w hw' => by
    have hle : m / n ≤ m := Int.ediv_le_self _ h0
    have hge : 0 ≤ m / n := Int.ediv_nonneg h0 (by omega)
    unfold execOp
    simp only [ho, hx, hy]
    go_simp
    have e : IntKind.i64.wrap (m.tdiv n) = m / n := by rw [IntKind.wrap_i64, Int.tdiv_eq_ediv_of_nonneg h0]; omega
    rw [if_neg (by omega), e]⟩
/-- Two texts, one behind the other. -/
theorem yields_cat (hw : Region.wanted op (yielded ops a.tmps) = true) (x y : Operand) (ho : op.op = .binOp .add 9 x y 9) (s t : ByteArray) (hx : a.eval x = .string s) (hy : a.eval y = .string t)
    (h : s.size + t.size ≤ 1000000) : YieldsIf Tryd.prog ops S op (.string (s ++ t)) a :=
  .inl ⟨hw, fun w hw' => by
    unfold execOp
    simp only [ho, hx, hy]
    go_simp
    omega⟩
end
end Go.Proofs.YtfekcckckmhioaaDoor
/- In a region that draws its order: the load of a whole struct. -/
namespace Go.Proofs.YtfekcckckmhioaaDoor
open Go.RowKit
set_option maxRecDepth 100000

theorem yields_row {ops : Array Oper} {S : World → Prop} {op : Oper} {a : Act} {T : TypeId} {d : Array Field} {cs : Array Value} (hu : Tryd.prog.underlying T = some (.struct d))
    (hi : (Tryd.prog.info? T).map (·.size) = some cs.size) (hw : Region.wanted op (yielded ops a.tmps) = true) (x : Operand) (ho : op.op = .load T x)
    (g : Nat) (hx : a.eval x = .pointer (some ⟨g, 0, none⟩)) (hS : ∀ w, S w → Blk T w g cs) : YieldsIf Tryd.prog ops S op (.agg cs) a :=
  .inl ⟨hw, fun w hw' => by
    unfold execOp
    simp only [ho, hx, Instr.loadAt, Instr.sureAddr, Sem.run_bind, Sem.run_pure, Result.andThen_ok, run_loadVar_row w g _ T _ _ _ (hS w hw') hu rfl hi]⟩
end Go.Proofs.YtfekcckckmhioaaDoor
