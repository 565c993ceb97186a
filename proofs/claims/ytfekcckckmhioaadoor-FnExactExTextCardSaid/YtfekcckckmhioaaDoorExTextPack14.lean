/- Texts of this claim, put together: part 14. -/
import Derived.Test.YtfekcckckmhioaaDoorExTextPack9
import Derived.Test.YtfekcckckmhioaaDoorExTextPack13
import Derived.Test.YtfekcckckmhioaaDoorExTextPack11
import Derived.Test.YtfekcckckmhioaaDoorExTextPack12
import Derived.Test.YtfekcckckmhioaaDoorRows
import Derived.WalkKit
import Derived.ProofKit
import Derived.OpenShut
import Derived.Test.YtfekcckckmhioaaDoorExTextPack8
import Derived.Shelf.Strings.OnBuilder
import Derived.Test.YtfekcckckmhioaaDoorProg
/- The text of a place among words, the text of a cell: by the program. -/
namespace Go.Proofs.YtfekcckckmhioaaDoor
open Go.RowKit
set_option maxRecDepth 100000
set_option linter.unusedSimpArgs false
def choiceT (ss : List ByteArray) (p : Int) : ByteArray := if p = -1 then askB else tx ss p.toNat
theorem choiceText_any (v : Value) (ss : List ByteArray) (p : Int) (w : World) (h : RowS w v ss) (h0 : -1 ≤ p) (h1 : p < (ss.length : Int)) (hn : ss.length ≤ 1099511627776) (hz : ∀ s ∈ ss, s.size ≤ 8) :
    Calls Tryd.prog 30 #[v, .int .i64 p] w fun e w' => e = .returned (.string (choiceT ss p)) ∧ Below w.heap.size w w' := by
  obtain ⟨oa, cap, rfl, hc, hr⟩ := h
  by_cases hp : p = -1
  · subst hp
    clear hr hz
    go_enter Tryd.func30, Tryd.ntmps30
    go_wp2
    go_ret
    exact ⟨rfl, Below.refl _ _⟩
  · have HE : Hid (choiceT ss p = tx ss p.toNat) := if_neg hp
    have hq : (p == -1) = false := by rw [beq_eq_false_iff_ne]; exact hp
    obtain ⟨k, rfl⟩ := Int.eq_ofNat_of_zero_le (show 0 ≤ p by omega)
    obtain ⟨g, o, rfl, hg, hj⟩ := hr (by omega)
    have hcell := hj k (by omega)
    have hk : k < ss.length := by omega
    have hs := hz _ (tx_mem hk)
    have HE : Hid (choiceT ss (k : Int) = tx ss k) := HE.out
    generalize tx ss k = t at hcell hs HE
    clear hr hz hj hp
    have c := clone_any t w (by omega)
    go_enter Tryd.func30, Tryd.ntmps30
    go_wp2_with fail
    refine c.mono ?_
    rintro e w1 ⟨rfl, hb1⟩
    clear c
    go_wp2
    go_ret
    exact ⟨by rw [HE.out]; rfl, hb1⟩
set_option maxHeartbeats 1600000 in
theorem implCellText_any (v : Value) (a : AttrD) (b : Int) (w : World) (h : AttrAt w v a) (hn : okA a) (hT : Tab w) :
    Calls Tryd.prog 8 #[v, .int .i64 b] w fun e w' => e = .returned (.string (cellText a b)) ∧ Below w.heap.size w w' := by
  have hat := h
  obtain ⟨vc, vv, rfl, hc, hv⟩ := h
  have HAT : Hid (∀ W, Below w.heap.size w W → AttrAt W (.agg #[.string a.name, vc, vv]) a) := fun W h => hat.later h
  have HC : Hid (∀ W, Below w.heap.size w W → RowI W vc a.cuts) := fun W h => hc.later h
  have HV : Hid (∀ W, Below w.heap.size w W → RowS W vv a.vals) := fun W h => hv.later h
  have HTB : Hid (∀ W, Below w.heap.size w W → Tab W) := fun W h => hT.later h
  obtain ⟨oc, cc, rfl, -, -⟩ := id hc
  obtain ⟨ov, cv, rfl, -, -⟩ := id hv
  have lc := hn.cuts
  have lv := hn.vals.1
  have HOK : Hid (okA a) := hn
  have hbl := bins_le hn
  clear hc hv hat hn hT
  have B0 : Below w.heap.size w (w.alloc (.cells #[.string a.name, .slice oc a.cuts.length cc, .slice ov a.vals.length cv] 28)) := (Below.refl _ _).alloc (Nat.le_refl _) _
  have K0 := Blk.new 28 w #[.string a.name, .slice oc a.cuts.length cc, .slice ov a.vals.length cv]
  have e1 := implAttrOk_any _ a _ (HAT.out _ B0) HOK.out
  cases hk : attrOk a with
  | false =>
    have HE : Hid (cellText a b = ⟨#[]⟩) := if_neg (fun h => by rw [hk] at h; cases h.1)
    rw [hk] at e1
    clear hk
    go_enter Tryd.func8, Tryd.ntmps8
    go_wp2_with fail
    refine e1.mono ?_
    clear e1
    rintro e w1 ⟨rfl, hb1⟩
    go_wp2
    go_ret
    exact ⟨by rw [HE.out]; rfl, B0.trans (hb1.mono (by simp))⟩
  | true =>
    rw [hk] at e1
    go_enter Tryd.func8, Tryd.ntmps8
    go_wp2_with fail
    refine e1.mono ?_
    clear e1
    rintro e w1 ⟨rfl, hb1⟩
    have B1 := B0.trans (hb1.mono (by simp))
    have K1 := K0.below hb1
    have p0 : w1.cell? ⟨w.heap.size, 0, none⟩ = some (.string a.name) := K1.cell 0
    have p1 : w1.cell? ⟨w.heap.size, 1, none⟩ = some (.slice oc a.cuts.length cc) := K1.cell 1
    have p2 : w1.cell? ⟨w.heap.size, 2, none⟩ = some (.slice ov a.vals.length cv) := K1.cell 2
    have e2 := implBins_any _ a w1 (HAT.out w1 B1) HOK.out
    clear K0 hb1
    go_wp2_with fail
    refine e2.mono ?_
    clear e2
    rintro e w2 ⟨rfl, hb2⟩
    have hs2 := hb2.size
    have B2 := B1.trans (hb2.mono B1.size)
    have K2 := K1.below hb2
    clear p0 p1 p2 K1 hb2 B1
    obtain ⟨l0, l1⟩ := hbl
    have e3 := placeOk_any b (bins a) w2
    by_cases hin : -1 ≤ b ∧ b ≤ bins a - 1
    rotate_left
    · have HE : Hid (cellText a b = ⟨#[]⟩) := if_neg (fun h => hin h.2)
      rw [decide_eq_false hin] at e3
      clear hk hin
      go_wp2_with fail
      refine e3.mono ?_
      clear e3
      rintro e w3 ⟨rfl, e3'⟩
      rw [e3']
      go_wp2
      go_ret
      exact ⟨by rw [HE.out]; rfl, B2⟩
    have HT : Hid (cellText a b = (if b = -1 then askB else if 0 < a.vals.length then tx a.vals b.toNat else if b < (a.cuts.length : Int) then itB (a.cuts.getD b.toNat 0) else itB (a.cuts.getD (a.cuts.length - 1) 0 + 1))) := if_pos ⟨hk, hin⟩
    have HB : Hid (bins a = (if a.vals.length = 0 then (a.cuts.length : Int) + 1 else a.vals.length)) := by unfold bins; rw [if_pos hk]; rfl
    have HKD : Hid (a.vals.length = 0 ↔ a.cuts.length ≠ 0) := ok_kind hk
    have HCT : Hid (a.vals.length = 0 → ∀ j, j < a.cuts.length → -9999 ≤ a.cuts.getD j 0 ∧ a.cuts.getD j 0 ≤ 9998) := fun _ => cuts_in hk
    have HZ : Hid (∀ s ∈ a.vals, s.size ≤ 8) := fun s hs => by
      have hv0 : a.vals.length ≠ 0 := fun e => by rw [List.eq_nil_of_length_eq_zero e] at hs; cases hs
      exact (word_size (words_all (ok_vals hk hv0).2.2.2 _ hs)).2
    rw [decide_eq_true hin] at e3
    obtain ⟨n0, n1⟩ := hin
    clear hk
    rw [HB.out] at n1
    go_wp2_with fail
    refine e3.mono ?_
    clear e3
    rintro e w3 ⟨rfl, e3'⟩
    rw [e3']
    clear e3' w3
    have q0 : w2.cell? ⟨w.heap.size, 0, none⟩ = some (.string a.name) := K2.cell 0
    have q1 : w2.cell? ⟨w.heap.size, 1, none⟩ = some (.slice oc a.cuts.length cc) := K2.cell 1
    have q2 : w2.cell? ⟨w.heap.size, 2, none⟩ = some (.slice ov a.vals.length cv) := K2.cell 2
    have e4 := nominal_any _ a w2 (HAT.out w2 B2)
    by_cases hv0 : 0 < a.vals.length
    · rw [decide_eq_true hv0] at e4
      rw [if_neg (by omega)] at n1
      have HE : Hid (choiceT a.vals b = cellText a b) := by
        rw [HT.out]; unfold choiceT
        by_cases hb : b = -1
        · rw [if_pos hb, if_pos hb]; rfl
        · rw [if_neg hb, if_neg hb, if_pos hv0]; rfl
      go_wp2_with fail
      refine e4.mono ?_
      clear e4
      rintro e w3 ⟨rfl, hb3⟩
      have B3 := B2.trans (hb3.mono B2.size)
      have K3 := K2.below hb3
      have q2 : w3.cell? ⟨w.heap.size, 2, none⟩ = some (.slice ov a.vals.length cv) := K3.cell 2
      have e5 := choiceText_any _ a.vals b w3 (HV.out w3 B3) n0 (by omega) lv HZ.out
      rw [HE.out] at e5
      clear q0 q1 hb3 K2 K3
      go_wp2_with fail
      refine e5.mono ?_
      clear e5
      rintro e w4 ⟨rfl, hb4⟩
      go_wp2
      go_ret
      exact ⟨rfl, B3.trans (hb4.mono B3.size)⟩
    rw [decide_eq_false hv0] at e4
    have hz0 : a.vals.length = 0 := by omega
    rw [if_pos hz0] at n1
    have hc0 := HKD.out.1 hz0
    have HZ0 : Hid (a.vals.length = 0) := hz0
    have HV0 : Hid (¬ 0 < a.vals.length) := hv0
    clear hz0 hv0
    go_wp2_with fail
    refine e4.mono ?_
    clear e4
    rintro e w3 ⟨rfl, hb3⟩
    have B3 := B2.trans (hb3.mono B2.size)
    have K3 := K2.below hb3
    clear q0 q1 q2 hb3 K2 B2
    have q1 : w3.cell? ⟨w.heap.size, 1, none⟩ = some (.slice oc a.cuts.length cc) := K3.cell 1
    have q2 : w3.cell? ⟨w.heap.size, 2, none⟩ = some (.slice ov a.vals.length cv) := K3.cell 2
    by_cases b1 : b = -1
    · have hq : (b == -1) = true := by rw [b1]; rfl
      have HE : Hid (choiceT a.vals b = cellText a b) := by rw [HT.out]; unfold choiceT; rw [if_pos b1, if_pos b1]; rfl
      have e5 := choiceText_any _ a.vals b w3 (HV.out w3 B3) n0 (by have := HZ0.out; omega) lv HZ.out
      rw [HE.out] at e5
      clear b1 q1 K3
      go_wp2_with fail
      refine e5.mono ?_
      clear e5
      rintro e w4 ⟨rfl, hb4⟩
      go_wp2
      go_ret
      exact ⟨rfl, B3.trans (hb4.mono B3.size)⟩
    have hq : (b == -1) = false := by rw [beq_eq_false_iff_ne]; exact b1
    obtain ⟨k, rfl⟩ := Int.eq_ofNat_of_zero_le (show 0 ≤ b by omega)
    obtain ⟨oc', cc', e', hcc, hr⟩ := HC.out w3 B3
    cases e'
    obtain ⟨g, o, rfl, hg, hj⟩ := hr (by omega)
    by_cases hkl : k = a.cuts.length
    · obtain ⟨n, hn⟩ : ∃ n, a.cuts.length = n + 1 := ⟨a.cuts.length - 1, by omega⟩
      have hcell := hj n (by omega)
      have hin := HCT.out HZ0.out n (by omega)
      have HE : Hid (cellText a (k : Int) = itB (a.cuts.getD n 0 + 1)) := by
        rw [HT.out, if_neg b1, if_neg HV0.out, if_neg (by omega), hn]; rfl
      generalize a.cuts.getD n 0 = z at hcell hin HE
      have hkn : k = n + 1 := by omega
      have hq2 : ((k : Int) == (a.cuts.length : Int)) = true := by rw [hkl]; simp
      clear hkl hr hj b1 HT HB q2
      subst hkn
      have hw : IntKind.i64.wrap ((↑(n + 1) : Int) - 1) = (n : Int) := by rw [IntKind.wrap_i64]; omega
      have e5 := iDigits_any (z + 1) w3 (by omega) (by omega) (HTB.out w3 B3)
      have HN : Hid (a.cuts.length = n + 1) := hn
      have hnl : n < a.cuts.length := by omega
      clear hn
      go_wp2_with fail
      refine e5.mono ?_
      clear e5
      rintro e w4 ⟨rfl, hb4⟩
      go_wp2
      go_ret
      exact ⟨by rw [HE.out]; rfl, B3.trans (hb4.mono B3.size)⟩
    · have hlt : k < a.cuts.length := by omega
      have hcell := hj k hlt
      have hin := HCT.out HZ0.out k hlt
      have HE : Hid (cellText a (k : Int) = itB (a.cuts.getD k 0)) := by
        rw [HT.out, if_neg b1, if_neg HV0.out, if_pos (by omega)]; rfl
      generalize a.cuts.getD k 0 = z at hcell hin HE
      have hq2 : ((k : Int) == (a.cuts.length : Int)) = false := by rw [beq_eq_false_iff_ne]; omega
      clear hkl hr hj b1 HT HB q2
      have e5 := iDigits_any z w3 (by omega) (by omega) (HTB.out w3 B3)
      go_wp2_with fail
      refine e5.mono ?_
      clear e5
      rintro e w4 ⟨rfl, hb4⟩
      go_wp2
      go_ret
      exact ⟨by rw [HE.out]; rfl, B3.trans (hb4.mono B3.size)⟩
end Go.Proofs.YtfekcckckmhioaaDoor
/- A step of a region that draws; a row as a slice. -/
namespace Go.Proofs.YtfekcckckmhioaaDoor
open Go.RowKit
set_option maxRecDepth 100000
theorem step_wp {P : Program} {ops : Array Oper} {o : Oper} {a : Act} {w : World} {K : Act → World → Prop} {Q : Exit → Act → World → Prop} {E : Prop} (hg : o.guard = none) (h : Oper.wp P o a w K Q) :
    if Region.wanted o (yielded ops a.tmps) = true then Oper.wp P o a w K Q else E := by
  rw [if_pos (by simp [Region.wanted, hg])]; exact h
theorem own_slice {w : World} {b e s n : Nat} {v : Value} {xs : List Value} (h : w.ownsRow b e s v n xs) : ∃ o c, v = .slice o n c := by
  rcases h.2 with ⟨rfl, h0⟩ | ⟨g, cap, cur, rfl, _⟩
  · exact ⟨none, 0, by rw [h0]⟩
  · exact ⟨_, _, rfl⟩
end Go.Proofs.YtfekcckckmhioaaDoor
/- How long the text of a cell is; what a right example is made of. -/
namespace Go.Proofs.YtfekcckckmhioaaDoor
open Go.RowKit
set_option maxRecDepth 100000
theorem cellText_size (a : AttrD) (b : Int) : (cellText a b).size ≤ 8 := by
  unfold cellText
  split
  · next h =>
    obtain ⟨hk, h1, h2⟩ := h
    split
    · decide
    · next hb =>
      split
      · next hv =>
        have hv0 : a.vals.length ≠ 0 := by omega
        obtain ⟨hc, l2, l4, hwo⟩ := ok_vals hk hv0
        have hbin : bins a = a.vals.length := by unfold bins; rw [if_pos hk, if_neg hv0]
        exact (word_size (words_all hwo _ (tx_mem (by omega)))).2
      · next hv =>
        have hz : a.vals.length = 0 := by omega
        have hc0 := (ok_kind hk).1 hz
        split
        · next hlt =>
          have := cuts_in hk b.toNat (by omega)
          have := itB_size (n := a.cuts.getD b.toNat 0) (by omega) (by omega)
          omega
        · have := cuts_in hk (a.cuts.length - 1) (by omega)
          have := itB_size (n := a.cuts.getD (a.cuts.length - 1) 0 + 1) (by omega) (by omega)
          omega
  · decide
theorem sch_parts5 {s : SchemaD} (h : schemaOk s = true) : s.attrs.length ≤ 5 ∧ 1 ≤ s.attrs.length := by
  unfold schemaOk at h
  rw [Bool.and_eq_true] at h
  have := of_decide_eq_true h.1
  omega
theorem ex_parts {s : SchemaD} {e : ExD} (h : exOk s e = true) : schemaOk s = true ∧ e.bins.length = s.attrs.length ∧ (-1 ≤ e.cls ∧ e.cls ≤ (s.classes.length : Int) - 1) ∧ binsRight s e = true := by
  unfold exOk at h
  rw [Bool.and_eq_true, Bool.and_eq_true, Bool.and_eq_true] at h
  exact ⟨h.1, of_decide_eq_true h.2.1, of_decide_eq_true h.2.2.1, h.2.2.2⟩
end Go.Proofs.YtfekcckckmhioaaDoor
/- Contracts of the library that this seat calls, laid at its own numbers out of the kit. -/
namespace Go.Proofs
open Go.Shelf
def Tryd.lays156_ren : Go.Shelf.Ren := ⟨fun | 156 => 39 | 165 => 50 | 166 => 51 | 169 => 52 | 240 => 56 | 241 => 57 | 276 => 60 | 277 => 61 | n => n, fun | 31 => 23 | 9 => 9 | 3 => 3 | 4 => 4 | 0 => 0 | 20 => 20 | 72 => 75 | 76 => 79 | 70 => 73 | 37 => 68 | 75 => 78 | 127 => 83 | 164 => 86 | 5 => 5 | 80 => 81 | n => n, fun | n => n⟩
theorem Tryd.lays156 : Go.Proofs.Lays.n156 Tryd.prog Tryd.lays156_ren := {
  mixed := by kernel_rfl
  f156 := Tryd.func39.trans (congrArg some (by kernel_rfl))
  f165 := Tryd.func50.trans (congrArg some (by kernel_rfl))
  f166 := Tryd.func51.trans (congrArg some (by kernel_rfl))
  f169 := Tryd.func52.trans (congrArg some (by kernel_rfl))
  f240 := Tryd.func56.trans (congrArg some (by kernel_rfl))
  f241 := Tryd.func57.trans (congrArg some (by kernel_rfl))
  f276 := Tryd.func60.trans (congrArg some (by kernel_rfl))
  f277 := Tryd.func61.trans (congrArg some (by kernel_rfl))
  t0 := Tryd.underlying0
  a0 := Tryd.isAgg0
  z0 := Tryd.sizeOf0
  v0 := Tryd.zeroValue0
  t3 := Tryd.underlying3
  a3 := Tryd.isAgg3
  z3 := Tryd.sizeOf3
  v3 := Tryd.zeroValue3
  t4 := Tryd.underlying4
  a4 := Tryd.isAgg4
  z4 := Tryd.sizeOf4
  v4 := Tryd.zeroValue4
  t9 := Tryd.underlying9
  a9 := Tryd.isAgg9
  z9 := Tryd.sizeOf9
  v9 := Tryd.zeroValue9
  t20 := Tryd.underlying20
  a20 := Tryd.isAgg20
  z20 := Tryd.sizeOf20
  v20 := Tryd.zeroValue20
  t31 := Tryd.underlying23
  a31 := Tryd.isAgg23
  z31 := Tryd.sizeOf23
  v31 := Tryd.zeroValue23
  t37 := Tryd.underlying68
  a37 := Tryd.isAgg68
  z37 := Tryd.sizeOf68
  v37 := Tryd.zeroValue68
  t70 := Tryd.underlying73
  a70 := Tryd.isAgg73
  z70 := Tryd.sizeOf73
  v70 := Tryd.zeroValue73
  t72 := Tryd.underlying75
  a72 := Tryd.isAgg75
  z72 := Tryd.sizeOf75
  v72 := Tryd.zeroValue75
  t75 := Tryd.underlying78
  a75 := Tryd.isAgg78
  z75 := Tryd.sizeOf78
  v75 := Tryd.zeroValue78
  t76 := Tryd.underlying79
  a76 := Tryd.isAgg79
  z76 := Tryd.sizeOf79
  v76 := Tryd.zeroValue79
  t127 := Tryd.underlying83
  a127 := Tryd.isAgg83
  z127 := Tryd.sizeOf83
  v127 := Tryd.zeroValue83
  t164 := Tryd.underlying86
  a164 := Tryd.isAgg86
  z164 := Tryd.sizeOf86
  v164 := Tryd.zeroValue86 }
theorem Tryd.Builder_Extra_156 : Builder.Extra Tryd.prog Tryd.lays156_ren := {
  sizeBuilder := by kernel_rfl
  liesBuilder := by kernel_rfl
  t5 := Tryd.underlying5
  a5 := Tryd.isAgg5
  z5 := Tryd.sizeOf5
  v5 := Tryd.zeroValue5
  infoByte := by kernel_rfl
  cellsByte := by kernel_rfl
  sizeByte := by kernel_rfl
  neB5 := by decide }
open Go.RowKit in
theorem Tryd.strings_Join (bk o c : Nat) (xs : List ByteArray) (sep : ByteArray) (w : World) (hcells : ∀ (j : Nat) x, xs[j]? = some x → w.cell? ⟨bk, o + j, none⟩ = some (.string x)) (hbk : bk < w.heap.size) (hN : xs.length ≤ 140737488355328) (hcap : xs.length ≤ c) (hlen : (Lib.join (xs.map (·.data.toList)) sep.data.toList).length ≤ 140737488355328) :
    Calls Tryd.prog 39 #[.slice (some ⟨bk, o, none⟩) xs.length c, .string sep] w fun e w' => e = .returned (.string ⟨(Lib.join (xs.map (·.data.toList)) sep.data.toList).toArray⟩) ∧ Below w.heap.size w w' := Any.strings_Join Tryd.lays156 Tryd.Builder_Extra_156 bk o c xs sep w hcells hbk hN hcap hlen
open Go.RowKit in
theorem Tryd.strings_Join_none (a : Option Addr) (c : Nat) (sep : ByteArray) (w : World) :
    Calls Tryd.prog 39 #[.slice a 0 c, .string sep] w fun e w' => e = .returned (.string ⟨#[]⟩) ∧ w' = w := Any.strings_Join_none Tryd.lays156 Tryd.Builder_Extra_156 a c sep w
end Go.Proofs
