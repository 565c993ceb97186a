/- Texts of this claim, put together: part 25. -/
import Derived.Test.YtfekcckckmhioaaGreatDoorFnRowTextPack9
import Derived.Test.YtfekcckckmhioaaGreatDoorFnRowTextPack24
import Derived.Test.YtfekcckckmhioaaGreatDoorFnRowTextPack3
import Derived.Test.YtfekcckckmhioaaGreatDoorFnRowTextPack21
import Derived.Lib.ConvBytes
/- Whether two examples are the same, by the specification. -/
namespace Go.Proofs.YtfekcckckmhioaaGreatDoor
open Go.RowKit
set_option maxRecDepth 100000
set_option linter.unusedSimpArgs false
theorem specExSame_any (va vb : Value) (a b : ExD) (w : World) (ha : ExAt w va a) (hb : ExAt w vb b) (hn : a.bins.length ≤ 1099511627776) :
    Calls Tryz.prog 21 #[va, vb] w fun e w' => e = .returned (.bool (exSame a b)) ∧ Below w.heap.size w w' := by
  obtain ⟨ca, rfl, ra⟩ := ha
  obtain ⟨cb, rfl, rb⟩ := hb
  have B0 : Below w.heap.size w ((w.alloc (.cells #[ca, .int .i64 a.cls] 30)).alloc (.cells #[cb, .int .i64 b.cls] 30)) := ((Below.refl _ _).alloc (Nat.le_refl _) _).alloc (by simp) _
  have e1 := specSameI_any ca cb a.bins b.bins _ (ra.later B0) (rb.later B0) hn
  obtain ⟨oa, ka, rfl, -, -⟩ := id ra
  obtain ⟨ob, kb, rfl, -, -⟩ := id rb
  clear ra rb
  by_cases h : a.cls = b.cls
  · have HE : Hid (exSame a b = decide (a.bins = b.bins)) := by unfold exSame; rw [decide_eq_true h]; rfl
    generalize decide (a.bins = b.bins) = r at e1 HE
    have hq : (a.cls == b.cls) = true := by simp [h]
    clear h
    go_enter Tryz.func21, Tryz.ntmps21
    go_wp2_with fail
    refine e1.mono ?_
    clear e1
    rintro e w1 ⟨rfl, hb1⟩
    go_wp2
    go_ret
    exact ⟨by rw [HE.out]; simp, B0.trans (hb1.mono (by simp; omega))⟩
  · have HE : Hid (exSame a b = false) := by unfold exSame; rw [decide_eq_false h]; rfl
    have hq : (a.cls == b.cls) = false := by simp [h]
    clear h e1
    go_enter Tryz.func21, Tryz.ntmps21
    go_wp2
    go_ret
    exact ⟨by rw [HE.out]; rfl, B0⟩
end Go.Proofs.YtfekcckckmhioaaGreatDoor
/- Two lists of numbers held against each other, by the library. -/
namespace Go.Proofs.YtfekcckckmhioaaGreatDoor
open Go.RowKit
set_option maxRecDepth 100000
set_option maxHeartbeats 800000 in
theorem libSameI_any (va vb : Value) (za zb : List Int) (w : World) (ha : RowI w va za) (hb : RowI w vb zb) (hna : za.length ≤ 1099511627776) :
    Calls Tryz.prog 48 #[va, vb] w fun e w' => e = .returned (.bool (decide (za = zb))) ∧ Below w.heap.size w w' := by
  obtain ⟨oa, ca, rfl, hca, hra⟩ := ha
  obtain ⟨ob, cb, rfl, hcb, hrb⟩ := hb
  have HA : Hid (0 < za.length → ∃ g o, oa = some ⟨g, o, none⟩ ∧ g < w.heap.size ∧ ∀ j, j < za.length → w.cell? ⟨g, o + j, none⟩ = some (.int .i64 (za.getD j 0))) := hra
  have HB : Hid (0 < zb.length → ∃ g o, ob = some ⟨g, o, none⟩ ∧ g < w.heap.size ∧ ∀ j, j < zb.length → w.cell? ⟨g, o + j, none⟩ = some (.int .i64 (zb.getD j 0))) := hrb
  clear hra hrb
  by_cases hl : za.length = zb.length
  rotate_left
  · have HF : Hid (decide (za = zb) = false) := same_len hl
    have hq : ((za.length : Int) == (zb.length : Int)) = false := by simp; omega
    go_enter Tryz.func48, Tryz.ntmps48
    go_wp2
    go_ret
    exact ⟨by rw [HF.out]; rfl, Below.refl _ _⟩
  have HL : Hid (za.length = zb.length) := hl
  obtain ⟨n, hn⟩ : ∃ n, n = za.length := ⟨_, rfl⟩
  have HNA : Hid (n = za.length) := hn
  have HNB : Hid (n = zb.length) := hn.trans hl
  rw [← hl, ← hn]
  rw [← hn] at hca hna
  clear hl hn hcb
  go_enter Tryz.func48, Tryz.ntmps48
  go_wp2
  go_loopw [13] (fun i wr => ∃ k q : Nat, i = .int .i64 k ∧ k ≤ n ∧ (∀ j, j < k → za.getD j 0 = zb.getD j 0) ∧ wr = w.drewN q) (fun i _ => n - (intOf i).toNat)
  case atStart => exact ⟨0, 0, rfl, by omega, by omega, rfl⟩
  case round =>
    obtain ⟨k, q, rfl, hk, hal, rfl⟩ := hrel
    have HK : Hid (∀ j, j < k → za.getD j 0 = zb.getD j 0) := hal
    clear hal
    by_cases hlt : k < n
    · obtain ⟨g, o, rfl, _, hj⟩ := HA.out (by have := HNA.out; omega)
      obtain ⟨g', o', rfl, _, hj'⟩ := HB.out (by have := HNB.out; omega)
      have ha' := hj k (by have := HNA.out; omega)
      have hb' := hj' k (by have := HNB.out; omega)
      clear hj hj' HA HB
      by_cases he : za.getD k 0 = zb.getD k 0
      · have HE : Hid (za.getD k 0 = zb.getD k 0) := he
        have hq : (za.getD k 0 == zb.getD k 0) = true := by rw [he]; simp
        clear he
        generalize za.getD k 0 = x at ha' hq
        generalize zb.getD k 0 = y at hb' hq
        go_wp2
        go_quiet (fail)
        all_goals go_wp2
        all_goals go_roundw
        case rel =>
          refine ⟨k + 1, _, by go_num, by omega, ?_, by first | rfl | (simp only [World.drewN_drewN]; rfl)⟩
          intro j hj
          by_cases e : j = k
          · subst e; exact HE.out
          · exact HK.out j (by omega)
        case measure => simp [intOf]; omega
      · have HF : Hid (decide (za = zb) = false) := sameI_no he
        have hq : (za.getD k 0 == zb.getD k 0) = false := by simpa using he
        clear he
        generalize za.getD k 0 = x at ha' hq
        generalize zb.getD k 0 = y at hb' hq
        go_wp2
        go_quiet (fail)
        all_goals go_wp2
        all_goals go_ret
        all_goals exact ⟨by rw [HF.out]; rfl, below_drewN (below_drewN (Below.refl _ _) _) _⟩
    · have HF : Hid (decide (za = zb) = true) := sameI_yes HL.out fun j hj => HK.out j (by have := HNA.out; omega)
      go_wp2
      go_ret
      exact ⟨by rw [HF.out]; rfl, below_drewN (Below.refl _ _) _⟩

end Go.Proofs.YtfekcckckmhioaaGreatDoor
/- Whether two examples are the same, a place among so many: by the program. -/
namespace Go.Proofs.YtfekcckckmhioaaGreatDoor
open Go.RowKit
set_option maxRecDepth 100000
theorem implExSame_any (va vb : Value) (a b : ExD) (w : World) (ha : ExAt w va a) (hb : ExAt w vb b) (hn : a.bins.length ≤ 1099511627776) :
    Calls Tryz.prog 22 #[va, vb] w fun e w' => e = .returned (.bool (exSame a b)) ∧ Below w.heap.size w w' := by
  obtain ⟨ca, rfl, ra⟩ := ha
  obtain ⟨cb, rfl, rb⟩ := hb
  have B0 : Below w.heap.size w ((w.alloc (.cells #[ca, .int .i64 a.cls] 30)).alloc (.cells #[cb, .int .i64 b.cls] 30)) := ((Below.refl _ _).alloc (Nat.le_refl _) _).alloc (by simp) _
  have e1 := libSameI_any ca cb a.bins b.bins _ (ra.later B0) (rb.later B0) hn
  obtain ⟨oa, ka, rfl, -, -⟩ := id ra
  obtain ⟨ob, kb, rfl, -, -⟩ := id rb
  clear ra rb
  by_cases h : a.cls = b.cls
  · have HE : Hid (exSame a b = decide (a.bins = b.bins)) := by unfold exSame; rw [decide_eq_true h]; rfl
    generalize decide (a.bins = b.bins) = r at e1 HE
    have hq : (a.cls == b.cls) = true := by simp [h]
    clear h
    go_enter Tryz.func22, Tryz.ntmps22
    go_wp2_with fail
    refine e1.mono ?_
    clear e1
    rintro e w1 ⟨rfl, hb1⟩
    go_wp2
    go_ret
    exact ⟨by rw [HE.out]; simp, B0.trans (hb1.mono (by simp; omega))⟩
  · have HE : Hid (exSame a b = false) := by unfold exSame; rw [decide_eq_false h]; rfl
    have hq : (a.cls == b.cls) = false := by simp [h]
    clear h e1
    go_enter Tryz.func22, Tryz.ntmps22
    go_wp2
    go_ret
    exact ⟨by rw [HE.out]; rfl, B0⟩
end Go.Proofs.YtfekcckckmhioaaGreatDoor
/- A text turned into a list of bytes. -/
namespace Go.Proofs.YtfekcckckmhioaaGreatDoor
open Go.RowKit
set_option maxRecDepth 100000
theorem conv_run (s : ByteArray) (w : World) : (convert 9 26 (.string s)).run Tryz.prog w = .ok (.slice (some ⟨w.heap.size, 0, none⟩) s.size (grownCap w s.size 0 5)) (Lib.bytesWorld w 5 s) :=
  Lib.run_convert_string_bytes w _ _ _ s Tryz.underlying9 Tryz.underlying26 Tryz.underlying5
theorem conv_below (s : ByteArray) (w : World) : Below w.heap.size w (Lib.bytesWorld w 5 s) :=
  ⟨rfl, rfl, rfl, by rw [Lib.bytesWorld_size]; omega, fun k hk => Lib.bytesWorld_at_old w _ s k hk⟩
theorem nums_back (s : ByteArray) : strOfNums (s.data.toList.map fun b => (b.toNat : Int)) = s := by
  apply ByteArray.ext
  apply Array.toList_inj.1
  rw [strOfNums_data, List.map_map]
  conv => rhs; rw [← List.map_id s.data.toList]
  apply List.map_congr_left
  intro b _
  simp
/-- A list of bytes in block gb. -/
def BytesIn (w : World) (v : Value) (row : ByteArray) (gb : Nat) : Prop :=
  (∃ cap, v = .slice (some ⟨gb, 0, none⟩) row.size cap) ∧ gb < w.heap.size ∧ ∀ i, i < row.size → w.cell? ⟨gb, i, none⟩ = some (.int .u8 (row.data.toList.getD i 0).toNat)
theorem BytesIn.at {w : World} {v : Value} {s : ByteArray} {gb : Nat} (h : BytesIn w v s gb) : BytesAt w v s := by
  obtain ⟨⟨cap, rfl⟩, hlt, hc⟩ := h
  refine ⟨_, cap, rfl, fun W hW => ?_⟩
  have hl : (s.data.toList.map fun b => (b.toNat : Int)).length = s.size := by rw [List.length_map]; exact Array.length_toList
  have := run_convert_bytes_arg (P := Tryz.prog) W 26 5 Tryz.underlying26 Tryz.underlying5 gb 0 s.size cap (s.data.toList.map fun b => (b.toNat : Int)) hl (fun i hi => by
    rw [Nat.zero_add, hW.cell (p := ⟨gb, i, none⟩) hlt, hc i hi]
    have hi2 : i < s.data.toList.length := by rw [Array.length_toList]; exact hi
    simp [List.getD_eq_getElem?_getD, List.getElem?_eq_getElem hi2]) 9 Tryz.underlying9
  rw [nums_back] at this
  exact this
theorem BytesIn.row {w : World} {v : Value} {s : ByteArray} {gb k : Nat} (h : BytesIn w v s gb) (hk : k ≠ gb) (c : Array Value) : BytesIn (w.setRow k c) v s gb := by
  refine ⟨h.1, by simpa [World.setRow] using h.2.1, fun i hi => ?_⟩
  rw [← h.2.2 i hi]
  unfold World.cell?
  simp only
  rw [Go.setRow_other w k gb c (fun e => hk e.symm)]
theorem conv_at (s : ByteArray) (w : World) : BytesIn (Lib.bytesWorld w 5 s) (.slice (some ⟨w.heap.size, 0, none⟩) s.size (grownCap w s.size 0 5)) s w.heap.size :=
  ⟨⟨_, rfl⟩, by rw [Lib.bytesWorld_size]; omega, fun i hi => Lib.bytesWorld_cell w _ s i hi⟩
end Go.Proofs.YtfekcckckmhioaaGreatDoor
