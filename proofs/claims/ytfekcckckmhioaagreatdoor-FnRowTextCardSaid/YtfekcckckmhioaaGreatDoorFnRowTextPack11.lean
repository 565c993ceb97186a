/- Texts of this claim, put together: part 11. -/
import Derived.Test.YtfekcckckmhioaaGreatDoorFnRowTextPack3
import Derived.Test.YtfekcckckmhioaaGreatDoorFnRowTextPack10
import Derived.Test.YtfekcckckmhioaaGreatDoorFnRowTextPack9
import Derived.Test.YtfekcckckmhioaaGreatDoorFnRowTextPack8
import Derived.Deep.RegionLaw
import Derived.Test.YtfekcckckmhioaaGreatDoorFnRowTextPack6
import Derived.Test.YtfekcckckmhioaaGreatDoorFnRowTextPack5
/- An attribute, by the specification; its bins, by both. -/
namespace Go.Proofs.YtfekcckckmhioaaGreatDoor
open Go.RowKit
set_option maxRecDepth 100000

theorem cutAt_no1 {cs : List Int} {k : Nat} (h : ¬ (-9999 ≤ cs.getD k 0 ∧ cs.getD k 0 ≤ 9998)) : cutAt cs k = false := by unfold cutAt; rw [decide_eq_false h]; rfl
theorem cutAt_no2 {cs : List Int} {k : Nat} (h0 : k ≠ 0) (h : cs.getD k 0 ≤ cs.getD (k - 1) 0) : cutAt cs k = false := by
  unfold cutAt
  rw [decide_eq_false h0, decide_eq_false (Int.not_lt.2 h)]; simp
theorem cutAt_yes0 {cs : List Int} (h : -9999 ≤ cs.getD 0 0 ∧ cs.getD 0 0 ≤ 9998) : cutAt cs 0 = true := by unfold cutAt; rw [decide_eq_true h]; rfl
theorem cutAt_yes1 {cs : List Int} {k : Nat} (h : -9999 ≤ cs.getD k 0 ∧ cs.getD k 0 ≤ 9998) (h1 : cs.getD (k - 1) 0 < cs.getD k 0) : cutAt cs k = true := by
  unfold cutAt; rw [decide_eq_true h, decide_eq_true h1]; simp

theorem in_quiet (x lo hi : Int) (b : Bool) (hb : decide (lo ≤ x ∧ x ≤ hi) = b) (w : World) (q n : Nat) : Calls Tryz.prog 45 #[.int .i64 x, .int .i64 lo, .int .i64 hi] (w.drewN (q + n)) fun e w'' => e = .returned (.bool b) ∧ ∃ n, w'' = w.drewN (q + n) := by
  subst hb
  exact (in_any x lo hi _).mono fun e w' ⟨h1, h2⟩ => ⟨h1, n, h2⟩

set_option maxHeartbeats 1600000 in
theorem specAttrOk_any (v : Value) (a : AttrD) (w : World) (h : AttrAt w v a) (hn : okA a) :
    Calls Tryz.prog 51 #[v] w fun e w' => e = .returned (.bool (attrOk a)) ∧ Below w.heap.size w w' := by
  obtain ⟨vc, vv, rfl, hc, hv⟩ := h
  obtain ⟨oc, cc, rfl, hcc, hcr⟩ := id hc
  obtain ⟨ov, cv, rfl, hvc, hvr⟩ := id hv
  have HCR : Hid (0 < a.cuts.length → ∃ g o, oc = some ⟨g, o, none⟩ ∧ g < w.heap.size ∧ ∀ j, j < a.cuts.length → w.cell? ⟨g, o + j, none⟩ = some (.int .i64 (a.cuts.getD j 0))) := hcr
  have HVR : Hid (RowS w (.slice ov a.vals.length cv) a.vals) := hv
  have HO : Hid (okA a) := hn
  have lc := hn.cuts
  have lv := hn.vals.1
  clear hc hv hcr hvr hn
  have c := fun W => specWord_any a.name W (by have := HO.out.name; omega)
  go_enter Tryz.func51, Tryz.ntmps51
  cases hw : wordOk a.name with
  | false =>
    have HF : Hid (attrOk a = false) := by unfold attrOk; rw [hw]; rfl
    rw [hw] at c
    clear hw
    go_wp2_with fail
    refine (c _).mono ?_
    rintro e w1 ⟨rfl, hb1⟩
    go_wp2
    go_ret
    exact ⟨by rw [HF.out]; rfl, ((Below.refl _ _).alloc (Nat.le_refl _) _).trans (hb1.mono (by simp))⟩
  | true =>
    have HW : Hid (attrOk a = (if a.cuts.length = 0 then choices a.vals 4 else decide (a.vals.length = 0) && (decide (a.cuts.length ≤ 3) && cutsRise a.cuts))) := by unfold attrOk; rw [hw]; rfl
    rw [hw] at c
    clear hw
    go_wp2_with fail
    refine (c _).mono ?_
    rintro e w1 ⟨rfl, hb1⟩
    clear c
    have B1 : Below w.heap.size w w1 := ((Below.refl _ _).alloc (Nat.le_refl _) _).trans (hb1.mono (by simp))
    have K := (Blk.new _ _ _).below hb1
    have k1 := K.cell 1
    have k2 := K.cell 2
    simp at k1 k2
    clear K hb1
    by_cases h0 : a.cuts.length = 0
    · have h0b : ((a.cuts.length : Int) == 0) = true := by simp [h0]
      have HF : Hid (attrOk a = choices a.vals 4) := by rw [HW.out, if_pos h0]; rfl
      clear h0
      go_wp2_with fail
      refine (in_any _ _ _ _).mono ?_
      rintro e w2 ⟨rfl, rfl⟩
      by_cases hl : (2 : Int) ≤ a.vals.length ∧ (a.vals.length : Int) ≤ 4
      · have HG : Hid (choices a.vals 4 = wordsOk a.vals) := by unfold choices; rw [decide_eq_true hl]; rfl
        rw [decide_eq_true hl]
        have c2 := specWords_any _ a.vals w2 (HVR.out.later B1) HO.out.vals
        clear hl
        go_wp2_with fail
        refine c2.mono ?_
        rintro e w3 ⟨rfl, hb2⟩
        go_wp2
        go_ret
        exact ⟨by rw [HF.out, HG.out]; rfl, B1.trans (hb2.mono B1.size)⟩
      · have HG : Hid (choices a.vals 4 = false) := by unfold choices; rw [decide_eq_false hl]; rfl
        rw [decide_eq_false hl]
        clear hl
        go_wp2
        go_ret
        exact ⟨by rw [HF.out, HG.out]; rfl, B1⟩
    · have h0b : ((a.cuts.length : Int) == 0) = false := by simp [h0]
      by_cases hv0 : 0 < a.vals.length
      · have HF : Hid (attrOk a = false) := by rw [HW.out, if_neg h0, decide_eq_false (by omega)]; rfl
        go_wp2
        go_ret
        exact ⟨by rw [HF.out]; rfl, B1⟩
      by_cases h3 : (a.cuts.length : Int) ≤ 3
      rotate_left
      · have HF : Hid (attrOk a = false) := by rw [HW.out, if_neg h0, decide_eq_false (p := a.cuts.length ≤ 3) (by omega)]; exact Bool.and_false _
        go_wp2
        go_ret
        exact ⟨by rw [HF.out]; rfl, B1⟩
      have HC : Hid (attrOk a = cutsRise a.cuts) := by rw [HW.out, if_neg h0, decide_eq_true (p := a.vals.length = 0) (by omega), decide_eq_true (p := a.cuts.length ≤ 3) (by omega)]; rfl
      obtain ⟨g, o, rfl, hg, hj⟩ := HCR.out (by omega)
      have HJ : Hid (∀ j, j < a.cuts.length → w1.cell? ⟨g, o + j, none⟩ = some (.int .i64 (a.cuts.getD j 0))) := fun j hlt => (B1.cell (p := ⟨g, o + j, none⟩) hg).trans (hj j hlt)
      clear hj HCR
      have HH0 : Hid (a.cuts.length ≠ 0) := h0
      clear h0
      generalize a.cuts = cs at *
      go_wp2
      go_loopw [3] (fun i wr => ∃ k q : Nat, i = .int .i64 k ∧ k ≤ cs.length ∧ (∀ j, j < k → cutAt cs j = true) ∧ wr = w1.drewN q) (fun i _ => cs.length - (intOf i).toNat)
      case atStart => exact ⟨0, 0, rfl, by omega, by omega, rfl⟩
      case round =>
        obtain ⟨k, q, rfl, hk, hal, rfl⟩ := hrel
        have HA : Hid (∀ j, j < k → cutAt cs j = true) := hal
        clear hal
        by_cases hlt : k < cs.length
        · have hcell := HJ.out k hlt
          have HP : Hid (k ≠ 0 → w1.cell? ⟨g, o + (k - 1), none⟩ = some (.int .i64 (cs.getD (k - 1) 0))) := fun _ => HJ.out (k - 1) (by omega)
          have Y0 : Hid (k = 0 → -9999 ≤ cs.getD k 0 ∧ cs.getD k 0 ≤ 9998 → cutAt cs k = true) := fun e h => by subst e; exact cutAt_yes0 h
          have Y1 : Hid (-9999 ≤ cs.getD k 0 ∧ cs.getD k 0 ≤ 9998 → cs.getD (k - 1) 0 < cs.getD k 0 → cutAt cs k = true) := cutAt_yes1
          have N1 : Hid (¬ (-9999 ≤ cs.getD k 0 ∧ cs.getD k 0 ≤ 9998) → cutAt cs k = false) := cutAt_no1
          have N2 : Hid (k ≠ 0 → cs.getD k 0 ≤ cs.getD (k - 1) 0 → cutAt cs k = false) := cutAt_no2
          generalize cs.getD k 0 = c at hcell Y0 Y1 N1 N2
          generalize cs.getD (k - 1) 0 = p at HP Y1 N2
          by_cases hr : -9999 ≤ c ∧ c ≤ 9998
          · have cI := in_quiet c (-9999) 9998 true (decide_eq_true hr) w1 q
            by_cases hk0 : ¬ 0 < k
            · have HF : Hid (cutAt cs k = true) := Y0.out (by omega) hr
              clear hr
              go_wp2
              go_quiet (exact cI _)
              all_goals go_wp2
              all_goals go_roundw
              case rel =>
                refine ⟨k + 1, _, by go_num, by omega, ?_, by first | rfl | (simp only [World.drewN_drewN]; rfl)⟩
                intro j hj
                by_cases e : j = k
                · subst e; exact HF.out
                · exact HA.out j (by omega)
              case measure => simp [intOf]; omega
            · obtain ⟨k', rfl⟩ : ∃ k', k = k' + 1 := ⟨k - 1, by omega⟩
              have hcp := HP.out (by omega)
              rw [Nat.add_sub_cancel] at hcp
              have e1 : ((k' + 1 : Nat) : Int) - 1 = (k' : Int) := by omega
              have hk'l : k' < cs.length := by omega
              by_cases hp : c ≤ p
              · have HF : Hid (cutsRise cs = false) := rise_no (k' + 1) hlt (N2.out (by omega) hp)
                clear hr
                go_wp2
                go_quiet (exact cI _)
                all_goals go_wp2
                all_goals go_ret
                all_goals exact ⟨by rw [HC.out, HF.out]; rfl, below_drewN (below_drewN B1 _) _⟩
              · have HF : Hid (cutAt cs (k' + 1) = true) := Y1.out hr (by omega)
                clear hr
                go_wp2
                go_quiet (exact cI _)
                all_goals go_wp2
                all_goals go_roundw
                case rel =>
                  refine ⟨k' + 1 + 1, _, by go_num, by omega, ?_, by first | rfl | (simp only [World.drewN_drewN]; rfl)⟩
                  intro j hj
                  by_cases e : j = k' + 1
                  · subst e; exact HF.out
                  · exact HA.out j (by omega)
                case measure => simp [intOf]; omega
          · have cI := in_quiet c (-9999) 9998 false (decide_eq_false hr) w1 q
            have HF : Hid (cutsRise cs = false) := rise_no k hlt (N1.out hr)
            clear hr
            go_wp2
            go_quiet (exact cI _)
            all_goals go_wp2
            all_goals go_ret
            all_goals exact ⟨by rw [HC.out, HF.out]; rfl, below_drewN (below_drewN B1 _) _⟩
        · have HF : Hid (cutsRise cs = true) := rise_yes fun j hj => HA.out j (by omega)
          go_wp2
          go_ret
          exact ⟨by rw [HC.out, HF.out]; rfl, below_drewN B1 _⟩
end Go.Proofs.YtfekcckckmhioaaGreatDoor
/- How many bins an attribute has, by the specification. -/
namespace Go.Proofs.YtfekcckckmhioaaGreatDoor
open Go.RowKit
set_option maxRecDepth 100000
set_option maxHeartbeats 400000 in
theorem specBins_any (v : Value) (a : AttrD) (w : World) (h : AttrAt w v a) (hn : okA a) :
    Calls Tryz.prog 46 #[v] w fun e w' => e = .returned (.int .i64 (bins a)) ∧ Below w.heap.size w w' := by
  have c := fun W (hW : Below w.heap.size w W) => specAttrOk_any v a W (h.later hW) hn
  have lc := hn.cuts
  have lv := hn.vals.1
  obtain ⟨vc, vv, rfl, hc, hv⟩ := h
  obtain ⟨oc, cc, rfl, hcc, hcr⟩ := hc
  obtain ⟨ov, cv, rfl, hvc, hvr⟩ := hv
  clear hcr hvr hn
  have HB : Hid (∀ o, Below w.heap.size w (w.alloc o)) := fun o => (Below.refl _ _).alloc (Nat.le_refl _) _
  cases hok : attrOk a with
  | false =>
    have HF : Hid (bins a = 0) := by unfold bins; rw [hok]; rfl
    rw [hok] at c
    clear hok
    go_enter Tryz.func46, Tryz.ntmps46
    go_wp2_with fail
    refine (c _ (HB.out _)).mono ?_
    rintro e w1 ⟨rfl, hb1⟩
    go_wp2
    go_ret
    exact ⟨by rw [HF.out]; rfl, (HB.out _).trans (hb1.mono (by simp))⟩
  | true =>
    rw [hok] at c
    have hkind := ok_kind hok
    by_cases h0 : 0 < a.cuts.length
    · have HF : Hid (bins a = a.cuts.length + 1) := by unfold bins; rw [hok, if_pos rfl, if_pos (by omega)]; rfl
      clear hok hkind
      go_enter Tryz.func46, Tryz.ntmps46
      go_wp2_with fail
      refine (c _ (HB.out _)).mono ?_
      rintro e w1 ⟨rfl, hb1⟩
      have K := (Blk.new _ _ _).below hb1
      have B1 := (HB.out _).trans (hb1.mono (by simp))
      have k1 : w1.cell? ⟨w.heap.size, 1, none⟩ = some (.slice oc a.cuts.length cc) := K.cell 1
      have k2 : w1.cell? ⟨w.heap.size, 2, none⟩ = some (.slice ov a.vals.length cv) := K.cell 2
      clear c hb1 K
      go_wp2
      go_ret
      exact ⟨by rw [HF.out]; first | rfl | (congr 1; go_num), B1⟩
    · have HF : Hid (bins a = a.vals.length) := by unfold bins; rw [hok, if_pos rfl, if_neg (by omega)]; rfl
      clear hok hkind
      go_enter Tryz.func46, Tryz.ntmps46
      go_wp2_with fail
      refine (c _ (HB.out _)).mono ?_
      rintro e w1 ⟨rfl, hb1⟩
      have K := (Blk.new _ _ _).below hb1
      have B1 := (HB.out _).trans (hb1.mono (by simp))
      have k1 : w1.cell? ⟨w.heap.size, 1, none⟩ = some (.slice oc a.cuts.length cc) := K.cell 1
      have k2 : w1.cell? ⟨w.heap.size, 2, none⟩ = some (.slice ov a.vals.length cv) := K.cell 2
      clear c hb1 K
      go_wp2
      go_ret
      exact ⟨by rw [HF.out]; rfl, B1⟩
end Go.Proofs.YtfekcckckmhioaaGreatDoor
/- How many bins, how great the cuts. -/
namespace Go.Proofs.YtfekcckckmhioaaGreatDoor
open Go.RowKit
set_option maxRecDepth 100000
theorem bins_le {a : AttrD} (hn : okA a) : 0 ≤ bins a ∧ bins a ≤ 1099511627777 := by
  unfold bins
  have := hn.cuts
  have := hn.vals.1
  split
  · split <;> omega
  · omega
theorem cuts_in {a : AttrD} (hk : attrOk a = true) : ∀ j, j < a.cuts.length → -9999 ≤ a.cuts.getD j 0 ∧ a.cuts.getD j 0 ≤ 9998 := by
  intro j hj
  unfold attrOk at hk
  rw [Bool.and_eq_true] at hk
  have h2 := hk.2
  rw [if_neg (by omega), Bool.and_eq_true, Bool.and_eq_true] at h2
  have h3 := h2.2.2
  unfold cutsRise at h3
  rw [List.all_eq_true] at h3
  exact cutAt_in (h3 j (List.mem_range.2 hj))
end Go.Proofs.YtfekcckckmhioaaGreatDoor
/- Draws of chapter 7: an example of a schema. -/
namespace Go.Proofs.YtfekcckckmhioaaGreatDoor
open Go.RowKit
set_option maxRecDepth 100000
set_option linter.unusedSimpArgs false
theorem OwnS.curW7 {w w' : World} {b g : Nat} {v : Value} {s : SchemaD} (h : OwnS b w v s) (hg : g < b) (hk : w.grownBy w' (some g)) : OwnS b w' v s := by
  obtain ⟨va, vc, rfl, ⟨ys, h1, h2⟩, h3⟩ := h
  exact ⟨va, vc, rfl, ⟨ys, own_curW h1 hg hk, h2.curW hg hk⟩, own_curW h3 hg hk⟩
theorem OwnS.below7 {w w' : World} {b : Nat} {v : Value} {s : SchemaD} (h : OwnS b w v s) (hb : Below w.heap.size w w') : OwnS b w' v s := by
  obtain ⟨va, vc, rfl, h1, h3⟩ := h
  exact ⟨va, vc, rfl, h1.below hb, own_below h3 hb⟩
theorem tinyA.ok7 {a : AttrD} (t : tinyA a) : okA a := ⟨by have := t.name; omega, by have := t.cuts; omega, by have := t.vals; omega, fun s hs => by have := t.each s hs; omega⟩
theorem bins_tiny {a : AttrD} (t : tinyA a) : 0 ≤ bins a ∧ bins a ≤ 5 := by
  have h1 := t.cuts
  have h2 := t.vals
  unfold bins
  split
  · split <;> omega
  · omega
theorem below0_any (g : Nat) (a : Option Addr) (len cap : Nat) (zs : List Int) (n : Nat) (w : World) (hc : IsCur w g a len cap) (hr : IsRow .u8 w a len cap zs) (h2 : n ≤ 256) :
    Calls Tryz.prog 88 #[.pointer (some ⟨g, 0, none⟩), .int .i64 (n : Int)] w fun e w' => ∃ x : Nat, e = .returned (.int .i64 (x : Int)) ∧ (x < n ∨ n = 0 ∧ x = 0) ∧ IsCur w' g a len cap ∧ w.grownBy w' (some g) := by
  by_cases h0 : n = 0
  · subst h0
    go_enter Tryz.func88, Tryz.ntmps88
    go_wp2
    go_ret
    exact ⟨0, rfl, by simp, hc, ⟨rfl, rfl, rfl, Nat.le_refl _, fun _ _ _ => rfl⟩⟩
  · exact (l1Below_any g a len cap zs n w hc hr (by omega) h2).mono fun e w' ⟨x, h1, h3, h4, h5⟩ => ⟨x, h1, .inl h3, h4, h5⟩
/-- How far an example is drawn. -/
def Drawn (s : SchemaD) (l : List Int) (k : Nat) : Prop := l.length = k ∧ ∀ j, j < k → -1 ≤ l.getD j 0 ∧ (l.getD j 0 ≤ bins (ad s.attrs j) - 1 ∨ bins (ad s.attrs j) = 0 ∧ l.getD j 0 = 0)
theorem Drawn.snoc {s : SchemaD} {l : List Int} {k : Nat} {x : Int} (h : Drawn s l k) (h1 : -1 ≤ x) (h2 : x ≤ bins (ad s.attrs k) - 1 ∨ bins (ad s.attrs k) = 0 ∧ x = 0) : Drawn s (l ++ [x]) (k + 1) := by
  refine ⟨by simp [h.1], fun j hj => ?_⟩
  by_cases e : j = k
  · subst e
    have hl := h.1
    have : (l ++ [x]).getD j 0 = x := by simp [List.getD_eq_getElem?_getD, List.getElem?_append_right (show l.length ≤ j by omega), hl]
    rw [this]; exact ⟨h1, h2⟩
  · have hl := h.1
    have : (l ++ [x]).getD j 0 = l.getD j 0 := by simp [List.getD_eq_getElem?_getD, List.getElem?_append_left (show j < l.length by omega)]
    rw [this]; exact h.2 j (by omega)
theorem bins_pos {a : AttrD} (h : attrOk a = true) : 1 ≤ bins a := by
  unfold bins
  rw [if_pos h]
  split
  · omega
  · omega
theorem drawn_ok {s : SchemaD} {l : List Int} {c : Int} (hs : schemaOk s = true) (h : Drawn s l s.attrs.length) (hc0 : 0 ≤ c) (hc1 : c < (s.classes.length : Int)) : exOk s ⟨l, c⟩ = true := by
  have hat : attrsOk s.attrs = true := by
    unfold schemaOk at hs
    rw [Bool.and_eq_true, Bool.and_eq_true] at hs
    exact hs.2.2
  unfold exOk
  rw [hs, decide_eq_true (p := (⟨l, c⟩ : ExD).bins.length = s.attrs.length) h.1, decide_eq_true (p := -1 ≤ (⟨l, c⟩ : ExD).cls ∧ (⟨l, c⟩ : ExD).cls ≤ (s.classes.length : Int) - 1) (by simp only; omega)]
  simp only [Bool.true_and]
  refine binsRight_yes fun j hj => decide_eq_true ?_
  have hj' : j < s.attrs.length := by have := h.1; simp only at hj; omega
  have hk : attrOk (ad s.attrs j) = true := by
    unfold attrsOk at hat
    rw [List.all_eq_true] at hat
    have := hat j (List.mem_range.2 hj')
    unfold attrAt at this
    rw [Bool.and_eq_true] at this
    exact this.1
  have hp := bins_pos hk
  have := h.2 j hj'
  simp only
  omega
set_option maxHeartbeats 6400000 in
theorem right7_any (g : Nat) (a : Option Addr) (len cap : Nat) (zs : List Int) (vs : Value) (s : SchemaD) (b : Nat) (w : World) (hc : IsCur w g a len cap) (hr : IsRow .u8 w a len cap zs) (hs : OwnS b w vs s) (hgb : g < b) (ht : tinyS s) :
    Calls Tryz.prog 91 #[.pointer (some ⟨g, 0, none⟩), vs] w fun e w' => ∃ v d, e = .returned v ∧ OwnE w.heap.size w' v d ∧ d.bins.length = s.attrs.length ∧ (schemaOk s = true → exOk s d = true ∧ 0 ≤ d.cls) ∧ IsCur w' g a len cap ∧ w.grownBy w' (some g) := by
  have hgw : g < w.heap.size := hc.lt
  obtain ⟨i0, hi, hi0, hi1, hi2⟩ := info_parts intInfo
  have HR : Hid (∀ w', w.grownBy w' (some g) → IsRow .u8 w' a len cap zs) := fun w' h => hr.aside hc h
  have HS : Hid (∀ w', w.grownBy w' (some g) → SchemaAt w' vs s) := fun w' h => (hs.curW7 hgb h).at
  have HTN : Hid (tinyS s) := ht
  obtain ⟨va, vc, rfl, ra, rc⟩ := id hs.at
  obtain ⟨oa, ka, rfl, -, -⟩ := id ra
  obtain ⟨oc, kc, rfl, -, -⟩ := id rc
  have la := ht.attrs
  have lc := ht.classes
  clear ra rc
  have g0 : w.grownBy (((w.alloc (.cells #[.slice oa s.attrs.length ka, .slice oc s.classes.length kc] 35)).alloc (.cells #[.slice none 0 0, .int .i64 0] 30)).alloc (.cells #[.slice none 0 0, .int .i64 0] 30)) (some g) := grown_trans (grown_trans (grown_alloc w _ _) (grown_alloc _ _ _)) (grown_alloc _ _ _)
  have c0 := ((hc.alloc (.cells #[.slice oa s.attrs.length ka, .slice oc s.classes.length kc] 35)).alloc (.cells #[.slice none 0 0, .int .i64 0] 30)).alloc (.cells #[.slice none 0 0, .int .i64 0] 30)
  obtain ⟨K1, K2, K3, B0⟩ := blk_3 35 30 30 w #[.slice oa s.attrs.length ka, .slice oc s.classes.length kc] #[.slice none 0 0, .int .i64 0] #[.slice none 0 0, .int .i64 0]
  clear hc hr hs ht B0
  go_enter Tryz.func91, Tryz.ntmps91
  go_wp2
  go_loopw [6, 7] (fun i _ wr => ∃ (k : Nat) (vb : Value) (l : List Int), i = .int .i64 k ∧ k ≤ s.attrs.length ∧ Hid (Drawn s l k) ∧ Blk 35 wr w.heap.size #[.slice oa s.attrs.length ka, .slice oc s.classes.length kc] ∧ Blk 30 wr (w.heap.size + 1) #[.slice none 0 0, .int .i64 0] ∧ Blk 30 wr (w.heap.size + 1 + 1) #[vb, .int .i64 0] ∧ wr.ownsRow (w.heap.size + 3) 3 1 vb k (l.map (Value.int .i64)) ∧ IsCur wr g a len cap ∧ w.grownBy wr (some g)) (fun i _ _ => s.attrs.length - (intOf i).toNat)
  case atStart => exact ⟨0, .slice none 0 0, [], rfl, by omega, ⟨rfl, fun j hj => by omega⟩, K1, K2, K3, ⟨by simp, .inl ⟨rfl, rfl⟩⟩, c0, g0⟩
  case round =>
    obtain ⟨k, vb, l, rfl, hk, HD, A1, A2, A3, own, cu, gr⟩ := hrel
    clear K1 K2 K3 c0 g0
    by_cases hlt : k < s.attrs.length
    · obtain ⟨va', vc', e', rA, -⟩ := HS.out wr gr
      cases e'
      obtain ⟨oa', ka', e', -, hrA⟩ := rA
      cases e'
      obtain ⟨ga, fa, rfl, hga, hjA⟩ := hrA (by omega)
      obtain ⟨x1, x2, p0, p1, p2, r1, r2⟩ := hjA k hlt
      obtain ⟨y1, z1, rfl, -, -⟩ := id r1
      obtain ⟨y2, z2, rfl, -, -⟩ := id r2
      have htA := HTN.out.each _ (ad_mem hlt)
      have q0 : wr.cell? ⟨w.heap.size, 0, none⟩ = some (.slice (some ⟨ga, fa, none⟩) s.attrs.length ka) := A1.cell 0
      have eB := specBins_any (.agg #[.string (ad s.attrs k).name, .slice y1 (ad s.attrs k).cuts.length z1, .slice y2 (ad s.attrs k).vals.length z2]) (ad s.attrs k) wr ⟨_, _, rfl, r1, r2⟩ htA.ok7
      obtain ⟨hb0, hb5⟩ := bins_tiny htA
      obtain ⟨n, hn⟩ := Int.eq_ofNat_of_zero_le hb0
      have HN : Hid (bins (ad s.attrs k) = (n : Int)) := hn
      rw [hn] at eB hb5
      obtain ⟨ov, cv, rfl⟩ := own_slice own
      clear hjA hrA r1 r2 htA hb0 hn hga
      go_wp2_with fail
      refine eB.mono ?_
      clear eB
      rintro e w1 ⟨rfl, hb1⟩
      have gb1 := grown_of_below hb1 (some g)
      have gr1 := grown_trans gr gb1
      have cu1 := cu.kept (grown_of_below hb1 none) (by intro e; cases e)
      have D1 := A1.below hb1
      have D2 := A2.below hb1
      have D3 := A3.below hb1
      have ow1 := own_below own hb1
      clear hb1 gb1 A1 A2 A3 own cu gr p0 p1 p2 q0
      have e1 := below0_any g a len cap zs n w1 cu1 (HR.out _ gr1) (by omega)
      go_wp2_with fail
      refine e1.mono ?_
      clear e1
      rintro e w2 ⟨x, rfl, hx, cu2, h2⟩
      have gr2 := grown_trans gr1 h2
      have E1 := D1.kept h2 (by intro e; injection e; omega)
      have E2 := D2.kept h2 (by intro e; injection e; omega)
      have E3 := D3.kept h2 (by intro e; injection e; omega)
      have ow2 := own_curW ow1 (by omega) h2
      clear h2 gr1 cu1 D1 D2 D3 ow1
      have e1 := once_any g a len cap zs 9 w2 cu2 (HR.out _ gr2) (by decide) (by decide)
      go_wp2_with fail
      refine e1.mono ?_
      clear e1
      rintro e w3 ⟨bb, rfl, cu3, h3⟩
      have gr3 := grown_trans gr2 h3
      have F1 := E1.kept h3 (by intro e; injection e; omega)
      have F2 := E2.kept h3 (by intro e; injection e; omega)
      have F3 := E3.kept h3 (by intro e; injection e; omega)
      have ow3 := own_curW ow2 (by omega) h3
      have q3 : w3.cell? ⟨w.heap.size + 1 + 1, 0, none⟩ = some (.slice ov k cv) := F3.cell 0
      have hl3 := F3.lt
      clear h3 gr2 cu2 E1 E2 E3 ow2
      cases bb with
      | true =>
        have HN2 : Hid (Drawn s (l ++ [(-1)]) (k + 1)) := HD.out.snoc (by omega) (.inl (by rw [HN.out]; omega))
        go_wp2_with (at_builtin; refine wpList_append_own _ rfl _ _ 28 rfl (w.heap.size + 3) 3 i0 (.int .i64 0) 1 8 Tryz.underlying28 hi hi0 hi1 hi2 rfl (by decide) _ _ _ rfl (ow3.alloc _) ⟨w3.heap.size, 0, none⟩ 1 1 [_] rfl rfl (newc _ _ _) ?d2 ?d3 ?d4 ?d5 ?_)
        case d2 => intro u hu; simp at hu; subst hu; rfl
        case d3 => unfold maxLen; omega
        case d4 => omega
        case d5 => simp; omega
        intro v' w5 hown' hgrow _
        obtain ⟨ov', cv', rfl⟩ := own_slice hown'
        have hne : ∀ j, (Value.slice ov k cv).ownBlock = some j → w.heap.size + 3 ≤ j := fun j hj => (ow3.lt j hj).1
        have G1 := (F1.alloc (.cells #[.int .i64 (-1)] 3)).kept hgrow (fun e => by have := hne _ e; omega)
        have G2 := (F2.alloc (.cells #[.int .i64 (-1)] 3)).kept hgrow (fun e => by have := hne _ e; omega)
        have G3 := (F3.alloc (.cells #[.int .i64 (-1)] 3)).kept hgrow (fun e => by have := hne _ e; omega)
        have cu5 := (cu3.alloc (.cells #[.int .i64 (-1)] 3)).kept hgrow (fun e => by have := hne _ e; omega)
        have gr5 := grown_own (grown_trans gr3 (grown_alloc w3 (.cells #[.int .i64 (-1)] 3) _)) hgrow (fun j e => by have := hne _ e; omega)
        have R : w5.ownsRow (w.heap.size + 3) 3 1 (.slice ov' (k + 1) cv') (k + 1) ((l ++ [(-1)]).map (Value.int .i64)) := by simpa using hown'
        have f5 := G3.frozen 0
        have q5 : w5.cell? ⟨w.heap.size + 1 + 1, 0, none⟩ = some (.slice ov k cv) := G3.cell 0
        have HFIN : Hid (Blk 35 (w5.setCell ⟨w.heap.size + 1 + 1, 0, none⟩ (.slice ov' (k + 1) cv')) w.heap.size #[.slice (some ⟨ga, fa, none⟩) s.attrs.length ka, .slice oc s.classes.length kc] ∧ Blk 30 (w5.setCell ⟨w.heap.size + 1 + 1, 0, none⟩ (.slice ov' (k + 1) cv')) (w.heap.size + 1) #[.slice none 0 0, .int .i64 0] ∧ Blk 30 (w5.setCell ⟨w.heap.size + 1 + 1, 0, none⟩ (.slice ov' (k + 1) cv')) (w.heap.size + 1 + 1) #[.slice ov' (k + 1) cv', .int .i64 0] ∧ (w5.setCell ⟨w.heap.size + 1 + 1, 0, none⟩ (.slice ov' (k + 1) cv')).ownsRow (w.heap.size + 3) 3 1 (.slice ov' (k + 1) cv') (k + 1) ((l ++ [(-1)]).map (Value.int .i64)) ∧ IsCur (w5.setCell ⟨w.heap.size + 1 + 1, 0, none⟩ (.slice ov' (k + 1) cv')) g a len cap ∧ w.grownBy (w5.setCell ⟨w.heap.size + 1 + 1, 0, none⟩ (.slice ov' (k + 1) cv')) (some g)) :=
          ⟨G1.setCell_other _ _ (by simp; omega), G2.setCell_other _ _ (by simp), G3.setCell 0 _, own_setCell R _ _ (by simp), cu5.cellW 0 _ (by omega), grown_cell gr5 (by omega) _⟩
        clear hown' hgrow ow3 F1 F2 F3 G1 G2 G3 cu3 cu5 gr3 gr5 R q3 hne
        go_wp2
        go_roundw
        case rel => exact ⟨k + 1, _, _, by go_num, by omega, HN2, HFIN.out.1, HFIN.out.2.1, HFIN.out.2.2.1, HFIN.out.2.2.2.1, HFIN.out.2.2.2.2.1, HFIN.out.2.2.2.2.2⟩
        case measure => simp [intOf]; omega
      | false =>
        have HN2 : Hid (Drawn s (l ++ [(x : Int)]) (k + 1)) := HD.out.snoc (show -1 ≤ ((x : Int) : Int) by omega) (by rw [HN.out]; omega)
        go_wp2_with (at_builtin; refine wpList_append_own _ rfl _ _ 28 rfl (w.heap.size + 3) 3 i0 (.int .i64 0) 1 8 Tryz.underlying28 hi hi0 hi1 hi2 rfl (by decide) _ _ _ rfl (ow3.alloc _) ⟨w3.heap.size, 0, none⟩ 1 1 [_] rfl rfl (newc _ _ _) ?d2 ?d3 ?d4 ?d5 ?_)
        case d2 => intro u hu; simp at hu; subst hu; rfl
        case d3 => unfold maxLen; omega
        case d4 => omega
        case d5 => simp; omega
        intro v' w5 hown' hgrow _
        obtain ⟨ov', cv', rfl⟩ := own_slice hown'
        have hne : ∀ j, (Value.slice ov k cv).ownBlock = some j → w.heap.size + 3 ≤ j := fun j hj => (ow3.lt j hj).1
        have G1 := (F1.alloc (.cells #[.int .i64 (x : Int)] 3)).kept hgrow (fun e => by have := hne _ e; omega)
        have G2 := (F2.alloc (.cells #[.int .i64 (x : Int)] 3)).kept hgrow (fun e => by have := hne _ e; omega)
        have G3 := (F3.alloc (.cells #[.int .i64 (x : Int)] 3)).kept hgrow (fun e => by have := hne _ e; omega)
        have cu5 := (cu3.alloc (.cells #[.int .i64 (x : Int)] 3)).kept hgrow (fun e => by have := hne _ e; omega)
        have gr5 := grown_own (grown_trans gr3 (grown_alloc w3 (.cells #[.int .i64 (x : Int)] 3) _)) hgrow (fun j e => by have := hne _ e; omega)
        have R : w5.ownsRow (w.heap.size + 3) 3 1 (.slice ov' (k + 1) cv') (k + 1) ((l ++ [(x : Int)]).map (Value.int .i64)) := by simpa using hown'
        have f5 := G3.frozen 0
        have q5 : w5.cell? ⟨w.heap.size + 1 + 1, 0, none⟩ = some (.slice ov k cv) := G3.cell 0
        have HFIN : Hid (Blk 35 (w5.setCell ⟨w.heap.size + 1 + 1, 0, none⟩ (.slice ov' (k + 1) cv')) w.heap.size #[.slice (some ⟨ga, fa, none⟩) s.attrs.length ka, .slice oc s.classes.length kc] ∧ Blk 30 (w5.setCell ⟨w.heap.size + 1 + 1, 0, none⟩ (.slice ov' (k + 1) cv')) (w.heap.size + 1) #[.slice none 0 0, .int .i64 0] ∧ Blk 30 (w5.setCell ⟨w.heap.size + 1 + 1, 0, none⟩ (.slice ov' (k + 1) cv')) (w.heap.size + 1 + 1) #[.slice ov' (k + 1) cv', .int .i64 0] ∧ (w5.setCell ⟨w.heap.size + 1 + 1, 0, none⟩ (.slice ov' (k + 1) cv')).ownsRow (w.heap.size + 3) 3 1 (.slice ov' (k + 1) cv') (k + 1) ((l ++ [(x : Int)]).map (Value.int .i64)) ∧ IsCur (w5.setCell ⟨w.heap.size + 1 + 1, 0, none⟩ (.slice ov' (k + 1) cv')) g a len cap ∧ w.grownBy (w5.setCell ⟨w.heap.size + 1 + 1, 0, none⟩ (.slice ov' (k + 1) cv')) (some g)) :=
          ⟨G1.setCell_other _ _ (by simp; omega), G2.setCell_other _ _ (by simp), G3.setCell 0 _, own_setCell R _ _ (by simp), cu5.cellW 0 _ (by omega), grown_cell gr5 (by omega) _⟩
        clear hown' hgrow ow3 F1 F2 F3 G1 G2 G3 cu3 cu5 gr3 gr5 R q3 hne
        go_wp2
        go_roundw
        case rel => exact ⟨k + 1, _, _, by go_num, by omega, HN2, HFIN.out.1, HFIN.out.2.1, HFIN.out.2.2.1, HFIN.out.2.2.2.1, HFIN.out.2.2.2.2.1, HFIN.out.2.2.2.2.2⟩
        case measure => simp [intOf]; omega
    · obtain rfl : k = s.attrs.length := by omega
      have q0 : wr.cell? ⟨w.heap.size, 0, none⟩ = some (.slice oa s.attrs.length ka) := A1.cell 0
      have q1 : wr.cell? ⟨w.heap.size, 1, none⟩ = some (.slice oc s.classes.length kc) := A1.cell 1
      have e1 := below0_any g a len cap zs s.classes.length wr cu (HR.out _ gr) (by omega)
      obtain ⟨ov, cv, rfl⟩ := own_slice own
      go_wp2_with fail
      refine e1.mono ?_
      clear e1
      rintro e w1 ⟨x, rfl, hx, cu1, h1⟩
      have gr1 := grown_trans gr h1
      have D1 := A1.kept h1 (by intro e; injection e; omega)
      have D2 := A2.kept h1 (by intro e; injection e; omega)
      have D3 := A3.kept h1 (by intro e; injection e; omega)
      have ow1 := own_curW own (by omega) h1
      clear h1 gr cu A1 A2 A3 own q0 q1
      have q1 : w1.cell? ⟨w.heap.size + 1 + 1, 1, none⟩ = some (.int .i64 0) := D3.cell 1
      have f1 := D3.frozen 1
      have E1 := D1.setCell_other ⟨w.heap.size + 1 + 1, 1, none⟩ (.int .i64 (x : Int)) (by simp; omega)
      have E2 := D2.setCell_other ⟨w.heap.size + 1 + 1, 1, none⟩ (.int .i64 (x : Int)) (by simp)
      have E3 := D3.setCell 1 (.int .i64 (x : Int))
      have ow2 := own_setCell ow1 ⟨w.heap.size + 1 + 1, 1, none⟩ (.int .i64 (x : Int)) (by simp)
      have cu2 := cu1.cellW (p := w.heap.size + 1 + 1) 1 (.int .i64 (x : Int)) (by omega)
      have gr2 := grown_cell gr1 (p := w.heap.size + 1 + 1) (k := 1) (by omega) (.int .i64 (x : Int))
      clear D1 D2 D3 ow1 cu1 gr1
      have q2 : (w1.setCell ⟨w.heap.size + 1 + 1, 1, none⟩ (.int .i64 (x : Int))).cell? ⟨w.heap.size + 1 + 1, 0, none⟩ = some (.slice ov s.attrs.length cv) := E3.cell 0
      have hDL := HD.out.1
      have HDL : Hid (l.length = s.attrs.length) := hDL
      clear hDL
      have HX : Hid (∀ y : Int, (y = x ∨ 0 ≤ y ∧ y < (s.classes.length : Int)) → schemaOk s = true → exOk s ⟨l, y⟩ = true ∧ 0 ≤ y) := fun y hy hs => by
        have h2 : 2 ≤ s.classes.length := by
          unfold schemaOk choices at hs
          rw [Bool.and_eq_true, Bool.and_eq_true, Bool.and_eq_true] at hs
          have := of_decide_eq_true hs.2.1.1
          omega
        have h1 : 0 ≤ y ∧ y < (s.classes.length : Int) := by
          rcases hy with rfl | hy
          · omega
          · exact hy
        exact ⟨drawn_ok hs HD.out h1.1 h1.2, h1.1⟩
      by_cases h0 : 0 < s.attrs.length
      rotate_left
      · have hz : ¬ (0 : Int) < (s.attrs.length : Int) := by omega
        go_wp2_with (first | (with_reducible refine wp_ex_load rfl _ rfl ?_; refine ⟨_, rfl, _, _, E3, ?_⟩) | (with_reducible refine wp_ex_store rfl _ _ rfl ?_; refine ⟨_, rfl, _, _, _, _, rfl, _, _, E2, ?_⟩))
        exact bodyPost_ret (res_ex rfl _ _ _ _ _ rfl (E2.setRow _)) rfl ⟨_, ⟨l, (x : Int)⟩, rfl, ⟨_, rfl, show (_ : World).ownsRow _ _ _ _ l.length _ by rw [HDL.out]; exact own_base (own_setRow ow2 _ _ (by omega)) (by omega)⟩, HDL.out, HX.out _ (.inl rfl), cu2.rowW _ (by omega), grown_row gr2 (by omega) _⟩
      have hz : (0 : Int) < (s.attrs.length : Int) := by omega
      have e1 := once_any g a len cap zs 5 (w1.setCell ⟨w.heap.size + 1 + 1, 1, none⟩ (.int .i64 (x : Int))) cu2 (HR.out _ gr2) (by decide) (by decide)
      go_wp2_with fail
      refine e1.mono ?_
      clear e1
      rintro e w3 ⟨bb, rfl, cu3, h3⟩
      have gr3 := grown_trans gr2 h3
      have F1 := E1.kept h3 (by intro e; injection e; omega)
      have F2 := E2.kept h3 (by intro e; injection e; omega)
      have F3 := E3.kept h3 (by intro e; injection e; omega)
      have ow3 := own_curW ow2 (by omega) h3
      clear h3 gr2 cu2 E1 E2 E3 ow2 q1 q2 f1
      cases bb with
      | true =>
        go_wp2_with (first | (with_reducible refine wp_ex_load rfl _ rfl ?_; refine ⟨_, rfl, _, _, F3, ?_⟩) | (with_reducible refine wp_ex_store rfl _ _ rfl ?_; refine ⟨_, rfl, _, _, _, _, rfl, _, _, F2, ?_⟩))
        exact bodyPost_ret (res_ex rfl _ _ _ _ _ rfl (F2.setRow _)) rfl ⟨_, ⟨l, (x : Int)⟩, rfl, ⟨_, rfl, show (_ : World).ownsRow _ _ _ _ l.length _ by rw [HDL.out]; exact own_base (own_setRow ow3 _ _ (by omega)) (by omega)⟩, HDL.out, HX.out _ (.inl rfl), cu3.rowW _ (by omega), grown_row gr3 (by omega) _⟩
      | false =>
        have q3 : w3.cell? ⟨w.heap.size, 1, none⟩ = some (.slice oc s.classes.length kc) := F1.cell 1
        by_cases hcl : 0 < s.classes.length
        rotate_left
        · have hcz : ¬ (0 : Int) < (s.classes.length : Int) := by omega
          go_wp2_with (first | (with_reducible refine wp_ex_load rfl _ rfl ?_; refine ⟨_, rfl, _, _, F3, ?_⟩) | (with_reducible refine wp_ex_store rfl _ _ rfl ?_; refine ⟨_, rfl, _, _, _, _, rfl, _, _, F2, ?_⟩))
          exact bodyPost_ret (res_ex rfl _ _ _ _ _ rfl (F2.setRow _)) rfl ⟨_, ⟨l, (x : Int)⟩, rfl, ⟨_, rfl, show (_ : World).ownsRow _ _ _ _ l.length _ by rw [HDL.out]; exact own_base (own_setRow ow3 _ _ (by omega)) (by omega)⟩, HDL.out, HX.out _ (.inl rfl), cu3.rowW _ (by omega), grown_row gr3 (by omega) _⟩
        have hcz : (0 : Int) < (s.classes.length : Int) := by omega
        have hb := HD.out.2 0 h0
        obtain ⟨m, hm⟩ : ∃ m : Nat, l.getD 0 0 = (m : Int) - 1 := ⟨(l.getD 0 0 + 1).toNat, by omega⟩
        have hm6 : m ≤ 6 := by
          have := (bins_tiny (HTN.out.each _ (ad_mem h0))).2
          omega
        obtain ⟨go, fo, hov, hcell0⟩ : ∃ go fo, ov = some ⟨go, fo, none⟩ ∧ w3.cell? ⟨go, fo, none⟩ = some (.int .i64 ((m : Int) - 1)) := by
          have hrow := RowI.of_own ow3 HDL.out
          obtain ⟨o', c', e', -, hr'⟩ := hrow
          injection e' with e1 e2 e3
          obtain ⟨go, fo, e4, -, hj⟩ := hr' (by have := HDL.out; omega)
          have := hj 0 (by have := HDL.out; omega)
          rw [hm, Nat.add_zero] at this
          exact ⟨go, fo, by rw [e1, e4], this⟩
        subst hov
        clear hb hm
        have d0 : w3.drew.cell? ⟨go, fo, none⟩ = some (.int .i64 ((m : Int) - 1)) := hcell0
        have d1 : w3.drew.cell? ⟨w.heap.size, 1, none⟩ = some (.slice oc s.classes.length kc) := q3
        have d2 : w3.drew.cell? ⟨w.heap.size + 1 + 1, 0, none⟩ = some (.slice (some ⟨go, fo, none⟩) s.attrs.length cv) := F3.cell 0
        have d3 : w3.drew.cell? ⟨w.heap.size + 1 + 1, 1, none⟩ = some (.int .i64 (x : Int)) := F3.cell 1
        have f3 : w3.drew.frozen? ⟨w.heap.size + 1 + 1, 1, none⟩ = false := F3.frozen 1
        have q4 : w3.cell? ⟨w.heap.size + 1 + 1, 0, none⟩ = some (.slice (some ⟨go, fo, none⟩) s.attrs.length cv) := F3.cell 0
        have hcn : ¬ s.classes = [] := fun e => by rw [e] at hcl; simp at hcl
        have hwm : IntKind.i64.wrap (m : Int) = (m : Int) := by rw [IntKind.wrap_i64]; omega
        have htm : (m : Int).tmod (s.classes.length : Int) = ((m % s.classes.length : Nat) : Int) := by rfl
        have hyl := Nat.mod_lt m hcl
        generalize m % s.classes.length = y at htm hyl
        have L2 : Blk 30 (w3.setCell ⟨w.heap.size + 1 + 1, 1, none⟩ (.int .i64 (y : Int))).drew (w.heap.size + 1) #[.slice none 0 0, .int .i64 0] := F2.setCell_other ⟨w.heap.size + 1 + 1, 1, none⟩ (.int .i64 (y : Int)) (by simp)
        have L3 : Blk 30 (w3.setCell ⟨w.heap.size + 1 + 1, 1, none⟩ (.int .i64 (y : Int))).drew (w.heap.size + 1 + 1) #[.slice (some ⟨go, fo, none⟩) s.attrs.length cv, .int .i64 (y : Int)] := F3.setCell 1 (.int .i64 (y : Int))
        have ow5 : (w3.setCell ⟨w.heap.size + 1 + 1, 1, none⟩ (.int .i64 (y : Int))).drew.ownsRow (w.heap.size + 3) 3 1 (.slice (some ⟨go, fo, none⟩) s.attrs.length cv) s.attrs.length (l.map (Value.int .i64)) := own_setCell ow3 ⟨w.heap.size + 1 + 1, 1, none⟩ (.int .i64 (y : Int)) (by simp)
        have cu5 : IsCur (w3.setCell ⟨w.heap.size + 1 + 1, 1, none⟩ (.int .i64 (y : Int))).drew g a len cap := cu3.cellW (p := w.heap.size + 1 + 1) 1 (.int .i64 (y : Int)) (by omega)
        have gr4 := grown_cell gr3 (p := w.heap.size + 1 + 1) (k := 1) (by omega) (.int .i64 (y : Int))
        have gr5 : w.grownBy (w3.setCell ⟨w.heap.size + 1 + 1, 1, none⟩ (.int .i64 (y : Int))).drew (some g) := ⟨gr4.os, gr4.tape, gr4.output, gr4.size, gr4.block⟩
        clear gr4 F1 F2 F3 ow3 cu3 gr3 hcell0
        go_wp2
        go_region_law (fail)
        all_goals
          clear d0 d1 d2 d3 f3 q4 q3
          go_wp2_with (first | (with_reducible refine wp_ex_load rfl _ rfl ?_; refine ⟨_, rfl, _, _, L3, ?_⟩) | (with_reducible refine wp_ex_store rfl _ _ rfl ?_; refine ⟨_, rfl, _, _, _, _, rfl, _, _, L2, ?_⟩))
          exact bodyPost_ret (res_ex rfl _ _ _ _ _ rfl (L2.setRow _)) rfl ⟨_, ⟨l, (y : Int)⟩, rfl, ⟨_, rfl, show (_ : World).ownsRow _ _ _ _ l.length _ by rw [HDL.out]; exact own_base (own_setRow ow5 _ _ (by omega)) (by omega)⟩, HDL.out, HX.out _ (.inr ⟨by omega, by omega⟩), cu5.rowW _ (by omega), grown_row gr5 (by omega) _⟩
end Go.Proofs.YtfekcckckmhioaaGreatDoor
