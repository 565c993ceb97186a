/- Texts of this claim, put together: part 11. -/
import Derived.Test.YtobimpgapfecoaaStatsOkPack3
import Derived.Test.YtobimpgapfecoaaStatsOkPack10
import Derived.Test.YtobimpgapfecoaaStatsOkPack2
/- An attribute, by the specification; its bins, by both. -/
namespace Go.Proofs.Ytobimpgapfecoaa
open Go.RowKit
set_option maxRecDepth 100000

theorem cutAt_no1 {cs : List Int} {k : Nat} (h : ¬ (-9999 ≤ cs.getD k 0 ∧ cs.getD k 0 ≤ 9998)) : cutAt cs k = false := by unfold cutAt; rw [decide_eq_false h]; rfl
theorem cutAt_no2 {cs : List Int} {k : Nat} (h0 : k ≠ 0) (h : cs.getD k 0 ≤ cs.getD (k - 1) 0) : cutAt cs k = false := by
  unfold cutAt
  rw [decide_eq_false h0, decide_eq_false (Int.not_lt.2 h)]; simp
theorem cutAt_yes0 {cs : List Int} (h : -9999 ≤ cs.getD 0 0 ∧ cs.getD 0 0 ≤ 9998) : cutAt cs 0 = true := by unfold cutAt; rw [decide_eq_true h]; rfl
theorem cutAt_yes1 {cs : List Int} {k : Nat} (h : -9999 ≤ cs.getD k 0 ∧ cs.getD k 0 ≤ 9998) (h1 : cs.getD (k - 1) 0 < cs.getD k 0) : cutAt cs k = true := by
  unfold cutAt; rw [decide_eq_true h, decide_eq_true h1]; simp

theorem in_quiet (x lo hi : Int) (b : Bool) (hb : decide (lo ≤ x ∧ x ≤ hi) = b) (w : World) (q n : Nat) : Calls Try.prog 55 #[.int .i64 x, .int .i64 lo, .int .i64 hi] (w.drewN (q + n)) fun e w'' => e = .returned (.bool b) ∧ ∃ n, w'' = w.drewN (q + n) := by
  subst hb
  exact (in_any x lo hi _).mono fun e w' ⟨h1, h2⟩ => ⟨h1, n, h2⟩

set_option maxHeartbeats 1600000 in
theorem specAttrOk_any (v : Value) (a : AttrD) (w : World) (h : AttrAt w v a) (hn : okA a) :
    Calls Try.prog 68 #[v] w fun e w' => e = .returned (.bool (attrOk a)) ∧ Below w.heap.size w w' := by
  obtain ⟨vc, vv, rfl, hc, hv⟩ := h
  obtain ⟨oc, cc, rfl, hcc, hcr⟩ := id hc
  obtain ⟨ov, cv, rfl, hvc, hvr⟩ := id hv
  have HCR : Hid (0 < a.cuts.length → ∃ g o, oc = some ⟨g, o, none⟩ ∧ g < w.heap.size ∧ ∀ j, j < a.cuts.length → w.cell? ⟨g, o + j, none⟩ = some (.int .i64 (a.cuts.getD j 0))) := hcr
  have HVR : Hid (RowS w (.slice ov a.vals.length cv) a.vals) := hv
  have HO : Hid (okA a) := hn
  have lc := hn.cuts
  have lv := hn.vals.1
  clear hc hv hcr hvr hn
  have c := fun W => specWord_any a.name W (by have := HO.out.name; omega)
  go_enter Try.func68, Try.ntmps68
  cases hw : wordOk a.name with
  | false =>
    have HF : Hid (attrOk a = false) := by unfold attrOk; rw [hw]; rfl
    rw [hw] at c
    clear hw
    go_wp2_with fail
    refine (c _).mono ?_
    rintro e w1 ⟨rfl, hb1⟩
    go_wp2
    go_ret
    exact ⟨by rw [HF.out]; rfl, ((Below.refl _ _).alloc (Nat.le_refl _) _).trans (hb1.mono (by simp))⟩
  | true =>
    have HW : Hid (attrOk a = (if a.cuts.length = 0 then choices a.vals 4 else decide (a.vals.length = 0) && (decide (a.cuts.length ≤ 3) && cutsRise a.cuts))) := by unfold attrOk; rw [hw]; rfl
    rw [hw] at c
    clear hw
    go_wp2_with fail
    refine (c _).mono ?_
    rintro e w1 ⟨rfl, hb1⟩
    clear c
    have B1 : Below w.heap.size w w1 := ((Below.refl _ _).alloc (Nat.le_refl _) _).trans (hb1.mono (by simp))
    have K := (Blk.new _ _ _).below hb1
    have k1 := K.cell 1
    have k2 := K.cell 2
    simp at k1 k2
    clear K hb1
    by_cases h0 : a.cuts.length = 0
    · have h0b : ((a.cuts.length : Int) == 0) = true := by simp [h0]
      have HF : Hid (attrOk a = choices a.vals 4) := by rw [HW.out, if_pos h0]; rfl
      clear h0
      go_wp2_with fail
      refine (in_any _ _ _ _).mono ?_
      rintro e w2 ⟨rfl, rfl⟩
      by_cases hl : (2 : Int) ≤ a.vals.length ∧ (a.vals.length : Int) ≤ 4
      · have HG : Hid (choices a.vals 4 = wordsOk a.vals) := by unfold choices; rw [decide_eq_true hl]; rfl
        rw [decide_eq_true hl]
        have c2 := specWords_any _ a.vals w2 (HVR.out.later B1) HO.out.vals
        clear hl
        go_wp2_with fail
        refine c2.mono ?_
        rintro e w3 ⟨rfl, hb2⟩
        go_wp2
        go_ret
        exact ⟨by rw [HF.out, HG.out]; rfl, B1.trans (hb2.mono B1.size)⟩
      · have HG : Hid (choices a.vals 4 = false) := by unfold choices; rw [decide_eq_false hl]; rfl
        rw [decide_eq_false hl]
        clear hl
        go_wp2
        go_ret
        exact ⟨by rw [HF.out, HG.out]; rfl, B1⟩
    · have h0b : ((a.cuts.length : Int) == 0) = false := by simp [h0]
      by_cases hv0 : 0 < a.vals.length
      · have HF : Hid (attrOk a = false) := by rw [HW.out, if_neg h0, decide_eq_false (by omega)]; rfl
        go_wp2
        go_ret
        exact ⟨by rw [HF.out]; rfl, B1⟩
      by_cases h3 : (a.cuts.length : Int) ≤ 3
      rotate_left
      · have HF : Hid (attrOk a = false) := by rw [HW.out, if_neg h0, decide_eq_false (p := a.cuts.length ≤ 3) (by omega)]; exact Bool.and_false _
        go_wp2
        go_ret
        exact ⟨by rw [HF.out]; rfl, B1⟩
      have HC : Hid (attrOk a = cutsRise a.cuts) := by rw [HW.out, if_neg h0, decide_eq_true (p := a.vals.length = 0) (by omega), decide_eq_true (p := a.cuts.length ≤ 3) (by omega)]; rfl
      obtain ⟨g, o, rfl, hg, hj⟩ := HCR.out (by omega)
      have HJ : Hid (∀ j, j < a.cuts.length → w1.cell? ⟨g, o + j, none⟩ = some (.int .i64 (a.cuts.getD j 0))) := fun j hlt => (B1.cell (p := ⟨g, o + j, none⟩) hg).trans (hj j hlt)
      clear hj HCR
      have HH0 : Hid (a.cuts.length ≠ 0) := h0
      clear h0
      generalize a.cuts = cs at *
      go_wp2
      go_loopw [3] (fun i wr => ∃ k q : Nat, i = .int .i64 k ∧ k ≤ cs.length ∧ (∀ j, j < k → cutAt cs j = true) ∧ wr = w1.drewN q) (fun i _ => cs.length - (intOf i).toNat)
      case atStart => exact ⟨0, 0, rfl, by omega, by omega, rfl⟩
      case round =>
        obtain ⟨k, q, rfl, hk, hal, rfl⟩ := hrel
        have HA : Hid (∀ j, j < k → cutAt cs j = true) := hal
        clear hal
        by_cases hlt : k < cs.length
        · have hcell := HJ.out k hlt
          have HP : Hid (k ≠ 0 → w1.cell? ⟨g, o + (k - 1), none⟩ = some (.int .i64 (cs.getD (k - 1) 0))) := fun _ => HJ.out (k - 1) (by omega)
          have Y0 : Hid (k = 0 → -9999 ≤ cs.getD k 0 ∧ cs.getD k 0 ≤ 9998 → cutAt cs k = true) := fun e h => by subst e; exact cutAt_yes0 h
          have Y1 : Hid (-9999 ≤ cs.getD k 0 ∧ cs.getD k 0 ≤ 9998 → cs.getD (k - 1) 0 < cs.getD k 0 → cutAt cs k = true) := cutAt_yes1
          have N1 : Hid (¬ (-9999 ≤ cs.getD k 0 ∧ cs.getD k 0 ≤ 9998) → cutAt cs k = false) := cutAt_no1
          have N2 : Hid (k ≠ 0 → cs.getD k 0 ≤ cs.getD (k - 1) 0 → cutAt cs k = false) := cutAt_no2
          generalize cs.getD k 0 = c at hcell Y0 Y1 N1 N2
          generalize cs.getD (k - 1) 0 = p at HP Y1 N2
          by_cases hr : -9999 ≤ c ∧ c ≤ 9998
          · have cI := in_quiet c (-9999) 9998 true (decide_eq_true hr) w1 q
            by_cases hk0 : ¬ 0 < k
            · have HF : Hid (cutAt cs k = true) := Y0.out (by omega) hr
              clear hr
              go_wp2
              go_quiet (exact cI _)
              all_goals go_wp2
              all_goals go_roundw
              case rel =>
                refine ⟨k + 1, _, by go_num, by omega, ?_, by first | rfl | (simp only [World.drewN_drewN]; rfl)⟩
                intro j hj
                by_cases e : j = k
                · subst e; exact HF.out
                · exact HA.out j (by omega)
              case measure => simp [intOf]; omega
            · obtain ⟨k', rfl⟩ : ∃ k', k = k' + 1 := ⟨k - 1, by omega⟩
              have hcp := HP.out (by omega)
              rw [Nat.add_sub_cancel] at hcp
              have e1 : ((k' + 1 : Nat) : Int) - 1 = (k' : Int) := by omega
              have hk'l : k' < cs.length := by omega
              by_cases hp : c ≤ p
              · have HF : Hid (cutsRise cs = false) := rise_no (k' + 1) hlt (N2.out (by omega) hp)
                clear hr
                go_wp2
                go_quiet (exact cI _)
                all_goals go_wp2
                all_goals go_ret
                all_goals exact ⟨by rw [HC.out, HF.out]; rfl, below_drewN (below_drewN B1 _) _⟩
              · have HF : Hid (cutAt cs (k' + 1) = true) := Y1.out hr (by omega)
                clear hr
                go_wp2
                go_quiet (exact cI _)
                all_goals go_wp2
                all_goals go_roundw
                case rel =>
                  refine ⟨k' + 1 + 1, _, by go_num, by omega, ?_, by first | rfl | (simp only [World.drewN_drewN]; rfl)⟩
                  intro j hj
                  by_cases e : j = k' + 1
                  · subst e; exact HF.out
                  · exact HA.out j (by omega)
                case measure => simp [intOf]; omega
          · have cI := in_quiet c (-9999) 9998 false (decide_eq_false hr) w1 q
            have HF : Hid (cutsRise cs = false) := rise_no k hlt (N1.out hr)
            clear hr
            go_wp2
            go_quiet (exact cI _)
            all_goals go_wp2
            all_goals go_ret
            all_goals exact ⟨by rw [HC.out, HF.out]; rfl, below_drewN (below_drewN B1 _) _⟩
        · have HF : Hid (cutsRise cs = true) := rise_yes fun j hj => HA.out j (by omega)
          go_wp2
          go_ret
          exact ⟨by rw [HC.out, HF.out]; rfl, below_drewN B1 _⟩
end Go.Proofs.Ytobimpgapfecoaa
/- Whether an attribute is nominal, by the program. -/
namespace Go.Proofs.Ytobimpgapfecoaa
open Go.RowKit
set_option maxRecDepth 100000

theorem nominal_any (v : Value) (a : AttrD) (w : World) (h : AttrAt w v a) : Calls Try.prog 105 #[v] w fun e w' => e = .returned (.bool (decide (0 < a.vals.length))) ∧ Below w.heap.size w w' := by
  obtain ⟨vc, vv, rfl, hc, hv⟩ := h
  obtain ⟨ov, cv, rfl, hvc, hvr⟩ := hv
  clear hvr hc
  go_enter Try.func105, Try.ntmps105
  go_wp2
  go_ret
  exact ⟨rfl, (Below.refl _ _).alloc (Nat.le_refl _) _⟩
end Go.Proofs.Ytobimpgapfecoaa
/- Ascending numbers within two bounds, in plain words. -/
namespace Go.Proofs.Ytobimpgapfecoaa
open Go.RowKit
set_option maxRecDepth 100000
def ascAt (lo hi : Int) (cs : List Int) (i : Nat) : Bool := decide (lo ≤ cs.getD i 0 ∧ cs.getD i 0 ≤ hi) && (decide (i = 0) || decide (cs.getD (i - 1) 0 < cs.getD i 0))
def ascIn (lo hi : Int) (cs : List Int) : Bool := (List.range cs.length).all (ascAt lo hi cs)
/-- The least that the next number may be. -/
def leastOf (lo : Int) (cs : List Int) (k : Nat) : Int := if k = 0 then lo else cs.getD (k - 1) 0 + 1
theorem cuts_asc (cs : List Int) : cutsRise cs = ascIn (-9999) 9998 cs := rfl
theorem asc_in {lo hi : Int} {cs : List Int} {i : Nat} (h : ascAt lo hi cs i = true) : lo ≤ cs.getD i 0 ∧ cs.getD i 0 ≤ hi := by
  unfold ascAt at h
  rw [Bool.and_eq_true] at h
  exact of_decide_eq_true h.1
theorem asc_at {lo hi : Int} {cs : List Int} (h : ascIn lo hi cs = true) {j : Nat} (hj : j < cs.length) : lo ≤ cs.getD j 0 ∧ cs.getD j 0 ≤ hi := by
  unfold ascIn at h
  rw [List.all_eq_true] at h
  exact asc_in (h j (List.mem_range.2 hj))
theorem asc_yes {lo hi : Int} {cs : List Int} (h : ∀ j, j < cs.length → ascAt lo hi cs j = true) : ascIn lo hi cs = true := by
  unfold ascIn
  rw [List.all_eq_true]
  intro j hj
  exact h j (List.mem_range.1 hj)
theorem asc_no {lo hi : Int} {cs : List Int} (j : Nat) (hj : j < cs.length) (h : ascAt lo hi cs j = false) : ascIn lo hi cs = false := by
  cases e : ascIn lo hi cs with
  | false => rfl
  | true =>
    unfold ascIn at e
    rw [List.all_eq_true] at e
    have := e j (List.mem_range.2 hj)
    rw [h] at this; cases this
end Go.Proofs.Ytobimpgapfecoaa
/- Whether numbers ascend, by the program. -/
namespace Go.Proofs.Ytobimpgapfecoaa
open Go.RowKit
set_option maxRecDepth 100000
set_option maxHeartbeats 400000 in
theorem ascending_any (v : Value) (cs : List Int) (lo hi : Int) (w : World) (h : RowI w v cs) (hn : cs.length ≤ 1099511627776) (h0 : cs.length ≠ 0) (hlo : -1099511627776 ≤ lo) (hhi : hi ≤ 1099511627776) :
    Calls Try.prog 119 #[v, .int .i64 lo, .int .i64 hi] w fun e w' => e = .returned (.bool (ascIn lo hi cs)) ∧ w' = w := by
  obtain ⟨oa, cap, rfl, hc, hr⟩ := h
  obtain ⟨g, o, rfl, hg, hj⟩ := hr (by omega)
  have HJ : Hid (∀ j, j < cs.length → w.cell? ⟨g, o + j, none⟩ = some (.int .i64 (cs.getD j 0))) := hj
  clear hj hr
  go_enter Try.func119, Try.ntmps119
  go_wp2
  go_loopw [1, 11] (fun l i wr => ∃ k : Nat, i = .int .i64 k ∧ l = .int .i64 (leastOf lo cs k) ∧ k ≤ cs.length ∧ (∀ j, j < k → ascAt lo hi cs j = true) ∧ wr = w) (fun _ i _ => cs.length - (intOf i).toNat)
  case atStart => exact ⟨0, rfl, rfl, by omega, by omega, rfl⟩
  case round =>
    obtain ⟨k, rfl, rfl, hk, hal, rfl⟩ := hrel
    have HA : Hid (∀ j, j < k → ascAt lo hi cs j = true) := hal
    clear hal
    by_cases hlt : k < cs.length
    · have hcell := HJ.out k hlt
      have HL : Hid (∀ c, cs.getD k 0 = c → (leastOf lo cs k ≤ c ∧ c ≤ hi → ascAt lo hi cs k = true) ∧ (¬ (leastOf lo cs k ≤ c ∧ c ≤ hi) → ascAt lo hi cs k = false)) := by
        intro c hc
        unfold leastOf ascAt
        rw [hc]
        by_cases hk0 : k = 0
        · subst hk0; simp
        · have hp := HA.out (k - 1) (by omega)
          unfold ascAt at hp
          simp at hp
          simp [hk0]
          constructor
          · intro a b; omega
          · intro a b c; omega
      generalize hcc : cs.getD k 0 = c at hcell
      have HK := HL.out c hcc
      have HKK : Hid ((leastOf lo cs k ≤ c ∧ c ≤ hi → ascAt lo hi cs k = true) ∧ (¬ (leastOf lo cs k ≤ c ∧ c ≤ hi) → ascAt lo hi cs k = false)) := HK
      have HN : Hid (c + 1 = leastOf lo cs (k + 1)) := by unfold leastOf; rw [if_neg (by omega), Nat.add_sub_cancel, hcc]; rfl
      have hll : -1099511627776 ≤ leastOf lo cs k := by
        unfold leastOf
        by_cases hk0 : k = 0
        · rw [if_pos hk0]; omega
        · rw [if_neg hk0]
          have hp := asc_in (HA.out (k - 1) (by omega))
          omega
      clear HL HK hcc
      generalize leastOf lo cs k = L at HKK hll
      by_cases c1 : c < L
      · have HF : Hid (ascIn lo hi cs = false) := asc_no k hlt (HKK.out.2 (by omega))
        go_wp2
        go_ret
        exact ⟨by rw [HF.out]; rfl, rfl⟩
      · by_cases c2 : c ≤ hi
        · have HF : Hid (ascAt lo hi cs k = true) := HKK.out.1 (by omega)
          go_wp2
          go_roundw
          case rel =>
            refine ⟨k + 1, by go_num, by rw [← HN.out], by omega, ?_, by first | rfl | trivial⟩
            intro j hj
            by_cases e : j = k
            · subst e; exact HF.out
            · exact HA.out j (by omega)
          case measure => simp [intOf]; omega
        · have HF : Hid (ascIn lo hi cs = false) := asc_no k hlt (HKK.out.2 (by omega))
          go_wp2
          go_ret
          exact ⟨by rw [HF.out]; rfl, rfl⟩
    · have HF : Hid (ascIn lo hi cs = true) := asc_yes fun j hj => HA.out j (by omega)
      go_wp2
      go_ret
      exact ⟨by rw [HF.out]; rfl, rfl⟩
end Go.Proofs.Ytobimpgapfecoaa
