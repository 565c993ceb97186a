/- Texts of this claim, put together: part 16. -/
import Derived.Test.YtobimpgapfecoabStatsPurePack6
import Derived.Test.YtobimpgapfecoabStatsPurePack3
import Derived.Test.YtobimpgapfecoabStatsPurePack11
import Derived.Test.YtobimpgapfecoabStatsPurePack4
import Derived.WalkKit
import Derived.ProofKit
import Derived.OpenShut
import Derived.Lib.QuietBelow
/- How many bins, how great the cuts. -/
namespace Go.Proofs.Ytobimpgapfecoab
open Go.RowKit
set_option maxRecDepth 100000
theorem bins_le {a : AttrD} (hn : okA a) : 0 ≤ bins a ∧ bins a ≤ 1099511627777 := by
  unfold bins
  have := hn.cuts
  have := hn.vals.1
  split
  · split <;> omega
  · omega
theorem cuts_in {a : AttrD} (hk : attrOk a = true) : ∀ j, j < a.cuts.length → -9999 ≤ a.cuts.getD j 0 ∧ a.cuts.getD j 0 ≤ 9998 := by
  intro j hj
  unfold attrOk at hk
  rw [Bool.and_eq_true] at hk
  have h2 := hk.2
  rw [if_neg (by omega), Bool.and_eq_true, Bool.and_eq_true] at h2
  have h3 := h2.2.2
  unfold cutsRise at h3
  rw [List.all_eq_true] at h3
  exact cutAt_in (h3 j (List.mem_range.2 hj))
end Go.Proofs.Ytobimpgapfecoab
/- How many bins an attribute has, by the specification. -/
namespace Go.Proofs.Ytobimpgapfecoab
open Go.RowKit
set_option maxRecDepth 100000
set_option maxHeartbeats 400000 in
theorem specBins_any (v : Value) (a : AttrD) (w : World) (h : AttrAt w v a) (hn : okA a) :
    Calls Try.prog 66 #[v] w fun e w' => e = .returned (.int .i64 (bins a)) ∧ Below w.heap.size w w' := by
  have c := fun W (hW : Below w.heap.size w W) => specAttrOk_any v a W (h.later hW) hn
  have lc := hn.cuts
  have lv := hn.vals.1
  obtain ⟨vc, vv, rfl, hc, hv⟩ := h
  obtain ⟨oc, cc, rfl, hcc, hcr⟩ := hc
  obtain ⟨ov, cv, rfl, hvc, hvr⟩ := hv
  clear hcr hvr hn
  have HB : Hid (∀ o, Below w.heap.size w (w.alloc o)) := fun o => (Below.refl _ _).alloc (Nat.le_refl _) _
  cases hok : attrOk a with
  | false =>
    have HF : Hid (bins a = 0) := by unfold bins; rw [hok]; rfl
    rw [hok] at c
    clear hok
    go_enter Try.func66, Try.ntmps66
    go_wp2_with fail
    refine (c _ (HB.out _)).mono ?_
    rintro e w1 ⟨rfl, hb1⟩
    go_wp2
    go_ret
    exact ⟨by rw [HF.out]; rfl, (HB.out _).trans (hb1.mono (by simp))⟩
  | true =>
    rw [hok] at c
    have hkind := ok_kind hok
    by_cases h0 : 0 < a.cuts.length
    · have HF : Hid (bins a = a.cuts.length + 1) := by unfold bins; rw [hok, if_pos rfl, if_pos (by omega)]; rfl
      clear hok hkind
      go_enter Try.func66, Try.ntmps66
      go_wp2_with fail
      refine (c _ (HB.out _)).mono ?_
      rintro e w1 ⟨rfl, hb1⟩
      have K := (Blk.new _ _ _).below hb1
      have B1 := (HB.out _).trans (hb1.mono (by simp))
      have k1 : w1.cell? ⟨w.heap.size, 1, none⟩ = some (.slice oc a.cuts.length cc) := K.cell 1
      have k2 : w1.cell? ⟨w.heap.size, 2, none⟩ = some (.slice ov a.vals.length cv) := K.cell 2
      clear c hb1 K
      go_wp2
      go_ret
      exact ⟨by rw [HF.out]; first | rfl | (congr 1; go_num), B1⟩
    · have HF : Hid (bins a = a.vals.length) := by unfold bins; rw [hok, if_pos rfl, if_neg (by omega)]; rfl
      clear hok hkind
      go_enter Try.func66, Try.ntmps66
      go_wp2_with fail
      refine (c _ (HB.out _)).mono ?_
      rintro e w1 ⟨rfl, hb1⟩
      have K := (Blk.new _ _ _).below hb1
      have B1 := (HB.out _).trans (hb1.mono (by simp))
      have k1 : w1.cell? ⟨w.heap.size, 1, none⟩ = some (.slice oc a.cuts.length cc) := K.cell 1
      have k2 : w1.cell? ⟨w.heap.size, 2, none⟩ = some (.slice ov a.vals.length cv) := K.cell 2
      clear c hb1 K
      go_wp2
      go_ret
      exact ⟨by rw [HF.out]; rfl, B1⟩
end Go.Proofs.Ytobimpgapfecoab
/- Whether a schema is right, by the specification. -/
namespace Go.Proofs.Ytobimpgapfecoab
open Go.RowKit
set_option maxRecDepth 100000

theorem sch_no1 {s : SchemaD} (h : ¬ ((1 : Int) ≤ s.attrs.length ∧ (s.attrs.length : Int) ≤ 5)) : schemaOk s = false := by
  unfold schemaOk; rw [decide_eq_false (by omega)]; rfl
theorem sch_no2 {s : SchemaD} (h : ¬ ((2 : Int) ≤ s.classes.length ∧ (s.classes.length : Int) ≤ 3)) : schemaOk s = false := by
  unfold schemaOk choices; rw [decide_eq_false h]; simp
theorem sch_no3 {s : SchemaD} (h : wordsOk s.classes = false) : schemaOk s = false := by
  unfold schemaOk choices; rw [h]; simp
theorem sch_yes {s : SchemaD} (h : (1 : Int) ≤ s.attrs.length ∧ (s.attrs.length : Int) ≤ 5) (h2 : (2 : Int) ≤ s.classes.length ∧ (s.classes.length : Int) ≤ 3) (h3 : wordsOk s.classes = true) : schemaOk s = attrsOk s.attrs := by
  unfold schemaOk choices; rw [decide_eq_true (p := 1 ≤ s.attrs.length ∧ s.attrs.length ≤ 5) (by omega), decide_eq_true h2, h3]; rfl

set_option maxHeartbeats 1600000 in
theorem specSchemaOk_any (v : Value) (s : SchemaD) (w : World) (h : SchemaAt w v s) (hn : okSch s) :
    Calls Try.prog 73 #[v] w fun e w' => e = .returned (.bool (schemaOk s)) ∧ Below w.heap.size w w' := by
  obtain ⟨va, vc, rfl, ha, hc⟩ := h
  obtain ⟨oa, ca, rfl, hca, har⟩ := id ha
  obtain ⟨oc, cc, rfl, hcc, hcr⟩ := id hc
  have HAR : Hid (RowA w (.slice oa s.attrs.length ca) s.attrs) := ha
  have HCR : Hid (RowS w (.slice oc s.classes.length cc) s.classes) := hc
  have HO : Hid (okSch s) := hn
  have la := hn.attrs
  clear ha hc har hcr hn
  by_cases h1 : (1 : Int) ≤ s.attrs.length ∧ (s.attrs.length : Int) ≤ 5
  rotate_left
  · have HF : Hid (schemaOk s = false) := sch_no1 h1
    go_enter Try.func73, Try.ntmps73
    go_wp2_with fail
    refine (in_any _ _ _ _).mono ?_
    rintro e w1 ⟨rfl, rfl⟩
    rw [decide_eq_false h1]
    clear h1
    go_wp2
    go_ret
    exact ⟨by rw [HF.out]; rfl, (Below.refl _ _).alloc (Nat.le_refl _) _⟩
  by_cases h2 : (2 : Int) ≤ s.classes.length ∧ (s.classes.length : Int) ≤ 3
  rotate_left
  · have HF : Hid (schemaOk s = false) := sch_no2 h2
    go_enter Try.func73, Try.ntmps73
    go_wp2_with fail
    refine (in_any _ _ _ _).mono ?_
    rintro e w1 ⟨rfl, rfl⟩
    rw [decide_eq_true h1]
    clear h1
    go_wp2_with fail
    refine (in_any _ _ _ _).mono ?_
    rintro e w1 ⟨rfl, rfl⟩
    rw [decide_eq_false h2]
    clear h2
    go_wp2
    go_ret
    exact ⟨by rw [HF.out]; rfl, (Below.refl _ _).alloc (Nat.le_refl _) _⟩
  obtain ⟨K0, B0⟩ := blk_1 40 w #[.slice oa s.attrs.length ca, .slice oc s.classes.length cc]
  have c := specWords_any _ s.classes _ (HCR.out.later B0) HO.out.classes
  cases hw : wordsOk s.classes with
  | false =>
    have HF : Hid (schemaOk s = false) := sch_no3 hw
    rw [hw] at c
    clear hw
    go_enter Try.func73, Try.ntmps73
    go_wp2_with fail
    refine (in_any _ _ _ _).mono ?_
    rintro e w1 ⟨rfl, rfl⟩
    rw [decide_eq_true h1]
    clear h1
    go_wp2_with fail
    refine (in_any _ _ _ _).mono ?_
    rintro e w1 ⟨rfl, rfl⟩
    rw [decide_eq_true h2]
    clear h2
    go_wp2_with fail
    refine c.mono ?_
    rintro e w1 ⟨rfl, hb1⟩
    clear c K0
    go_wp2
    go_ret
    exact ⟨by rw [HF.out]; rfl, B0.trans (hb1.mono B0.size)⟩
  | true =>
    have HW : Hid (schemaOk s = attrsOk s.attrs) := sch_yes h1 h2 hw
    rw [hw] at c
    clear hw
    obtain ⟨ls, has⟩ : ∃ ls, s.attrs = ls := ⟨_, rfl⟩
    obtain ⟨g, o, rfl, hg, hj⟩ : ∃ g o, oa = some ⟨g, o, none⟩ ∧ g < w.heap.size ∧ ∀ j, j < ls.length → CellsA w g (o + j * 3) (ad ls j) := by
      obtain ⟨oa', cap', e, _, hr⟩ := HAR.out
      obtain ⟨g, o, e', hg, hj⟩ := hr (by omega)
      injection e with e1 e2 e3
      exact ⟨g, o, by rw [e1, e'], hg, by rw [← has]; exact hj⟩
    have HJ : Hid (∀ j, j < ls.length → CellsA w g (o + j * 3) (ad ls j)) := hj
    have HE : Hid (∀ j, j < ls.length → okA (ad ls j)) := fun j hj => HO.out.each _ (by rw [has]; exact ad_mem hj)
    have HAS : Hid (s.attrs = ls) := has
    clear hj HAR HCR HO
    rw [has] at h1 la hca K0 B0 c
    go_enter Try.func73, Try.ntmps73
    rw [has]
    clear has
    go_wp2_with fail
    refine (in_any _ _ _ _).mono ?_
    rintro e w1 ⟨rfl, rfl⟩
    rw [decide_eq_true h1]
    go_wp2_with fail
    refine (in_any _ _ _ _).mono ?_
    rintro e w1 ⟨rfl, rfl⟩
    rw [decide_eq_true h2]
    clear h2
    go_wp2_with fail
    refine c.mono ?_
    rintro e w1 ⟨rfl, hb1⟩
    clear c
    have HB1 : Hid (Blk 40 w1 w.heap.size #[.slice (some ⟨g, o, none⟩) ls.length ca, .slice oc s.classes.length cc]) := K0.below hb1
    have B1 := B0.trans (hb1.mono B0.size)
    clear hb1 K0 B0 h1
    go_wp2
    go_loopw [3, 4] (fun i _ wr => ∃ k : Nat, i = .int .i64 k ∧ k ≤ ls.length ∧ (∀ j, j < k → attrAt ls j = true) ∧ Below w1.heap.size w1 wr) (fun i _ _ => ls.length - (intOf i).toNat)
    case atStart => exact ⟨0, rfl, by omega, by omega, Below.refl _ _⟩
    case round =>
      obtain ⟨k, rfl, hk, hal, hb⟩ := hrel
      have HA : Hid (∀ j, j < k → attrAt ls j = true) := hal
      clear hal
      have K : wr.cell? ⟨w.heap.size, 0, none⟩ = some (.slice (some ⟨g, o, none⟩) ls.length ca) := (HB1.out.below hb).cell 0
      have hbw := B1.trans (hb.mono B1.size)
      by_cases hlt : k < ls.length
      · obtain ⟨vc, vv, q0, q1, q2, r1, r2⟩ := (HJ.out k hlt).later hbw hg
        obtain ⟨o1, c1, rfl, -, -⟩ := id r1
        obtain ⟨o2, c2, rfl, -, -⟩ := id r2
        have hx : AttrAt wr (.agg #[.string (ad ls k).name, .slice o1 (ad ls k).cuts.length c1, .slice o2 (ad ls k).vals.length c2]) (ad ls k) := ⟨_, _, rfl, r1, r2⟩
        have c := specAttrOk_any _ (ad ls k) _ hx (HE.out k hlt)
        clear r1 r2 hx
        cases hw : attrOk (ad ls k) with
        | false =>
          have HF : Hid (attrsOk ls = false) := attrs_no k hlt (attrAt_no1 hw)
          rw [hw] at c
          clear hw
          go_wp2_with fail
          refine c.mono ?_
          rintro e w2 ⟨rfl, hb2⟩
          clear c
          go_wp2
          go_ret
          exact ⟨by rw [HW.out, HAS.out, HF.out]; rfl, hbw.trans (hb2.mono hbw.size)⟩
        | true =>
          have HWK : Hid (attrOk (ad ls k) = true) := hw
          rw [hw] at c
          clear hw
          go_wp2_with fail
          refine c.mono ?_
          rintro e w2 ⟨rfl, hb2⟩
          clear c K q0 q1 q2
          have hb3 : Below w1.heap.size w1 w2 := hb.trans (hb2.mono hb.size)
          have hbx : Below w.heap.size w w2 := hbw.trans (hb2.mono hbw.size)
          have K : w2.cell? ⟨w.heap.size, 0, none⟩ = some (.slice (some ⟨g, o, none⟩) ls.length ca) := (HB1.out.below hb3).cell 0
          have q0 : w2.cell? ⟨g, o + k * 3, none⟩ = some (.string (ad ls k).name) := by
            obtain ⟨_, _, q, _⟩ := (HJ.out k hlt).later hbx hg; exact q
          clear hb hb2 hbw
          go_wp2
          go_loopw [4] (fun i wr => ∃ m q : Nat, i = .int .i64 m ∧ m ≤ k ∧ (∀ j, j < m → (ad ls k).name ≠ (ad ls j).name) ∧ wr = w2.drewN q) (fun i _ => k - (intOf i).toNat)
          case atStart => exact ⟨0, 0, rfl, by omega, by omega, rfl⟩
          case round =>
            obtain ⟨m, q, rfl, hm, hne, rfl⟩ := hrel
            have HN : Hid (∀ j, j < m → (ad ls k).name ≠ (ad ls j).name) := hne
            clear hne
            by_cases hmk : m < k
            · have hml : m < ls.length := by omega
              have hcm : w2.cell? ⟨g, o + m * 3, none⟩ = some (.string (ad ls m).name) := by
                obtain ⟨_, _, q, _⟩ := (HJ.out m hml).later hbx hg; exact q
              by_cases he : (ad ls k).name = (ad ls m).name
              · have HF : Hid (attrsOk ls = false) := attrs_no k hlt (attrAt_no2 (hasT_yes (k := m) (by rw [nmsB_len hk]; omega) (by rw [nmsB_at hmk hk]; exact he)))
                have hq : ((ad ls k).name.toList == (ad ls m).name.toList) = true := by rw [← he]; simp
                clear he
                generalize (ad ls k).name = u at q0 hq
                generalize (ad ls m).name = u' at hcm hq
                go_wp2
                go_quiet (fail)
                all_goals go_wp2
                all_goals go_ret
                all_goals exact ⟨by rw [HW.out, HAS.out, HF.out]; rfl, below_drewN (below_drewN hbx _) _⟩
              · have hq : ((ad ls k).name.toList == (ad ls m).name.toList) = false := by
                  rw [beq_eq_false_iff_ne]; exact fun h => he (bytes_eq_iff.1 h)
                have HE' : Hid ((ad ls k).name ≠ (ad ls m).name) := he
                clear he
                generalize hu : (ad ls k).name = u at q0 hq
                generalize hu' : (ad ls m).name = u' at hcm hq
                have HU : Hid ((ad ls k).name = u) := hu
                clear hu hu'
                go_wp2
                go_quiet (fail)
                all_goals go_wp2
                all_goals go_roundw
                case rel =>
                  refine ⟨m + 1, _, by go_num, by omega, ?_, by first | rfl | (simp only [World.drewN_drewN]; rfl)⟩
                  intro j hj
                  rw [← HU.out]
                  by_cases e : j = m
                  · subst e; exact HE'.out
                  · exact HN.out j (by omega)
                case measure => simp [intOf]; omega
            · have HF : Hid (attrAt ls k = true) := attrAt_yes HWK.out (hasT_no fun j hj => by
                have hj' : j < k := by rw [nmsB_len hk] at hj; exact hj
                rw [nmsB_at hj' hk]; exact HN.out j (by omega))
              go_wp2
              go_roundw
              case rel =>
                refine ⟨k + 1, by go_num, by omega, ?_, below_drewN hb3 _⟩
                intro j hj
                by_cases e : j = k
                · subst e; exact HF.out
                · exact HA.out j (by omega)
              case measure => simp [intOf]; omega
      · have HF : Hid (attrsOk ls = true) := attrs_yes fun j hj => HA.out j (by omega)
        go_wp2
        go_ret
        exact ⟨by rw [HW.out, HAS.out, HF.out]; rfl, hbw⟩
end Go.Proofs.Ytobimpgapfecoab
/- A call that changes nothing, in a region that draws its order. -/
namespace Go.Proofs.Ytobimpgapfecoab
open Go.RowKit
set_option maxRecDepth 100000
theorem regrown_same {P : Program} {f : FuncId} {args : Array Value} {w : World} {d : Nat} {os : Array Obj} {v : Value} (h : Calls P f args (Go.Sort.grow (redrawn w d) os) fun e w' => e = .returned v ∧ w' = Go.Sort.grow (redrawn w d) os) :
    Calls P f args (Go.Sort.grow (redrawn w d) os) fun e w'' => e = .returned v ∧ ∃ p : Regrown, w'' = Go.Sort.grow (redrawn w p.d) p.os :=
  h.mono fun _ _ ⟨he, hb⟩ => ⟨he, ⟨d, os⟩, hb⟩
end Go.Proofs.Ytobimpgapfecoab
