/- Texts of this claim, put together: part 17. -/
import Derived.Test.YtobimpgapfecoaaRows
import Derived.WalkKit
import Derived.ProofKit
import Derived.OpenShut
import Derived.Deep.RegionHeld3
import Derived.Test.YtobimpgapfecoaaFnPromisePack3
import Derived.Test.YtobimpgapfecoaaFnPromisePack15
import Derived.Test.YtobimpgapfecoaaFnPromisePack9
import Derived.Test.YtobimpgapfecoaaFnPromisePack8
import Derived.Test.YtobimpgapfecoaaFnPromisePack16
/- In a region that draws its order: what may be taken first, what comes next. -/
namespace Go.Proofs.Ytobimpgapfecoaa
open Go.RowKit
set_option maxRecDepth 100000

section
variable {Pr : Program} {ops : Array Oper} {Q : Exit → Act → World → Prop} {md : Region.Mode} {S : World → Prop}
/-- An operation that may come up now is taken first; it is read off the list, so that it stands written out. -/
theorem takeL (i : Nat) {oi : Oper} (v : Value) {fuel : Nat} {listed : Array Bool} {a : Act} {w : World} (hi : ops.toList[i]? = some oi)
    (hs : Region.noSelect ops = true) (hf : Region.free md ops listed i = true) (hr : (Region.ready md ops listed).contains i = true)
    (hQ : ∀ c a w, Q (.panic c) (a.put oi.dst v) w → Q (.panic c) a w) (hy : YieldsIf Pr ops S oi v a) (hS : S w)
    (h : wpAnyH Pr md ops Q S fuel (listed.setIfInBounds i true) (a.put oi.dst v) w) : wpAnyH Pr md ops Q S (fuel + 1) listed a w :=
  wpAnyH_take (by simpa using hi) hs hf hr hQ hy hS h
/-- The one operation that may come up now. -/
theorem nextL (i : Nat) {oi : Oper} {fuel : Nat} {listed : Array Bool} {a : Act} {w : World} (hi : ops.toList[i]? = some oi) (hr : Region.ready md ops listed = [i])
    (hw : Region.wanted oi (yielded ops a.tmps) = true)
    (h : ∀ K' : Act → World → Prop, (∀ a w, S w → (S w → wpAnyH Pr md ops Q S fuel (listed.setIfInBounds i true) a w) → K' a w) → Oper.wp Pr oi a w K' Q) : wpAnyH Pr md ops Q S (fuel + 1) listed a w := by
  refine wpAnyH_ready hr (by simp) (AllReadyH.cons (o := oi) (by simpa using hi) (fun K hK => ?_) AllReadyH.nil)
  rw [if_pos hw]
  exact h K hK.out
/-- Two may come up now, in either order. -/
theorem next2L (i j : Nat) {oi oj : Oper} {fuel : Nat} {listed : Array Bool} {a : Act} {w : World} (hi : ops.toList[i]? = some oi) (hj : ops.toList[j]? = some oj) (hr : Region.ready md ops listed = [i, j])
    (hw : Region.wanted oi (yielded ops a.tmps) = true) (hw2 : Region.wanted oj (yielded ops a.tmps) = true)
    (h : ∀ K' : Act → World → Prop, (∀ a w, S w → (S w → wpAnyH Pr md ops Q S fuel (listed.setIfInBounds i true) a w) → K' a w) → Oper.wp Pr oi a w K' Q)
    (h2 : ∀ K' : Act → World → Prop, (∀ a w, S w → (S w → wpAnyH Pr md ops Q S fuel (listed.setIfInBounds j true) a w) → K' a w) → Oper.wp Pr oj a w K' Q) : wpAnyH Pr md ops Q S (fuel + 1) listed a w := by
  refine wpAnyH_ready hr (by simp) (AllReadyH.cons (o := oi) (by simpa using hi) (fun K hK => ?_) (AllReadyH.cons (o := oj) (by simpa using hj) (fun K hK => ?_) AllReadyH.nil))
  · rw [if_pos hw]
    exact h K hK.out
  · rw [if_pos hw2]
    exact h2 K hK.out
end

section
variable {ops : Array Oper} {S : World → Prop} {op : Oper} {a : Act}
/-- The load of one integer. -/
theorem yields_int (hw : Region.wanted op (yielded ops a.tmps) = true) (x : Operand) (ho : op.op = .load 3 x) (p : Addr) (hx : a.eval x = .pointer (some p)) (n : Int)
    (hS : ∀ w, S w → w.cell? p = some (.int .i64 n)) : YieldsIf Try.prog ops S op (.int .i64 n) a :=
  .inl ⟨hw, fun w hw' => by
    have h := hS w hw'
    unfold execOp
    simp only [ho, hx]
    go_simp⟩
/-- A quotient. -/
theorem yields_quo (hw : Region.wanted op (yielded ops a.tmps) = true) (x y : Operand) (ho : op.op = .binOp .quo 3 x y 3) (m n : Int) (hx : a.eval x = .int .i64 m) (hy : a.eval y = .int .i64 n)
    (h0 : 0 ≤ m) (h1 : m ≤ 9223372036854775807) (h2 : 0 < n) : YieldsIf Try.prog ops S op (.int .i64 (m / n)) a :=
  .inl ⟨hw, fun w hw' => by
    have hle : m / n ≤ m := Int.ediv_le_self _ h0
    have hge : 0 ≤ m / n := Int.ediv_nonneg h0 (by omega)
    unfold execOp
    simp only [ho, hx, hy]
    go_simp
    have e : IntKind.i64.wrap (m.tdiv n) = m / n := by rw [IntKind.wrap_i64, Int.tdiv_eq_ediv_of_nonneg h0]; omega
    rw [if_neg (by omega), e]⟩
/-- Two texts, one behind the other. -/
theorem yields_cat (hw : Region.wanted op (yielded ops a.tmps) = true) (x y : Operand) (ho : op.op = .binOp .add 9 x y 9) (s t : ByteArray) (hx : a.eval x = .string s) (hy : a.eval y = .string t)
    (h : s.size + t.size ≤ 1000000) : YieldsIf Try.prog ops S op (.string (s ++ t)) a :=
  .inl ⟨hw, fun w hw' => by
    unfold execOp
    simp only [ho, hx, hy]
    go_simp
    omega⟩
end
end Go.Proofs.Ytobimpgapfecoaa
/- In a region that draws its order: the load of a whole struct. -/
namespace Go.Proofs.Ytobimpgapfecoaa
open Go.RowKit
set_option maxRecDepth 100000

theorem yields_row {ops : Array Oper} {S : World → Prop} {op : Oper} {a : Act} {T : TypeId} {d : Array Field} {cs : Array Value} (hu : Try.prog.underlying T = some (.struct d))
    (hi : (Try.prog.info? T).map (·.size) = some cs.size) (hw : Region.wanted op (yielded ops a.tmps) = true) (x : Operand) (ho : op.op = .load T x)
    (g : Nat) (hx : a.eval x = .pointer (some ⟨g, 0, none⟩)) (hS : ∀ w, S w → Blk T w g cs) : YieldsIf Try.prog ops S op (.agg cs) a :=
  .inl ⟨hw, fun w hw' => by
    unfold execOp
    simp only [ho, hx, Instr.loadAt, Instr.sureAddr, Sem.run_bind, Sem.run_pure, Result.andThen_ok, run_loadVar_row w g _ T _ _ _ (hS w hw') hu rfl hi]⟩
end Go.Proofs.Ytobimpgapfecoaa
/- Whether a schema is right, by the specification. -/
namespace Go.Proofs.Ytobimpgapfecoaa
open Go.RowKit
set_option maxRecDepth 100000

theorem sch_no1 {s : SchemaD} (h : ¬ ((1 : Int) ≤ s.attrs.length ∧ (s.attrs.length : Int) ≤ 5)) : schemaOk s = false := by
  unfold schemaOk; rw [decide_eq_false (by omega)]; rfl
theorem sch_no2 {s : SchemaD} (h : ¬ ((2 : Int) ≤ s.classes.length ∧ (s.classes.length : Int) ≤ 3)) : schemaOk s = false := by
  unfold schemaOk choices; rw [decide_eq_false h]; simp
theorem sch_no3 {s : SchemaD} (h : wordsOk s.classes = false) : schemaOk s = false := by
  unfold schemaOk choices; rw [h]; simp
theorem sch_yes {s : SchemaD} (h : (1 : Int) ≤ s.attrs.length ∧ (s.attrs.length : Int) ≤ 5) (h2 : (2 : Int) ≤ s.classes.length ∧ (s.classes.length : Int) ≤ 3) (h3 : wordsOk s.classes = true) : schemaOk s = attrsOk s.attrs := by
  unfold schemaOk choices; rw [decide_eq_true (p := 1 ≤ s.attrs.length ∧ s.attrs.length ≤ 5) (by omega), decide_eq_true h2, h3]; rfl

set_option maxHeartbeats 1600000 in
theorem specSchemaOk_any (v : Value) (s : SchemaD) (w : World) (h : SchemaAt w v s) (hn : okSch s) :
    Calls Try.prog 63 #[v] w fun e w' => e = .returned (.bool (schemaOk s)) ∧ Below w.heap.size w w' := by
  obtain ⟨va, vc, rfl, ha, hc⟩ := h
  obtain ⟨oa, ca, rfl, hca, har⟩ := id ha
  obtain ⟨oc, cc, rfl, hcc, hcr⟩ := id hc
  have HAR : Hid (RowA w (.slice oa s.attrs.length ca) s.attrs) := ha
  have HCR : Hid (RowS w (.slice oc s.classes.length cc) s.classes) := hc
  have HO : Hid (okSch s) := hn
  have la := hn.attrs
  clear ha hc har hcr hn
  by_cases h1 : (1 : Int) ≤ s.attrs.length ∧ (s.attrs.length : Int) ≤ 5
  rotate_left
  · have HF : Hid (schemaOk s = false) := sch_no1 h1
    go_enter Try.func63, Try.ntmps63
    go_wp2_with fail
    refine (in_any _ _ _ _).mono ?_
    rintro e w1 ⟨rfl, rfl⟩
    rw [decide_eq_false h1]
    clear h1
    go_wp2
    go_ret
    exact ⟨by rw [HF.out]; rfl, (Below.refl _ _).alloc (Nat.le_refl _) _⟩
  by_cases h2 : (2 : Int) ≤ s.classes.length ∧ (s.classes.length : Int) ≤ 3
  rotate_left
  · have HF : Hid (schemaOk s = false) := sch_no2 h2
    go_enter Try.func63, Try.ntmps63
    go_wp2_with fail
    refine (in_any _ _ _ _).mono ?_
    rintro e w1 ⟨rfl, rfl⟩
    rw [decide_eq_true h1]
    clear h1
    go_wp2_with fail
    refine (in_any _ _ _ _).mono ?_
    rintro e w1 ⟨rfl, rfl⟩
    rw [decide_eq_false h2]
    clear h2
    go_wp2
    go_ret
    exact ⟨by rw [HF.out]; rfl, (Below.refl _ _).alloc (Nat.le_refl _) _⟩
  obtain ⟨K0, B0⟩ := blk_1 27 w #[.slice oa s.attrs.length ca, .slice oc s.classes.length cc]
  have c := specWords_any _ s.classes _ (HCR.out.later B0) HO.out.classes
  cases hw : wordsOk s.classes with
  | false =>
    have HF : Hid (schemaOk s = false) := sch_no3 hw
    rw [hw] at c
    clear hw
    go_enter Try.func63, Try.ntmps63
    go_wp2_with fail
    refine (in_any _ _ _ _).mono ?_
    rintro e w1 ⟨rfl, rfl⟩
    rw [decide_eq_true h1]
    clear h1
    go_wp2_with fail
    refine (in_any _ _ _ _).mono ?_
    rintro e w1 ⟨rfl, rfl⟩
    rw [decide_eq_true h2]
    clear h2
    go_wp2_with fail
    refine c.mono ?_
    rintro e w1 ⟨rfl, hb1⟩
    clear c K0
    go_wp2
    go_ret
    exact ⟨by rw [HF.out]; rfl, B0.trans (hb1.mono B0.size)⟩
  | true =>
    have HW : Hid (schemaOk s = attrsOk s.attrs) := sch_yes h1 h2 hw
    rw [hw] at c
    clear hw
    obtain ⟨ls, has⟩ : ∃ ls, s.attrs = ls := ⟨_, rfl⟩
    obtain ⟨g, o, rfl, hg, hj⟩ : ∃ g o, oa = some ⟨g, o, none⟩ ∧ g < w.heap.size ∧ ∀ j, j < ls.length → CellsA w g (o + j * 3) (ad ls j) := by
      obtain ⟨oa', cap', e, _, hr⟩ := HAR.out
      obtain ⟨g, o, e', hg, hj⟩ := hr (by omega)
      injection e with e1 e2 e3
      exact ⟨g, o, by rw [e1, e'], hg, by rw [← has]; exact hj⟩
    have HJ : Hid (∀ j, j < ls.length → CellsA w g (o + j * 3) (ad ls j)) := hj
    have HE : Hid (∀ j, j < ls.length → okA (ad ls j)) := fun j hj => HO.out.each _ (by rw [has]; exact ad_mem hj)
    have HAS : Hid (s.attrs = ls) := has
    clear hj HAR HCR HO
    rw [has] at h1 la hca K0 B0 c
    go_enter Try.func63, Try.ntmps63
    rw [has]
    clear has
    go_wp2_with fail
    refine (in_any _ _ _ _).mono ?_
    rintro e w1 ⟨rfl, rfl⟩
    rw [decide_eq_true h1]
    go_wp2_with fail
    refine (in_any _ _ _ _).mono ?_
    rintro e w1 ⟨rfl, rfl⟩
    rw [decide_eq_true h2]
    clear h2
    go_wp2_with fail
    refine c.mono ?_
    rintro e w1 ⟨rfl, hb1⟩
    clear c
    have HB1 : Hid (Blk 27 w1 w.heap.size #[.slice (some ⟨g, o, none⟩) ls.length ca, .slice oc s.classes.length cc]) := K0.below hb1
    have B1 := B0.trans (hb1.mono B0.size)
    clear hb1 K0 B0 h1
    go_wp2
    go_loopw [3, 4] (fun i _ wr => ∃ k : Nat, i = .int .i64 k ∧ k ≤ ls.length ∧ (∀ j, j < k → attrAt ls j = true) ∧ Below w1.heap.size w1 wr) (fun i _ _ => ls.length - (intOf i).toNat)
    case atStart => exact ⟨0, rfl, by omega, by omega, Below.refl _ _⟩
    case round =>
      obtain ⟨k, rfl, hk, hal, hb⟩ := hrel
      have HA : Hid (∀ j, j < k → attrAt ls j = true) := hal
      clear hal
      have K : wr.cell? ⟨w.heap.size, 0, none⟩ = some (.slice (some ⟨g, o, none⟩) ls.length ca) := (HB1.out.below hb).cell 0
      have hbw := B1.trans (hb.mono B1.size)
      by_cases hlt : k < ls.length
      · obtain ⟨vc, vv, q0, q1, q2, r1, r2⟩ := (HJ.out k hlt).later hbw hg
        obtain ⟨o1, c1, rfl, -, -⟩ := id r1
        obtain ⟨o2, c2, rfl, -, -⟩ := id r2
        have hx : AttrAt wr (.agg #[.string (ad ls k).name, .slice o1 (ad ls k).cuts.length c1, .slice o2 (ad ls k).vals.length c2]) (ad ls k) := ⟨_, _, rfl, r1, r2⟩
        have c := specAttrOk_any _ (ad ls k) _ hx (HE.out k hlt)
        clear r1 r2 hx
        cases hw : attrOk (ad ls k) with
        | false =>
          have HF : Hid (attrsOk ls = false) := attrs_no k hlt (attrAt_no1 hw)
          rw [hw] at c
          clear hw
          go_wp2_with fail
          refine c.mono ?_
          rintro e w2 ⟨rfl, hb2⟩
          clear c
          go_wp2
          go_ret
          exact ⟨by rw [HW.out, HAS.out, HF.out]; rfl, hbw.trans (hb2.mono hbw.size)⟩
        | true =>
          have HWK : Hid (attrOk (ad ls k) = true) := hw
          rw [hw] at c
          clear hw
          go_wp2_with fail
          refine c.mono ?_
          rintro e w2 ⟨rfl, hb2⟩
          clear c K q0 q1 q2
          have hb3 : Below w1.heap.size w1 w2 := hb.trans (hb2.mono hb.size)
          have hbx : Below w.heap.size w w2 := hbw.trans (hb2.mono hbw.size)
          have K : w2.cell? ⟨w.heap.size, 0, none⟩ = some (.slice (some ⟨g, o, none⟩) ls.length ca) := (HB1.out.below hb3).cell 0
          have q0 : w2.cell? ⟨g, o + k * 3, none⟩ = some (.string (ad ls k).name) := by
            obtain ⟨_, _, q, _⟩ := (HJ.out k hlt).later hbx hg; exact q
          clear hb hb2 hbw
          go_wp2
          go_loopw [4] (fun i wr => ∃ m q : Nat, i = .int .i64 m ∧ m ≤ k ∧ (∀ j, j < m → (ad ls k).name ≠ (ad ls j).name) ∧ wr = w2.drewN q) (fun i _ => k - (intOf i).toNat)
          case atStart => exact ⟨0, 0, rfl, by omega, by omega, rfl⟩
          case round =>
            obtain ⟨m, q, rfl, hm, hne, rfl⟩ := hrel
            have HN : Hid (∀ j, j < m → (ad ls k).name ≠ (ad ls j).name) := hne
            clear hne
            by_cases hmk : m < k
            · have hml : m < ls.length := by omega
              have hcm : w2.cell? ⟨g, o + m * 3, none⟩ = some (.string (ad ls m).name) := by
                obtain ⟨_, _, q, _⟩ := (HJ.out m hml).later hbx hg; exact q
              by_cases he : (ad ls k).name = (ad ls m).name
              · have HF : Hid (attrsOk ls = false) := attrs_no k hlt (attrAt_no2 (hasT_yes (k := m) (by rw [nmsB_len hk]; omega) (by rw [nmsB_at hmk hk]; exact he)))
                have hq : ((ad ls k).name.toList == (ad ls m).name.toList) = true := by rw [← he]; simp
                clear he
                generalize (ad ls k).name = u at q0 hq
                generalize (ad ls m).name = u' at hcm hq
                go_wp2
                go_quiet (fail)
                all_goals go_wp2
                all_goals go_ret
                all_goals exact ⟨by rw [HW.out, HAS.out, HF.out]; rfl, below_drewN (below_drewN hbx _) _⟩
              · have hq : ((ad ls k).name.toList == (ad ls m).name.toList) = false := by
                  rw [beq_eq_false_iff_ne]; exact fun h => he (bytes_eq_iff.1 h)
                have HE' : Hid ((ad ls k).name ≠ (ad ls m).name) := he
                clear he
                generalize hu : (ad ls k).name = u at q0 hq
                generalize hu' : (ad ls m).name = u' at hcm hq
                have HU : Hid ((ad ls k).name = u) := hu
                clear hu hu'
                go_wp2
                go_quiet (fail)
                all_goals go_wp2
                all_goals go_roundw
                case rel =>
                  refine ⟨m + 1, _, by go_num, by omega, ?_, by first | rfl | (simp only [World.drewN_drewN]; rfl)⟩
                  intro j hj
                  rw [← HU.out]
                  by_cases e : j = m
                  · subst e; exact HE'.out
                  · exact HN.out j (by omega)
                case measure => simp [intOf]; omega
            · have HF : Hid (attrAt ls k = true) := attrAt_yes HWK.out (hasT_no fun j hj => by
                have hj' : j < k := by rw [nmsB_len hk] at hj; exact hj
                rw [nmsB_at hj' hk]; exact HN.out j (by omega))
              go_wp2
              go_roundw
              case rel =>
                refine ⟨k + 1, by go_num, by omega, ?_, below_drewN hb3 _⟩
                intro j hj
                by_cases e : j = k
                · subst e; exact HF.out
                · exact HA.out j (by omega)
              case measure => simp [intOf]; omega
      · have HF : Hid (attrsOk ls = true) := attrs_yes fun j hj => HA.out j (by omega)
        go_wp2
        go_ret
        exact ⟨by rw [HW.out, HAS.out, HF.out]; rfl, hbw⟩
end Go.Proofs.Ytobimpgapfecoaa
/- New counts, by the specification. -/
namespace Go.Proofs.Ytobimpgapfecoaa
open Go.RowKit
set_option maxRecDepth 100000
set_option linter.unusedSimpArgs false
set_option maxHeartbeats 6400000 in
theorem specStatsNew_any (v : Value) (s : SchemaD) (w : World) (h : SchemaAt w v s) (hn : okSch s) :
    Calls Try.prog 32 #[v] w fun e w' => ∃ v', e = .returned v' ∧ OwnSt w.heap.size w' v' (statsNew s) ∧ Below w.heap.size w w' := by
  obtain ⟨i0, hi0, hz0, hz1, hz2⟩ := info_parts intsInfo
  have HS : Hid (∀ W, Below w.heap.size w W → SchemaAt W v s) := fun W hW => h.later hW
  have HO : Hid (okSch s) := hn
  obtain ⟨va, vc, rfl, ra, rc⟩ := h
  obtain ⟨oa, ka, rfl, -, -⟩ := id ra
  obtain ⟨oc, kc, rfl, -, -⟩ := id rc
  have la := hn.attrs
  clear ra rc hn
  obtain ⟨K1, K2, B0⟩ := blk_2 27 31 w #[.slice oa s.attrs.length ka, .slice oc s.classes.length kc] #[.slice none 0 0, .slice none 0 0]
  have c1 := specSchemaOk_any _ s _ (HS.out _ B0) HO.out
  cases hk : schemaOk s with
  | false =>
    have HE : Hid (statsNew s = ⟨[], []⟩) := by show _ = _; unfold statsNew; rw [hk]; rfl
    rw [hk] at c1
    clear hk
    go_enter Try.func32, Try.ntmps32
    go_wp2_with fail
    refine c1.mono ?_
    clear c1
    rintro e w1 ⟨rfl, hb1⟩
    have B1 := B0.trans (hb1.mono B0.size)
    replace K2 := K2.below hb1
    clear K1 hb1 B0
    go_wp2_with (first
      | (with_reducible refine wp_st_store rfl _ _ rfl ?_; refine ⟨w.heap.size + 1, rfl, _, _, _, _, _, _, rfl, _, _, K2, ?_⟩)
      | go_in)
    exact bodyPost_ret (res_st Try.results32 _ _ _ _ _ rfl (K2.setRow _)) rfl ⟨_, rfl, by rw [HE.out]; exact ownSt_nil _ _, below_row B1 (by omega) _⟩
  | true =>
    have HE : Hid (statsNew s = ⟨List.replicate s.classes.length 0, newCells s⟩) := by show _ = _; unfold statsNew; rw [hk]; rfl
    have lcl := sch_classes hk
    rw [hk] at c1
    clear hk
    obtain ⟨m, hm⟩ : ∃ m, m = s.classes.length := ⟨_, rfl⟩
    have HM : Hid (m = s.classes.length) := hm
    rw [← hm] at K1 K2 B0 c1 lcl ⊢
    clear hm
    go_enter Try.func32, Try.ntmps32
    go_wp2_with fail
    refine c1.mono ?_
    clear c1
    rintro e w1 ⟨rfl, hb1⟩
    have B1 := B0.trans (hb1.mono B0.size)
    replace K1 := K1.below hb1
    replace K2 := K2.below hb1
    have hs1 : w.heap.size + 2 ≤ w1.heap.size := by have := hb1.size; simp at this; omega
    have q1 : w1.cell? ⟨w.heap.size, 1, none⟩ = some (.slice oc m kc) := K1.cell 1
    clear hb1 B0
    go_wp2_with (at_make; refine wpList_make_ints rfl _ rfl w.heap.size m _ rfl rfl (by omega) (by omega) ?_)
    intro w2 ho2 hg2
    have B2 := B1.grown hg2 B1.size (fun j hj => by cases hj)
    replace K1 := K1.kept hg2 (by simp)
    replace K2 := K2.kept hg2 (by simp)
    have hs2 := hg2.size
    obtain ⟨v1, hv1⟩ : ∃ g, g = w1.heap.size := ⟨_, rfl⟩
    rw [← hv1] at ho2 ⊢
    have hl1 := (ho2.lt v1 rfl).2
    have hl2 := (ho2.lt v1 rfl).1
    clear hv1
    obtain ⟨KX, BX⟩ := blk_1 31 w2 #[.slice (some ⟨v1, 0, none⟩) m m, .slice none 0 0]
    have BW := B2.trans (BX.mono B2.size)
    have K1A := K1.below BX
    have K2A := K2.below BX
    have hoA := own_below ho2 BX
    clear q1 B1 K1 K2 ho2 BX B2 hg2
    go_wp2
    generalize (w2.alloc (.cells #[.slice (some ⟨v1, 0, none⟩) m m, .slice none 0 0] 31)) = wa at KX K1A K2A hoA BW ⊢
    obtain ⟨p, hp⟩ : ∃ p, p = w2.heap.size := ⟨_, rfl⟩
    rw [← hp] at KX hl1 ⊢
    have hpw : w.heap.size + 2 ≤ p := by omega
    clear hp 
    go_loopw [4] (fun i wr => ∃ (k : Nat) (vx : Value) (ys : List Value) (L : Nat → Value), i = .int .i64 k ∧ k ≤ s.attrs.length ∧ ys.length = k ∧ Blk 27 wr w.heap.size #[.slice oa s.attrs.length ka, .slice oc m kc] ∧ Blk 31 wr (w.heap.size + 1) #[.slice none 0 0, .slice none 0 0] ∧ Blk 31 wr p #[.slice (some ⟨v1, 0, none⟩) m m, vx] ∧
        wr.ownsRow w.heap.size 3 1 (.slice (some ⟨v1, 0, none⟩) m m) m ((List.replicate m (0 : Int)).map (Value.int .i64)) ∧ wr.ownsRow (p + 1) 28 1 vx k ys ∧ DoneII wr (p + 1) ys L (newCells s) k ∧ Below w.heap.size w wr) (fun i _ => s.attrs.length - (intOf i).toNat)
    case atStart => exact ⟨0, _, [], fun _ => .slice none 0 0, rfl, by omega, rfl, K1A, K2A, KX, by rw [List.map_replicate]; exact hoA, World.ownsRow_nil _ _ _ _, DoneII.start _ _ _ _ _, BW⟩
    case round =>
      obtain ⟨k, vx, ys, L, rfl, hk, hyl, R1, R2, RX, own, hrow, hdone, hb⟩ := hrel
      clear KX K1A K2A hoA BW
      obtain ⟨ox, kx, rfl⟩ := own_slice hrow
      have j0 : wr.cell? ⟨w.heap.size, 0, none⟩ = some (.slice oa s.attrs.length ka) := R1.cell 0
      by_cases hlt : k < s.attrs.length
      · obtain ⟨va', vc', e', rA, -⟩ := HS.out w (Below.refl _ _)
        cases e'
        obtain ⟨oa', ka', e', -, hrA⟩ := rA
        cases e'
        obtain ⟨ga, fa, rfl, hga, hjA⟩ := hrA (by omega)
        obtain ⟨x1, x2, p0w, p1w, p2w, r1w, r2w⟩ := hjA k hlt
        have r1 := r1w.later hb
        have r2 := r2w.later hb
        have p0 := (hb.cell (p := ⟨ga, fa + k * 3, none⟩) hga).trans p0w
        have p1 := (hb.cell (p := ⟨ga, fa + k * 3 + 1, none⟩) hga).trans p1w
        have p2 := (hb.cell (p := ⟨ga, fa + k * 3 + 2, none⟩) hga).trans p2w
        clear r1w r2w
        obtain ⟨y1, z1, rfl, -, -⟩ := id r1
        obtain ⟨y2, z2, rfl, -, -⟩ := id r2
        have hbn := binsN_eq (ad s.attrs k)
        have hb4 := binsN_le (ad s.attrs k)
        have HAT : Hid (il (newCells s) k = List.replicate (binsN (ad s.attrs k) * s.classes.length) 0) := newCells_at hlt
        obtain ⟨nb, hnb⟩ : ∃ nb, nb = binsN (ad s.attrs k) := ⟨_, rfl⟩
        rw [← hnb] at hbn hb4 HAT
        rw [← HM.out] at HAT
        clear hnb
        have hprod : nb * m ≤ 12 := by have := Nat.mul_le_mul hb4 lcl.2; omega
        have hmul : (nb : Int) * (m : Int) = ((nb * m : Nat) : Int) := (Int.natCast_mul _ _).symm
        have hmul0 : 0 ≤ (nb : Int) * (m : Int) := Int.mul_nonneg (by omega) (by omega)
        have hmul1 : (nb : Int) * (m : Int) ≤ 12 := by rw [hmul]; omega
        have HWR : Hid (IntKind.i64.wrap ((nb : Int) * (m : Int)) = ((nb * m : Nat) : Int)) := by show _ = _; rw [IntKind.wrap_i64, ← hmul]; omega
        clear hmul
        obtain ⟨Z, hZ, hZO⟩ := made_ints (nb * m) (by omega)
        have hmk : ∀ W : World, (Instr.makeSlice 28 (.int .i64 (IntKind.i64.wrap ((nb : Int) * (m : Int)))) (.int .i64 (IntKind.i64.wrap ((nb : Int) * (m : Int))))).run Try.prog W = .ok (.slice (some ⟨W.heap.size, 0, none⟩) (nb * m) (nb * m)) (W.alloc (.cells Z 3)) := fun W => hZ _ W HWR.out
        have HZO : Hid (∀ (W : World) (base : Nat), base ≤ W.heap.size → (W.alloc (.cells Z 3)).ownsRow base 3 1 (.slice (some ⟨W.heap.size, 0, none⟩) (nb * m) (nb * m)) (nb * m) ((List.replicate (nb * m) (0 : Int)).map (Value.int .i64))) := hZO
        clear hZ hZO
        have hvo : ∀ j, (Value.slice ox k kx).ownBlock = some j → p + 1 ≤ j := fun j hj => (hrow.lt j hj).1
        have mixed : Try.prog.follows .mixedOrders = true := by kernel_rfl
        have bD : Below wr.heap.size wr wr.drew := (Below.refl wr.heap.size wr).drew
        have hkeep : ∀ W, Below w.heap.size w W → W.cell? ⟨ga, fa + k * 3, none⟩ = some (.string (ad s.attrs k).name) ∧ W.cell? ⟨ga, fa + k * 3 + 1, none⟩ = some (.slice y1 (ad s.attrs k).cuts.length z1) ∧ W.cell? ⟨ga, fa + k * 3 + 2, none⟩ = some (.slice y2 (ad s.attrs k).vals.length z2) := fun W hW => ⟨(hW.cell (p := ⟨ga, fa + k * 3, none⟩) hga).trans p0w, (hW.cell (p := ⟨ga, fa + k * 3 + 1, none⟩) hga).trans p1w, (hW.cell (p := ⟨ga, fa + k * 3 + 2, none⟩) hga).trans p2w⟩
        have hS : Blk 31 wr.drew p #[.slice (some ⟨v1, 0, none⟩) m m, .slice ox k kx] ∧ Blk 27 wr.drew w.heap.size #[.slice (some ⟨ga, fa, none⟩) s.attrs.length ka, .slice oc m kc] ∧ wr.drew.cell? ⟨ga, fa + k * 3, none⟩ = some (.string (ad s.attrs k).name) ∧ wr.drew.cell? ⟨ga, fa + k * 3 + 1, none⟩ = some (.slice y1 (ad s.attrs k).cuts.length z1) ∧ wr.drew.cell? ⟨ga, fa + k * 3 + 2, none⟩ = some (.slice y2 (ad s.attrs k).vals.length z2) := ⟨RX, R1, hkeep _ hb.drew⟩
        have e1 := specBins_any (.agg #[.string (ad s.attrs k).name, .slice y1 (ad s.attrs k).cuts.length z1, .slice y2 (ad s.attrs k).vals.length z2]) (ad s.attrs k) wr.drew ⟨_, _, rfl, (r1.later bD), (r2.later bD)⟩ (HO.out.each _ (ad_mem hlt))
        rw [hbn] at e1
        have rd : wr.drew.ownsRow (p + 1) 28 1 (.slice ox k kx) k ys := own_below hrow bD
        have dn : DoneII wr.drew (p + 1) ys L (newCells s) k := hdone.below bD
        have R2D := Blk.below (w' := wr.drew) R2 bD
        have ownD := own_below (w' := wr.drew) own bD
        have hpr : p + 1 ≤ wr.drew.heap.size := Nat.le_trans RX.lt bD.size
        have hbd : Below w.heap.size w wr.drew := hb.trans (bD.mono hb.size)
        have hv2 : ∀ j, (Value.slice ox k kx).ownBlock = some j → j < wr.heap.size := fun j hj => (hrow.lt j hj).2
        clear hjA hrA r1 r2 R1 R2 own hrow hdone hb RX bD
        go_wp2
        refine region_L (S := fun W => Blk 31 W p #[.slice (some ⟨v1, 0, none⟩) m m, .slice ox k kx] ∧ Blk 27 W w.heap.size #[.slice (some ⟨ga, fa, none⟩) s.attrs.length ka, .slice oc m kc] ∧ W.cell? ⟨ga, fa + k * 3, none⟩ = some (.string (ad s.attrs k).name) ∧ W.cell? ⟨ga, fa + k * 3 + 1, none⟩ = some (.slice y1 (ad s.attrs k).cuts.length z1) ∧ W.cell? ⟨ga, fa + k * 3 + 2, none⟩ = some (.slice y2 (ad s.attrs k).vals.length z2)) (last := 16) mixed ?_
        generalize wr.drew = w0 at hS e1 rd dn R2D ownD hpr hbd ⊢
        refine firstL 0 (.pointer (some ⟨p, 1, none⟩)) rfl (by kernel_rfl) (by kernel_rfl) (by kernel_rfl) (fun _ _ _ h => h) (by kernel_rfl) (.inl ⟨by rfl, fun w hw => by unfold execOp; go_simp⟩) hS ?_
        try simp only [Act.put, List.setIfInBounds_toArray, List.set_cons_zero, List.set_cons_succ]
        refine firstL 1 (.slice ox k kx) rfl (by kernel_rfl) (by kernel_rfl) (by kernel_rfl) (fun _ _ _ h => h) (by kernel_rfl) (.inl ⟨by rfl, fun w hw => by have h := hw.1.cell 1; unfold execOp; go_simp⟩) hS ?_
        try simp only [Act.put, List.setIfInBounds_toArray, List.set_cons_zero, List.set_cons_succ]
        refine firstL 2 (.pointer (some ⟨w.heap.size, 0, none⟩)) rfl (by kernel_rfl) (by kernel_rfl) (by kernel_rfl) (fun _ _ _ h => h) (by kernel_rfl) (.inl ⟨by rfl, fun w hw => by unfold execOp; go_simp⟩) hS ?_
        try simp only [Act.put, List.setIfInBounds_toArray, List.set_cons_zero, List.set_cons_succ]
        refine firstL 3 (.slice (some ⟨ga, fa, none⟩) s.attrs.length ka) rfl (by kernel_rfl) (by kernel_rfl) (by kernel_rfl) (fun _ _ _ h => h) (by kernel_rfl) (.inl ⟨by rfl, fun w hw => by have h := hw.2.1.cell 0; unfold execOp; go_simp⟩) hS ?_
        try simp only [Act.put, List.setIfInBounds_toArray, List.set_cons_zero, List.set_cons_succ]
        refine firstL 4 (.int .i64 (k : Int)) rfl (by kernel_rfl) (by kernel_rfl) (by kernel_rfl) (fun _ _ _ h => h) (by kernel_rfl) (.inl ⟨by rfl, fun w hw => by rfl⟩) hS ?_
        try simp only [Act.put, List.setIfInBounds_toArray, List.set_cons_zero, List.set_cons_succ]
        refine firstL 5 (.pointer (some ⟨ga, fa + k * 3, none⟩)) rfl (by kernel_rfl) (by kernel_rfl) (by kernel_rfl) (fun _ _ _ h => h) (by kernel_rfl) (.inl ⟨by rfl, fun w hw => by unfold execOp; go_simp⟩) hS ?_
        try simp only [Act.put, List.setIfInBounds_toArray, List.set_cons_zero, List.set_cons_succ]
        refine firstL 6 (.agg #[.string (ad s.attrs k).name, .slice y1 (ad s.attrs k).cuts.length z1, .slice y2 (ad s.attrs k).vals.length z2]) rfl (by kernel_rfl) (by kernel_rfl) (by kernel_rfl) (fun _ _ _ h => h) (by kernel_rfl) (.inl ⟨by rfl, fun w hw => by have h0 := hw.2.2.1; have h1 := hw.2.2.2.1; have h2 := hw.2.2.2.2; unfold execOp; go_simp⟩) hS ?_
        try simp only [Act.put, List.setIfInBounds_toArray, List.set_cons_zero, List.set_cons_succ]
        refine firstL 8 (.pointer (some ⟨w.heap.size, 1, none⟩)) rfl (by kernel_rfl) (by kernel_rfl) (by kernel_rfl) (fun _ _ _ h => h) (by kernel_rfl) (.inl ⟨by rfl, fun w hw => by unfold execOp; go_simp⟩) hS ?_
        try simp only [Act.put, List.setIfInBounds_toArray, List.set_cons_zero, List.set_cons_succ]
        refine firstL 9 (.slice oc m kc) rfl (by kernel_rfl) (by kernel_rfl) (by kernel_rfl) (fun _ _ _ h => h) (by kernel_rfl) (.inl ⟨by rfl, fun w hw => by have h := hw.2.1.cell 1; unfold execOp; go_simp⟩) hS ?_
        try simp only [Act.put, List.setIfInBounds_toArray, List.set_cons_zero, List.set_cons_succ]
        refine firstL 10 (.int .i64 (m : Int)) rfl (by kernel_rfl) (by kernel_rfl) (by kernel_rfl) (fun _ _ _ h => h) (by kernel_rfl) (.inl ⟨by rfl, fun w hw => by unfold execOp; go_simp⟩) hS ?_
        try simp only [Act.put, List.setIfInBounds_toArray, List.set_cons_zero, List.set_cons_succ]
        refine stepL 7 rfl (by kernel_rfl) (by rfl) fun K hK => ?_
        go_simp
        refine e1.mono ?_
        clear e1
        rintro e w2 ⟨rfl, hb2⟩
        have b2 := hbd.trans (hb2.mono hbd.size)
        replace hS : Blk 31 w2 p #[.slice (some ⟨v1, 0, none⟩) m m, .slice ox k kx] ∧ Blk 27 w2 w.heap.size #[.slice (some ⟨ga, fa, none⟩) s.attrs.length ka, .slice oc m kc] ∧ w2.cell? ⟨ga, fa + k * 3, none⟩ = some (.string (ad s.attrs k).name) ∧ w2.cell? ⟨ga, fa + k * 3 + 1, none⟩ = some (.slice y1 (ad s.attrs k).cuts.length z1) ∧ w2.cell? ⟨ga, fa + k * 3 + 2, none⟩ = some (.slice y2 (ad s.attrs k).vals.length z2) := ⟨hS.1.below hb2, hS.2.1.below hb2, hkeep _ (b2)⟩
        refine hK _ _ hS ?_
        clear hK K
        try simp only [Act.put, List.setIfInBounds_toArray, List.set_cons_zero, List.set_cons_succ]
        refine firstL 11 (.int .i64 (IntKind.i64.wrap ((nb : Int) * (m : Int)))) rfl (by kernel_rfl) (by kernel_rfl) (by kernel_rfl) (fun _ _ _ h => h) (by kernel_rfl) (.inl ⟨by rfl, fun w hw => by unfold execOp; go_simp⟩) hS ?_
        try simp only [Act.put, List.setIfInBounds_toArray, List.set_cons_zero, List.set_cons_succ]
        have hp2 : p + 1 ≤ w2.heap.size := Nat.le_trans hpr hb2.size
        have b3 := b2.alloc b2.size (.cells Z 3)
        refine stepL 12 rfl (by kernel_rfl) (by rfl) fun K hK => ?_
        go_simp
        replace hS : Blk 31 (w2.alloc (.cells Z 3)) p #[.slice (some ⟨v1, 0, none⟩) m m, .slice ox k kx] ∧ Blk 27 (w2.alloc (.cells Z 3)) w.heap.size #[.slice (some ⟨ga, fa, none⟩) s.attrs.length ka, .slice oc m kc] ∧ (w2.alloc (.cells Z 3)).cell? ⟨ga, fa + k * 3, none⟩ = some (.string (ad s.attrs k).name) ∧ (w2.alloc (.cells Z 3)).cell? ⟨ga, fa + k * 3 + 1, none⟩ = some (.slice y1 (ad s.attrs k).cuts.length z1) ∧ (w2.alloc (.cells Z 3)).cell? ⟨ga, fa + k * 3 + 2, none⟩ = some (.slice y2 (ad s.attrs k).vals.length z2) := ⟨hS.1.alloc _, hS.2.1.alloc _, hkeep _ (b3)⟩
        refine hK _ _ hS ?_
        clear hK K
        try simp only [Act.put, List.setIfInBounds_toArray, List.set_cons_zero, List.set_cons_succ]
        have b3a := b3.alloc b3.size (.cells #[.slice (some ⟨w2.heap.size, 0, none⟩) (nb * m) (nb * m)] 28)
        have X3 := hS.1
        refine stepL 13 rfl (by kernel_rfl) (by rfl) fun K hK => ?_
        go_simp
        replace hS : Blk 31 ((w2.alloc (.cells Z 3)).alloc (.cells #[.slice (some ⟨w2.heap.size, 0, none⟩) (nb * m) (nb * m)] 28)) p #[.slice (some ⟨v1, 0, none⟩) m m, .slice ox k kx] ∧ Blk 27 ((w2.alloc (.cells Z 3)).alloc (.cells #[.slice (some ⟨w2.heap.size, 0, none⟩) (nb * m) (nb * m)] 28)) w.heap.size #[.slice (some ⟨ga, fa, none⟩) s.attrs.length ka, .slice oc m kc] ∧ ((w2.alloc (.cells Z 3)).alloc (.cells #[.slice (some ⟨w2.heap.size, 0, none⟩) (nb * m) (nb * m)] 28)).cell? ⟨ga, fa + k * 3, none⟩ = some (.string (ad s.attrs k).name) ∧ ((w2.alloc (.cells Z 3)).alloc (.cells #[.slice (some ⟨w2.heap.size, 0, none⟩) (nb * m) (nb * m)] 28)).cell? ⟨ga, fa + k * 3 + 1, none⟩ = some (.slice y1 (ad s.attrs k).cuts.length z1) ∧ ((w2.alloc (.cells Z 3)).alloc (.cells #[.slice (some ⟨w2.heap.size, 0, none⟩) (nb * m) (nb * m)] 28)).cell? ⟨ga, fa + k * 3 + 2, none⟩ = some (.slice y2 (ad s.attrs k).vals.length z2) := ⟨hS.1.alloc _, hS.2.1.alloc _, hkeep _ (b3a)⟩
        refine hK _ _ hS ?_
        clear hK K
        try simp only [Act.put, List.setIfInBounds_toArray, List.set_cons_zero, List.set_cons_succ]
        have r3 := (own_below rd hb2).alloc (.cells Z 3)
        have hnw := newcV (w2.alloc (.cells Z 3)) (.slice (some ⟨w2.heap.size, 0, none⟩) (nb * m) (nb * m)) 28
        rw [World.size_alloc] at hnw
        refine stepL 14 rfl (by kernel_rfl) (by rfl) fun K hK => ?_
        refine wp_append_own _ _ _ 29 rfl (p + 1) 28 i0 (.slice none 0 0) 1 24 Try.underlying29 hi0 hz0 hz1 hz2 rfl (by decide) _ _ _ rfl (r3.alloc (.cells #[.slice (some ⟨w2.heap.size, 0, none⟩) (nb * m) (nb * m)] 28)) ⟨w2.heap.size + 1, 0, none⟩ 1 1 [.slice (some ⟨w2.heap.size, 0, none⟩) (nb * m) (nb * m)] rfl rfl hnw (by simp [Value.oneCell']) (by unfold maxLen; omega) (by omega) (by simp; omega) ?_
        intro v4 w4 ho hg4 hnil
        obtain ⟨ov, cv, rfl⟩ := own_slice ho
        have hne : ∀ q, q ≤ p → (Value.slice ox k kx).ownBlock ≠ some q := fun q hq e => by have := hvo _ e; omega
        have b4 := b3a.grown hg4 b3a.size (fun j hj => by have := hvo _ hj; omega)
        replace hS : Blk 31 w4 p #[.slice (some ⟨v1, 0, none⟩) m m, .slice ox k kx] ∧ Blk 27 w4 w.heap.size #[.slice (some ⟨ga, fa, none⟩) s.attrs.length ka, .slice oc m kc] ∧ w4.cell? ⟨ga, fa + k * 3, none⟩ = some (.string (ad s.attrs k).name) ∧ w4.cell? ⟨ga, fa + k * 3 + 1, none⟩ = some (.slice y1 (ad s.attrs k).cuts.length z1) ∧ w4.cell? ⟨ga, fa + k * 3 + 2, none⟩ = some (.slice y2 (ad s.attrs k).vals.length z2) := ⟨hS.1.kept hg4 (hne _ (Nat.le_refl _)), hS.2.1.kept hg4 (hne _ (by omega)), hkeep _ (b4)⟩
        refine hK _ _ hS ?_
        clear hK K
        try simp only [Act.put, List.setIfInBounds_toArray, List.set_cons_zero, List.set_cons_succ]
        refine firstL 15 (.pointer (some ⟨p, 1, none⟩)) rfl (by kernel_rfl) (by kernel_rfl) (by kernel_rfl) (fun _ _ _ h => h) (by kernel_rfl) (.inl ⟨by rfl, fun w hw => by unfold execOp; go_simp⟩) hS ?_
        try simp only [Act.put, List.setIfInBounds_toArray, List.set_cons_zero, List.set_cons_succ]
        have a4 : w4.cell? ⟨p, 1, none⟩ = some (.slice ox k kx) := hS.1.cell 1
        have f4 := hS.1.frozen 1
        refine lastL rfl (by kernel_rfl) (by kernel_rfl) (by rfl) ?_
        go_simp
        have XF := hS.1.setCell 1 (.slice ov (k + 1) cv)
        have rA := r3.alloc (.cells #[.slice (some ⟨w2.heap.size, 0, none⟩) (nb * m) (nb * m)] 28)
        have hb3 : Below w2.heap.size w2 (w2.alloc (.cells Z 3)) := (Below.refl _ _).alloc (Nat.le_refl _) _
        have hb23 := hb2.trans (hb3.mono hb2.size)
        have q3 := HZO.out w2 w2.heap.size (Nat.le_refl _)
        have q3' : (w2.alloc (.cells Z 3)).ownsRow w2.heap.size 3 1 (.slice (some ⟨w2.heap.size, 0, none⟩) (nb * m) (nb * m)) (il (newCells s) k).length ((il (newCells s) k).map (Value.int .i64)) := by rw [HAT.out, List.length_replicate]; exact q3
        have DS := ((dn.below hb23).snoc (B := w2.heap.size) hyl (fun j hj a ha => Nat.lt_of_lt_of_le (dn.lt j hj a ha) hb2.size) q3' hp2).alloc (.cells #[.slice (some ⟨w2.heap.size, 0, none⟩) (nb * m) (nb * m)] 28)
        have DF := (DS.keptRow rA hg4).setCellN (p := p) (q := 1) hS.1 (by decide) (.slice ov (k + 1) cv)
        have b5 : Below w.heap.size w (w4.setCell ⟨p, 1, none⟩ (.slice ov (k + 1) cv)) := b4.setCell (p := ⟨p, 1, none⟩) (by simp; omega) _
        have R1G := hS.2.1.setCell_other ⟨p, 1, none⟩ (.slice ov (k + 1) cv) (by simp; omega)
        have R2G := (((R2D.below hb23).alloc (.cells #[.slice (some ⟨w2.heap.size, 0, none⟩) (nb * m) (nb * m)] 28)).kept hg4 (hne _ (by omega))).setCell_other ⟨p, 1, none⟩ (.slice ov (k + 1) cv) (by simp; omega)
        have ownA := (own_below ownD hb23).alloc (.cells #[.slice (some ⟨w2.heap.size, 0, none⟩) (nb * m) (nb * m)] 28)
        have own3 := ownA.kept hg4 (apart_ty ownA rA (by decide))
        have ownG := own_setCellN own3 p 1 (.slice ov (k + 1) cv) (own_ne_blk own3 hS.1 (by decide))
        have rowG := own_setCellN ho p 1 (.slice ov (k + 1) cv) (own_ne_blk ho hS.1 (by decide))
        clear hS j0 p0 p1 p2 hvo hv2 hne rd hpr hbd hb2 hb3 b2 b3 b3a b4 hmk hnw X3 r3 hg4 hnil a4 f4 rA hb23 q3 q3' DS ownA own3 ho dn R2D ownD
        go_wp2
        go_roundw
        case rel => exact ⟨k + 1, _, _, _, by go_num, by omega, by simp; omega, R1G, R2G, XF, ownG, rowG, DF, b5⟩
        case measure => simp [intOf]; omega
      · obtain rfl : k = s.attrs.length := by omega
        go_wp2_with (first
          | (with_reducible refine wp_st_load rfl _ rfl ?_; refine ⟨p, rfl, _, _, RX, ?_⟩)
          | (with_reducible refine wp_st_store rfl _ _ rfl ?_; refine ⟨w.heap.size + 1, rfl, _, _, _, _, _, _, rfl, _, _, R2, ?_⟩)
          | go_in)
        have hcl := newCells_len s
        have hf1 := own_setRowN (w := wr) own (w.heap.size + 1) #[.slice (some ⟨v1, 0, none⟩) m m, .slice ox s.attrs.length kx] (own_ne_blk own R2 (by decide))
        have hf2 := own_setRowN (w := wr) hrow (w.heap.size + 1) #[.slice (some ⟨v1, 0, none⟩) m m, .slice ox s.attrs.length kx] (own_ne_blk hrow R2 (by decide))
        have hf3 := hdone.setRowN R2 (by decide) #[.slice (some ⟨v1, 0, none⟩) m m, .slice ox s.attrs.length kx]
        refine bodyPost_ret (res_st Try.results32 _ _ _ _ _ rfl (R2.setRow _)) rfl ⟨_, rfl, ?_, below_row hb (by omega) _⟩
        rw [HE.out]
        refine ownSt_mk (B := p + 1) (ys := ys) (L := L) ?_ (fun a ha => by simp [Value.ownBlock] at ha; omega) ?_ ?_ (by omega)
        · show World.ownsRow _ _ _ _ _ (List.replicate s.classes.length (0 : Int)).length ((List.replicate s.classes.length (0 : Int)).map _)
          rw [List.length_replicate, ← HM.out]; exact hf1
        · show World.ownsRow _ _ _ _ _ (newCells s).length _
          rw [hcl]; exact hf2
        · show DoneII _ _ _ _ (newCells s) (newCells s).length
          rw [hcl]; exact hf3
end Go.Proofs.Ytobimpgapfecoaa
