/- Texts of this claim, put together: part 17. -/
import Derived.Test.YtfekcckckmhioaaDoorExTextPack7
import Derived.Deep.RegionLaw
import Derived.Test.YtfekcckckmhioaaDoorExTextPack16
import Derived.Test.YtfekcckckmhioaaDoorExTextPack14
import Derived.Test.YtfekcckckmhioaaDoorRows
import Derived.WalkKit
import Derived.ProofKit
import Derived.OpenShut
import Derived.Deep.RegionHeld3
import Derived.Test.YtfekcckckmhioaaDoorExTextPack3
/- Texts with another one between, by the specification. -/
namespace Go.Proofs.YtfekcckckmhioaaDoor
open Go.RowKit
set_option maxRecDepth 100000
set_option maxHeartbeats 400000 in
theorem specJoin_any (v : Value) (ss : List ByteArray) (sep : ByteArray) (w : World) (h : RowS w v ss) (hn : ss.length ≤ 1048576) (hz : (joinT ss sep).size ≤ 1000000) :
    Calls Tryd.prog 36 #[v, .string sep] w fun e w' => e = .returned (.string (joinT ss sep)) ∧ Below w.heap.size w w' := by
  obtain ⟨oa, cap, rfl, hc, hr⟩ := h
  have HR : Hid (0 < ss.length → ∃ g o, oa = some ⟨g, o, none⟩ ∧ g < w.heap.size ∧ ∀ j, j < ss.length → w.cell? ⟨g, o + j, none⟩ = some (.string (tx ss j))) := hr
  clear hr
  go_enter Tryd.func36, Tryd.ntmps36
  go_wp2
  go_loopw [5, 6] (fun out i wr => ∃ k : Nat, i = .int .i64 k ∧ out = .string (joinT (ss.take k) sep) ∧ k ≤ ss.length ∧ wr = w) (fun _ i _ => ss.length - (intOf i).toNat)
  case atStart => exact ⟨0, rfl, rfl, by omega, rfl⟩
  case round =>
    obtain ⟨k, rfl, rfl, hk, rfl⟩ := hrel
    by_cases hlt : k < ss.length
    · obtain ⟨g, o, rfl, hg, hj⟩ := HR.out (by omega)
      have hcell := hj k hlt
      clear hj HR
      by_cases h0 : 0 < k
      · have hp := joinT_part sep hlt h0
        have HN : Hid (joinT (ss.take (k + 1)) sep = joinT (ss.take k) sep ++ sep ++ tx ss k) := joinT_snoc hlt h0 sep
        generalize joinT (ss.take k) sep = J at hp HN
        generalize tx ss k = t at hcell hp HN
        generalize (joinT ss sep).size = Z at hp hz
        go_wp2
        go_roundw
        case rel => exact ⟨k + 1, by go_num, by rw [HN.out], by omega, by first | rfl | trivial⟩
        case measure => simp [intOf]; omega
      · obtain rfl : k = 0 := by omega
        have hp := joinT_first sep hlt
        have HN : Hid (joinT (ss.take 1) sep = tx ss 0) := joinT_zero hlt sep
        generalize tx ss 0 = t at hcell hp HN
        generalize (joinT ss sep).size = Z at hp hz
        have hcell' : wr.cell? ⟨g, o, none⟩ = some (.string t) := hcell
        have e0 : joinT (ss.take 0) sep = ⟨#[]⟩ := rfl
        rw [e0]
        go_wp2
        go_roundw
        case rel => exact ⟨1, by go_num, by rw [HN.out]; exact congrArg Value.string (bytes_ext (by simp)), by omega, by first | rfl | trivial⟩
        case measure => simp [intOf]; omega
    · obtain rfl : k = ss.length := by omega
      rw [List.take_length]
      go_wp2
      go_ret
      exact ⟨rfl, Below.refl _ _⟩
end Go.Proofs.YtfekcckckmhioaaDoor
/- The text of an example, by the specification. -/
namespace Go.Proofs.YtfekcckckmhioaaDoor
open Go.RowKit
set_option maxRecDepth 100000
set_option linter.unusedSimpArgs false
set_option maxHeartbeats 3200000 in
theorem specExText_any (vs ve : Value) (s : SchemaD) (e : ExD) (w : World) (hs : SchemaAt w vs s) (he : ExAt w ve e) (hn : okSch s) (hb : e.bins.length ≤ 1099511627776) :
    Calls Tryd.prog 12 #[vs, ve] w fun r w' => r = .returned (.string (exText s e)) ∧ Below w.heap.size w w' := by
  obtain ⟨i0, hi, hi0, hi1, hi2⟩ := info_parts strInfo
  have HS : Hid (∀ W, Below w.heap.size w W → SchemaAt W vs s) := fun W h => hs.later h
  have HEX : Hid (∀ W, Below w.heap.size w W → ExAt W ve e) := fun W h => he.later h
  have HOK : Hid (okSch s) := hn
  obtain ⟨va, vc, rfl, ra, rc⟩ := hs
  obtain ⟨oa, ka, rfl, -, -⟩ := id ra
  obtain ⟨oc, kc, rfl, -, -⟩ := id rc
  obtain ⟨vb, rfl, rb⟩ := he
  obtain ⟨ob, kb, rfl, -, -⟩ := id rb
  have la := hn.attrs
  have lc := hn.classes.1
  clear ra rc rb hn
  have B0 : Below w.heap.size w ((w.alloc (.cells #[.slice oa s.attrs.length ka, .slice oc s.classes.length kc] 42)).alloc (.cells #[.slice ob e.bins.length kb, .int .i64 e.cls] 44)) := ((Below.refl _ _).alloc (Nat.le_refl _) _).alloc (by simp) _
  have K1 := (Blk.new 42 w #[.slice oa s.attrs.length ka, .slice oc s.classes.length kc]).alloc (.cells #[.slice ob e.bins.length kb, .int .i64 e.cls] 44)
  have K2 : Blk 44 ((w.alloc (.cells #[.slice oa s.attrs.length ka, .slice oc s.classes.length kc] 42)).alloc (.cells #[.slice ob e.bins.length kb, .int .i64 e.cls] 44)) (w.heap.size + 1) #[.slice ob e.bins.length kb, .int .i64 e.cls] := by
    have := Blk.new 44 (w.alloc (.cells #[.slice oa s.attrs.length ka, .slice oc s.classes.length kc] 42)) #[.slice ob e.bins.length kb, .int .i64 e.cls]
    rwa [show (w.alloc (.cells #[.slice oa s.attrs.length ka, .slice oc s.classes.length kc] 42)).heap.size = w.heap.size + 1 by simp] at this
  have e1 := specExOk_any _ _ s e _ (HS.out _ B0) (HEX.out _ B0) HOK.out hb
  cases hk : exOk s e with
  | false =>
    have HE : Hid (exText s e = ⟨#[]⟩) := by unfold exText; rw [hk]; rfl
    rw [hk] at e1
    clear hk K1 K2
    go_enter Tryd.func12, Tryd.ntmps12
    go_wp2_with fail
    refine e1.mono ?_
    clear e1
    rintro r w1 ⟨rfl, hb1⟩
    go_wp2
    go_ret
    exact ⟨by rw [HE.out]; rfl, B0.trans (hb1.mono (by simp; omega))⟩
  | true =>
    have HX : Hid (exText s e = joinT (cellsT s e e.bins.length) ⟨#[44]⟩ ++ ⟨#[124]⟩ ++ classText s e.cls) := by unfold exText; rw [hk]; rfl
    have HP : Hid (schemaOk s = true ∧ e.bins.length = s.attrs.length ∧ (-1 ≤ e.cls ∧ e.cls ≤ (s.classes.length : Int) - 1) ∧ binsRight s e = true) := ex_parts hk
    rw [hk] at e1
    clear hk
    go_enter Tryd.func12, Tryd.ntmps12
    go_wp2_with fail
    refine e1.mono ?_
    clear e1
    rintro r w1 ⟨rfl, hb1⟩
    have hs1 := hb1.size
    simp only [World.size_alloc] at hs1
    have B1 := B0.trans (hb1.mono (by simp; omega))
    replace K1 := K1.below hb1
    replace K2 := K2.below hb1
    clear hb1 B0
    have HK : Hid (∀ W, Below w1.heap.size w1 W → Blk 42 W w.heap.size #[.slice oa s.attrs.length ka, .slice oc s.classes.length kc] ∧ Blk 44 W (w.heap.size + 1) #[.slice ob e.bins.length kb, .int .i64 e.cls]) := fun W h => ⟨K1.below h, K2.below h⟩
    have bl : Below w1.heap.size w1 (w1.alloc (.cells #[] 9)) := (Below.refl _ _).alloc (Nat.le_refl _) _
    have ol : (w1.alloc (.cells #[] 9)).ownsRow w1.heap.size 9 1 (.slice (some ⟨w1.heap.size, 0, none⟩) 0 0) 0 [] := World.ownsRow_lit (base := w1.heap.size) (e := 9) (size := 1) w1 #[] 0 (Nat.le_refl _) (by decide) rfl
    clear K1 K2
    go_wp2
    go_loopw [5, 6] (fun v i wr => ∃ k : Nat, i = .int .i64 k ∧ k ≤ e.bins.length ∧ wr.ownsRow w1.heap.size 9 1 v k ((cellsT s e k).map Value.string) ∧ Below w1.heap.size w1 wr) (fun _ i _ => e.bins.length - (intOf i).toNat)
    case atStart => exact ⟨0, rfl, by omega, ol, bl⟩
    case round =>
      obtain ⟨k, rfl, hk, own, hbr⟩ := hrel
      have hbw := B1.trans (hbr.mono B1.size)
      obtain ⟨A1, A2⟩ := HK.out wr hbr
      have k0 : wr.cell? ⟨w.heap.size, 0, none⟩ = some (.slice oa s.attrs.length ka) := A1.cell 0
      have k1 : wr.cell? ⟨w.heap.size, 1, none⟩ = some (.slice oc s.classes.length kc) := A1.cell 1
      have j0 : wr.cell? ⟨w.heap.size + 1, 0, none⟩ = some (.slice ob e.bins.length kb) := A2.cell 0
      have j1 : wr.cell? ⟨w.heap.size + 1, 1, none⟩ = some (.int .i64 e.cls) := A2.cell 1
      clear ol bl
      by_cases hlt : k < e.bins.length
      · obtain ⟨va', vc', e', rA, -⟩ := HS.out wr hbw
        cases e'
        obtain ⟨oa', ka', e', -, hrA⟩ := rA
        cases e'
        have hkA : k < s.attrs.length := by have := HP.out.2.1; omega
        obtain ⟨ga, fa, rfl, hga, hjA⟩ := hrA (by omega)
        obtain ⟨x1, x2, c0, c1, c2, r1, r2⟩ := hjA k hkA
        obtain ⟨y1, z1, rfl, -, -⟩ := id r1
        obtain ⟨y2, z2, rfl, -, -⟩ := id r2
        obtain ⟨vb', e', rB⟩ := HEX.out wr hbw
        cases e'
        obtain ⟨ob', kb', e', -, hrB⟩ := rB
        cases e'
        obtain ⟨gb, fb, rfl, hgb, hjB⟩ := hrB (by omega)
        have b0 := hjB k hlt
        have bd : Below wr.heap.size wr wr.drew := below_drewN (Below.refl _ _) 1
        have e1 := specCellText_any (.agg #[.string (ad s.attrs k).name, .slice y1 (ad s.attrs k).cuts.length z1, .slice y2 (ad s.attrs k).vals.length z2]) (ad s.attrs k) (e.bins.getD k 0) wr.drew ⟨_, _, rfl, r1.later bd, r2.later bd⟩ (HOK.out.each _ (ad_mem hkA))
        have HCT : Hid ((cellsT s e (k + 1)).map Value.string = (cellsT s e k).map Value.string ++ [.string (cellText (ad s.attrs k) (e.bins.getD k 0))]) := by rw [cellsT_succ, List.map_append]; rfl
        generalize cellText (ad s.attrs k) (e.bins.getD k 0) = T at e1 HCT
        generalize e.bins.getD k 0 = zb at e1 b0
        have od : wr.drew.ownsRow w1.heap.size 9 1 _ k ((cellsT s e k).map Value.string) := own
        obtain ⟨ov, cv, rfl⟩ := own_slice own
        have hvo : ∀ j, (Value.slice ov k cv).ownBlock = some j → w1.heap.size ≤ j := fun j hj => (own.lt j hj).1
        have d0 : wr.drew.cell? ⟨ga, fa + k * 3, none⟩ = some (.string (ad s.attrs k).name) := c0
        have d1 : wr.drew.cell? ⟨ga, fa + k * 3 + 1, none⟩ = some (.slice y1 (ad s.attrs k).cuts.length z1) := c1
        have d2 : wr.drew.cell? ⟨ga, fa + k * 3 + 2, none⟩ = some (.slice y2 (ad s.attrs k).vals.length z2) := c2
        have d3 : wr.drew.cell? ⟨gb, fb + k, none⟩ = some (.int .i64 zb) := b0
        have d4 : wr.drew.cell? ⟨w.heap.size, 0, none⟩ = some (.slice (some ⟨ga, fa, none⟩) s.attrs.length ka) := k0
        have d5 : wr.drew.cell? ⟨w.heap.size + 1, 0, none⟩ = some (.slice (some ⟨gb, fb, none⟩) e.bins.length kb) := j0
        have hbd : Below w1.heap.size w1 wr.drew := below_drewN hbr 1
        have hsr := hbr.size
        clear own hjA hjB hrA hrB r1 r2 hbr hbw hga hgb A1 A2 k1 j1
        go_wp2
        go_region_law (first
          | (refine step_wp rfl ?_; unfold Oper.wp; go_simp; go_at_call 6; refine e1.mono ?_; clear e1; rintro r w2 ⟨rfl, hb2⟩; have o2 := own_below od hb2; have hs2 : w1.heap.size ≤ w2.heap.size := Nat.le_trans hbd.size hb2.size)
          | (refine step_wp rfl (wp_append_own _ _ _ 23 rfl w1.heap.size 9 i0 (.string ⟨#[]⟩) 1 16 Tryd.underlying23 hi hi0 hi1 hi2 rfl (by decide) _ _ _ rfl (o2.alloc (.cells #[.string T] 9)) ⟨w2.heap.size, 0, none⟩ 1 1 [.string T] rfl rfl (newc _ _ _) (by simp [Value.oneCell']) (by unfold maxLen; omega) (by omega) (by simp; omega) ?_); intro v' w3 ho hg3 hnil))
        all_goals
          have b3 : Below w1.heap.size w1 w3 := ((hbd.trans (hb2.mono hbd.size)).alloc (by omega) (.cells #[.string T] 9)).grown hg3 (by simp; omega) hvo
          clear hg3 hnil hb2 o2 hvo od d0 d1 d2 d3 d4 d5 c0 c1 c2 b0 k0 j0
          go_wp2
          go_roundw
          case rel => exact ⟨k + 1, by go_num, by omega, by rw [HCT.out]; exact ho, b3⟩
          case measure => simp [intOf]; omega
      · obtain rfl : k = e.bins.length := by omega
        have hlen := HP.out.2.1
        have h5 : s.attrs.length ≤ 5 := by have := (sch_parts5 HP.out.1).1; omega
        have HROW : Hid (∀ W, Below wr.heap.size wr W → RowS W _ (cellsT s e e.bins.length)) := fun W h => (RowS.of_own own (cellsT_len s e _)).later h
        have hjz : (joinT (cellsT s e e.bins.length) ⟨#[44]⟩).size ≤ 1000000 := by
          have := joinT_size (cellsT s e e.bins.length) ⟨#[44]⟩ 8 (fun t ht => by
            obtain ⟨i, _, rfl⟩ := List.mem_map.1 ht
            exact cellText_size _ _)
          rw [cellsT_len] at this
          have h1 : (⟨#[44]⟩ : ByteArray).size = 1 := rfl
          rw [h1] at this
          omega
        have e1 := specJoin_any _ (cellsT s e e.bins.length) ⟨#[44]⟩ wr (HROW.out wr (Below.refl _ _)) (by rw [cellsT_len]; omega) hjz
        obtain ⟨ov, cv, rfl⟩ := own_slice own
        have HCL := HP.out.2.2.1
        have HCLS : Hid (∀ c : Nat, (c : Int) ≤ (s.classes.length : Int) - 1 → ∃ g o, oc = some ⟨g, o, none⟩ ∧ wr.cell? ⟨g, o + c, none⟩ = some (.string (tx s.classes c))) := fun c hc => by
          obtain ⟨va', vc', e', -, rC⟩ := HS.out wr hbw
          cases e'
          obtain ⟨oc', kc', e', -, hr⟩ := rC
          cases e'
          obtain ⟨g, o, e', hg, hj⟩ := hr (by omega)
          exact ⟨g, o, e', hj c (by omega)⟩
        generalize joinT (cellsT s e e.bins.length) ⟨#[44]⟩ = J at e1 hjz HX
        have HX2 : Hid (exText s e = J ++ ⟨#[124]⟩ ++ classText s e.cls) := HX.out
        clear HX hlen own HROW A1 A2
        by_cases hc : 0 ≤ e.cls
        · obtain ⟨c, hce⟩ := Int.eq_ofNat_of_zero_le hc
          have hce' : e.cls = (c : Int) := hce
          have hcl2 : (c : Int) ≤ (s.classes.length : Int) - 1 := by omega
          obtain ⟨g, o, rfl, hcell⟩ := HCLS.out c hcl2
          have HX3 : Hid (exText s e = J ++ ⟨#[124]⟩ ++ tx s.classes c) := by
            rw [HX2.out]; unfold classText; rw [if_pos hc, hce']; rfl
          have hcl3 : c < s.classes.length := by omega
          rw [hce'] at j1
          have hCz : (tx s.classes c).size ≤ 1099511627776 := HOK.out.classes.2 _ (tx_mem hcl3)
          generalize tx s.classes c = C at hcell HX3 hCz
          clear HX2 hc hce hce' HCL HCLS hcl2
          go_wp2_with fail
          refine e1.mono ?_
          clear e1
          rintro r w2 ⟨rfl, hb2⟩
          go_wp2
          go_ret
          exact ⟨by rw [HX3.out]; rfl, hbw.trans (hb2.mono hbw.size)⟩
        · have HX3 : Hid (exText s e = J ++ ⟨#[124]⟩ ++ ⟨#[63]⟩) := by
            rw [HX2.out]; unfold classText; rw [if_neg hc]; rfl
          have hcn : ¬ (0 : Int) ≤ e.cls := hc
          clear HX2 HCL HCLS hc
          go_wp2_with fail
          refine e1.mono ?_
          clear e1
          rintro r w2 ⟨rfl, hb2⟩
          go_wp2
          go_ret
          exact ⟨by rw [HX3.out]; rfl, hbw.trans (hb2.mono hbw.size)⟩
end Go.Proofs.YtfekcckckmhioaaDoor
/- In a region that draws its order: what may be taken first, what comes next. -/
namespace Go.Proofs.YtfekcckckmhioaaDoor
open Go.RowKit
set_option maxRecDepth 100000

section
variable {Pr : Program} {ops : Array Oper} {Q : Exit → Act → World → Prop} {md : Region.Mode} {S : World → Prop}
/-- An operation that may come up now is taken first; it is read off the list, so that it stands written out. -/
theorem takeL (i : Nat) {oi : Oper} (v : Value) {fuel : Nat} {listed : Array Bool} {a : Act} {w : World} (hi : ops.toList[i]? = some oi)
    (hs : Region.noSelect ops = true) (hf : Region.free md ops listed i = true) (hr : (Region.ready md ops listed).contains i = true)
    (hQ : ∀ c a w, Q (.panic c) (a.put oi.dst v) w → Q (.panic c) a w) (hy : YieldsIf Pr ops S oi v a) (hS : S w)
    (h : wpAnyH Pr md ops Q S fuel (listed.setIfInBounds i true) (a.put oi.dst v) w) : wpAnyH Pr md ops Q S (fuel + 1) listed a w :=
  wpAnyH_take (by simpa using hi) hs hf hr hQ hy hS h
/-- The one operation that may come up now. -/
theorem nextL (i : Nat) {oi : Oper} {fuel : Nat} {listed : Array Bool} {a : Act} {w : World} (hi : ops.toList[i]? = some oi) (hr : Region.ready md ops listed = [i])
    (hw : Region.wanted oi (yielded ops a.tmps) = true)
    (h : ∀ K' : Act → World → Prop, (∀ a w, S w → (S w → wpAnyH Pr md ops Q S fuel (listed.setIfInBounds i true) a w) → K' a w) → Oper.wp Pr oi a w K' Q) : wpAnyH Pr md ops Q S (fuel + 1) listed a w := by
  refine wpAnyH_ready hr (by simp) (AllReadyH.cons (o := oi) (by simpa using hi) (fun K hK => ?_) AllReadyH.nil)
  rw [if_pos hw]
  exact h K hK.out
/-- Two may come up now, in either order. -/
theorem next2L (i j : Nat) {oi oj : Oper} {fuel : Nat} {listed : Array Bool} {a : Act} {w : World} (hi : ops.toList[i]? = some oi) (hj : ops.toList[j]? = some oj) (hr : Region.ready md ops listed = [i, j])
    (hw : Region.wanted oi (yielded ops a.tmps) = true) (hw2 : Region.wanted oj (yielded ops a.tmps) = true)
    (h : ∀ K' : Act → World → Prop, (∀ a w, S w → (S w → wpAnyH Pr md ops Q S fuel (listed.setIfInBounds i true) a w) → K' a w) → Oper.wp Pr oi a w K' Q)
    (h2 : ∀ K' : Act → World → Prop, (∀ a w, S w → (S w → wpAnyH Pr md ops Q S fuel (listed.setIfInBounds j true) a w) → K' a w) → Oper.wp Pr oj a w K' Q) : wpAnyH Pr md ops Q S (fuel + 1) listed a w := by
  refine wpAnyH_ready hr (by simp) (AllReadyH.cons (o := oi) (by simpa using hi) (fun K hK => ?_) (AllReadyH.cons (o := oj) (by simpa using hj) (fun K hK => ?_) AllReadyH.nil))
  · rw [if_pos hw]
    exact h K hK.out
  · rw [if_pos hw2]
    exact h2 K hK.out
end

section
variable {ops : Array Oper} {S : World → Prop} {op : Oper} {a : Act}
/-- The load of one integer. -/
theorem yields_int (hw : Region.wanted op (yielded ops a.tmps) = true) (x : Operand) (ho : op.op = .load 3 x) (p : Addr) (hx : a.eval x = .pointer (some p)) (n : Int)
    (hS : ∀ w, S w → w.cell? p = some (.int .i64 n)) : YieldsIf Tryd.prog ops S op (.int .i64 n) a :=
  .inl ⟨hw, fun w hw' => by
    have h := hS w hw'
    unfold execOp
    simp only [ho, hx]
    go_simp⟩
/-- A quotient. -/
theorem yields_quo (hw : Region.wanted op (yielded ops a.tmps) = true) (x y : Operand) (ho : op.op = .binOp .quo 3 x y 3) (m n : Int) (hx : a.eval x = .int .i64 m) (hy : a.eval y = .int .i64 n)
    (h0 : 0 ≤ m) (h1 : m ≤ 9223372036854775807) (h2 : 0 < n) : YieldsIf Tryd.prog ops S op (.int .i64 (m / n)) a :=
  .inl ⟨hw, fun w hw' => by
    have hle : m / n ≤ m := Int.ediv_le_self _ h0
    have hge : 0 ≤ m / n := Int.ediv_nonneg h0 (by omega)
    unfold execOp
    simp only [ho, hx, hy]
    go_simp
    have e : IntKind.i64.wrap (m.tdiv n) = m / n := by rw [IntKind.wrap_i64, Int.tdiv_eq_ediv_of_nonneg h0]; omega
    rw [if_neg (by omega), e]⟩
/-- Two texts, one behind the other. -/
theorem yields_cat (hw : Region.wanted op (yielded ops a.tmps) = true) (x y : Operand) (ho : op.op = .binOp .add 9 x y 9) (s t : ByteArray) (hx : a.eval x = .string s) (hy : a.eval y = .string t)
    (h : s.size + t.size ≤ 1000000) : YieldsIf Tryd.prog ops S op (.string (s ++ t)) a :=
  .inl ⟨hw, fun w hw' => by
    unfold execOp
    simp only [ho, hx, hy]
    go_simp
    omega⟩
end
end Go.Proofs.YtfekcckckmhioaaDoor
/- In a region that draws its order: the load of a whole struct. -/
namespace Go.Proofs.YtfekcckckmhioaaDoor
open Go.RowKit
set_option maxRecDepth 100000

theorem yields_row {ops : Array Oper} {S : World → Prop} {op : Oper} {a : Act} {T : TypeId} {d : Array Field} {cs : Array Value} (hu : Tryd.prog.underlying T = some (.struct d))
    (hi : (Tryd.prog.info? T).map (·.size) = some cs.size) (hw : Region.wanted op (yielded ops a.tmps) = true) (x : Operand) (ho : op.op = .load T x)
    (g : Nat) (hx : a.eval x = .pointer (some ⟨g, 0, none⟩)) (hS : ∀ w, S w → Blk T w g cs) : YieldsIf Tryd.prog ops S op (.agg cs) a :=
  .inl ⟨hw, fun w hw' => by
    unfold execOp
    simp only [ho, hx, Instr.loadAt, Instr.sureAddr, Sem.run_bind, Sem.run_pure, Result.andThen_ok, run_loadVar_row w g _ T _ _ _ (hS w hw') hu rfl hi]⟩
end Go.Proofs.YtfekcckckmhioaaDoor
