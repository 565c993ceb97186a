/- Texts of this claim, put together: part 17. -/
import Derived.Test.YtfflodcapcamcaaDoorFnCandidatesPack11
import Derived.Test.YtfflodcapcamcaaDoorFnCandidatesPack16
import Derived.Laws.AppendOwnNone
import Derived.Test.YtfflodcapcamcaaDoorFnCandidatesPack12
import Derived.Test.YtfflodcapcamcaaDoorFnCandidatesPack5
import Derived.Test.YtfflodcapcamcaaDoorFnCandidatesPack4
import Derived.Test.YtfflodcapcamcaaDoorFnCandidatesPack15
/- How many questions with two answers there are, by the program. -/
namespace Go.Proofs.YtfflodcapcamcaaDoor
open Go.RowKit
set_option maxRecDepth 100000
set_option maxHeartbeats 400000 in
theorem twoWays_any (v : Value) (a : AttrD) (w : World) (h : AttrAt w v a) (hok : attrOk a = true) : Calls Tryd.prog 17 #[v] w fun e w' => e = .returned (.int .i64 (wayN a)) ∧ Below w.heap.size w w' := by
  have hk := ok_kind hok
  have B0 : ∀ o, Below w.heap.size w (w.alloc o) := fun o => (Below.refl _ _).alloc (Nat.le_refl _) _
  have c := fun o => nominal_any v a (w.alloc o) (h.later (B0 o))
  obtain ⟨vc, vv, rfl, hc, hv⟩ := h
  obtain ⟨oc, cc, rfl, -, -⟩ := hc
  obtain ⟨ov, cv, rfl, -, -⟩ := hv
  have K : Blk 46 (w.alloc (.cells #[.string a.name, .slice oc a.cuts.length cc, .slice ov a.vals.length cv] 46)) w.heap.size #[.string a.name, .slice oc a.cuts.length cc, .slice ov a.vals.length cv] := Blk.new _ _ _
  have B1 := B0 (.cells #[.string a.name, .slice oc a.cuts.length cc, .slice ov a.vals.length cv] 46)
  clear B0
  by_cases h0 : 0 < a.vals.length
  · have HE : Hid (wayN a = a.vals.length) := by unfold wayN; exact if_pos (by omega)
    rw [decide_eq_true h0] at c
    clear hk
    go_enter Tryd.func17, Tryd.ntmps17
    go_wp2_with fail
    refine (c _).mono ?_
    clear c
    rintro e w1 ⟨rfl, hb1⟩
    have k2 : w1.cell? ⟨w.heap.size, 2, none⟩ = some (.slice ov a.vals.length cv) := (K.below hb1).cell 2
    have B2 := B1.trans (hb1.mono B1.size)
    clear hb1 K B1
    go_wp2
    go_ret
    exact ⟨by rw [HE.out]; rfl, B2⟩
  · have HE : Hid (wayN a = a.cuts.length) := by unfold wayN; exact if_neg (by omega)
    rw [decide_eq_false h0] at c
    clear hk
    go_enter Tryd.func17, Tryd.ntmps17
    go_wp2_with fail
    refine (c _).mono ?_
    clear c
    rintro e w1 ⟨rfl, hb1⟩
    have k1 : w1.cell? ⟨w.heap.size, 1, none⟩ = some (.slice oc a.cuts.length cc) := (K.below hb1).cell 1
    have B2 := B1.trans (hb1.mono B1.size)
    clear hb1 K B1
    go_wp2
    go_ret
    exact ⟨by rw [HE.out]; rfl, B2⟩
end Go.Proofs.YtfflodcapcamcaaDoor
/- The questions that may be asked, by the program. -/
namespace Go.Proofs.YtfflodcapcamcaaDoor
open Go.RowKit
set_option maxRecDepth 100000
set_option linter.unusedSimpArgs false
set_option maxHeartbeats 3200000 in
theorem implCandidates_any (vs vl : Value) (s : SchemaD) (l : List Int) (two : Bool) (w : World) (hs : SchemaAt w vs s) (hn : okSch s) (hl : RowI w vl l) (hl2 : l.length ≤ 1048576) :
    Calls Tryd.prog 6 #[vs, vl, .bool two] w fun e w' => ∃ v, e = .returned v ∧ OwnF w w' v (candidates s l two) := by
  obtain ⟨i0, hi0, hz0, hz1, hz2⟩ := info_parts forkInfo
  have HS : Hid (∀ W, Below w.heap.size w W → SchemaAt W vs s) := fun W h => hs.later h
  have HOK : Hid (okSch s) := hn
  have la := hn.attrs
  have B0 : ∀ o, Below w.heap.size w (w.alloc o) := fun o => (Below.refl _ _).alloc (Nat.le_refl _) _
  have cc := fun o => implAttrsOk_any vs vl s l (w.alloc o) (hs.later (B0 o)) hn (hl.later (B0 o)) (by omega)
  clear B0
  obtain ⟨va, vc, rfl, ra, -⟩ := hs
  obtain ⟨oa, ka, rfl, -, -⟩ := id ra
  obtain ⟨ol, kl, rfl, hcl, hrl⟩ := id hl
  clear ra hn
  obtain ⟨KS, B⟩ := blk_1 27 w #[.slice oa s.attrs.length ka, vc]
  cases hk : placesOk s l with
  | false =>
    have HE : Hid (candidates s l two = []) := by unfold candidates; rw [hk]; rfl
    rw [hk] at cc
    clear hk hrl hl
    go_enter Tryd.func6, Tryd.ntmps6
    go_wp2_with fail
    refine (cc _).mono ?_
    clear cc
    rintro e w1 ⟨rfl, hb⟩
    replace B := B.trans (hb.mono B.size)
    go_wp2
    go_ret
    exact ⟨_, rfl, by rw [HE.out]; exact World.ownsRow_nil _ _ _ _, B⟩
  | true =>
    have HE : Hid (candidates s l two = candTo s two l l.length) := by show _ = _; unfold candidates; rw [if_pos hk, candTo_all]
    obtain ⟨hsch, hpl⟩ := places_parts hk
    have HPL : Hid (∀ k, k < l.length → ∃ a : Nat, l.getD k 0 = (a : Int) ∧ a < s.attrs.length) := hpl
    have HAO : Hid (∀ j, j < s.attrs.length → attrOk (ad s.attrs j) = true) := fun j hj => sch_attr hsch hj
    rw [hk] at cc
    clear hk hsch hpl
    have HR : Hid (∀ k, k < l.length → ∃ g o, ol = some ⟨g, o, none⟩ ∧ ∀ W, Below w.heap.size w W → W.cell? ⟨g, o + k, none⟩ = some (.int .i64 (l.getD k 0))) := fun k hk => by
      obtain ⟨g, o, rfl, hg, hj⟩ := hrl (by omega)
      exact ⟨g, o, rfl, fun W h => (h.cell (p := ⟨g, o + k, none⟩) hg).trans (hj k hk)⟩
    clear hrl hl
    go_enter Tryd.func6, Tryd.ntmps6
    go_wp2_with fail
    refine (cc _).mono ?_
    clear cc
    rintro e w1 ⟨rfl, hb⟩
    replace B := B.trans (hb.mono B.size)
    replace KS := KS.below hb
    have hsz := B.size
    have HB1 : Hid (Below w.heap.size w w1) := B
    have HK : Hid (∀ W, Below w1.heap.size w1 W → Blk 27 W w.heap.size #[.slice oa s.attrs.length ka, vc]) := fun W h => KS.below h
    clear hb KS B
    go_wp2
    go_loopw [7, 18] (fun v i wr => ∃ (k : Nat) (fs : List ForkD), i = .int .i64 k ∧ k ≤ l.length ∧ Hid (fs = candTo s two l k) ∧ fs.length ≤ 4 * k ∧ wr.ownsRow w1.heap.size 36 2 v fs.length (fkC fs) ∧ Below w1.heap.size w1 wr) (fun _ i _ => l.length - (intOf i).toNat)
    case atStart => exact ⟨0, [], rfl, by omega, rfl, by simp, World.ownsRow_nil _ _ _ _, Below.refl _ _⟩
    case round =>
      obtain ⟨k, fs, rfl, hk, HF, hfl, hown, hbr⟩ := hrel
      by_cases hlt : k < l.length
      rotate_left
      · obtain rfl : k = l.length := by omega
        go_wp2
        go_ret
        exact ⟨_, rfl, by rw [HE.out, ← HF.out]; exact own_base hown hsz, HB1.out.trans (hbr.mono hsz)⟩
      have B := HB1.out.trans (hbr.mono hsz)
      obtain ⟨g, o, rfl, hcl'⟩ := HR.out k hlt
      obtain ⟨a, ha, hal⟩ := HPL.out k hlt
      have hcx := hcl' wr B
      rw [ha] at hcx
      have HST : Hid (candTo s two l (k + 1) = candTo s two l k ++ candOf s two (a : Int)) := by show _ = _; rw [candTo_succ hlt, ha]
      clear hcl' ha
      obtain ⟨ga, fa, y1, z1, y2, z2, rfl, hat⟩ := attr_at (HS.out wr B) hal
      have HAT : Hid _ := hat
      obtain ⟨c0, c1, c2, -⟩ := hat _ (Below.refl _ _)
      have kS0 : wr.cell? ⟨w.heap.size, 0, none⟩ = some (.slice (some ⟨ga, fa, none⟩) s.attrs.length ka) := (HK.out wr hbr).cell 0
      clear hat
      have bA : Below wr.heap.size wr (wr.alloc (.cells #[.string (ad s.attrs a).name, .slice y1 (ad s.attrs a).cuts.length z1, .slice y2 (ad s.attrs a).vals.length z2] 46)) := (Below.refl _ _).alloc (Nat.le_refl _) _
      have KA := Blk.new 46 wr #[.string (ad s.attrs a).name, .slice y1 (ad s.attrs a).cuts.length z1, .slice y2 (ad s.attrs a).vals.length z2]
      have cc := nominal_any _ _ _ (HAT.out _ bA).2.2.2
      have HAA : Hid (∀ W, Below (wr.alloc (.cells #[.string (ad s.attrs a).name, .slice y1 (ad s.attrs a).cuts.length z1, .slice y2 (ad s.attrs a).vals.length z2] 46)).heap.size (wr.alloc (.cells #[.string (ad s.attrs a).name, .slice y1 (ad s.attrs a).cuts.length z1, .slice y2 (ad s.attrs a).vals.length z2] 46)) W → AttrAt W (.agg #[.string (ad s.attrs a).name, .slice y1 (ad s.attrs a).cuts.length z1, .slice y2 (ad s.attrs a).vals.length z2]) (ad s.attrs a)) := fun W h => (HAT.out W (bA.trans (h.mono (by simp)))).2.2.2
      replace hown := own_below hown bA
      have hbr2 := hbr.trans (bA.mono hbr.size)
      have kA0 := KA.cell 0
      have kA1 := KA.cell 1
      have kA2 := KA.cell 2
      simp only [List.getElem?_toArray, List.getElem?_cons_zero, List.getElem?_cons_succ] at kA0 kA1 kA2
      go_wp2_with fail
      refine cc.mono ?_
      clear cc kA0 kA1 kA2
      rintro e w2 ⟨rfl, hb⟩
      replace hown := own_below hown hb
      replace hbr := hbr2.trans (hb.mono hbr2.size)
      have HA2 : Hid (∀ W, Below w2.heap.size w2 W → AttrAt W (.agg #[.string (ad s.attrs a).name, .slice y1 (ad s.attrs a).cuts.length z1, .slice y2 (ad s.attrs a).vals.length z2]) (ad s.attrs a)) := fun W h => HAA.out W (hb.trans (h.mono hb.size))
      replace KA := KA.below hb
      clear hb hbr2 bA HAA HAT kS0 c0 c1 c2 B hcx
      have hok := HAO.out a hal
      have hkd := ok_kind hok
      have h4 := wayN_le hok
      by_cases hc : (ad s.attrs a).cuts.length = 0 ∧ two = false
      · have HN : Hid (candTo s two l (k + 1) = fs ++ [⟨(a : Int), -1⟩]) := by show _ = _; rw [HST.out, ← HF.out, cand_one hc.1 hc.2]
        obtain ⟨hc1, rfl⟩ := hc
        rw [decide_eq_true (show 0 < (ad s.attrs a).vals.length by omega)]
        clear hc1 hkd h4 hok KA
        go_wp2_with (at_builtin; refine wpList_append_own _ rfl _ _ 31 rfl w1.heap.size 36 i0 (.agg #[.int .i64 0, .int .i64 0]) 2 16 Tryd.underlying31 hi0 hz0 hz1 hz2 rfl (by decide) _ _ _ rfl (hown.alloc _) ⟨w2.heap.size, 0, none⟩ 1 1 [.int .i64 a, .int .i64 (-1)] rfl rfl (newcF2 _ _ _ _) (one2 _ _) (by unfold maxLen; omega) (by omega) (by have := hbr.size; simp; omega) ?_)
        intro v' w5 ho hg hnil
        have hb5 : Below w1.heap.size w1 w5 := (hbr.alloc hbr.size _).grown hg (by have := hbr.size; simp; omega) (fun k hk => (hown.lt k hk).1)
        clear hg hnil hbr hown
        go_wp2
        go_roundw
        case rel =>
          refine ⟨k + 1, fs ++ [⟨(a : Int), -1⟩], by go_num, by omega, by show _ = _; exact HN.out.symm, by simp; omega, ?_, hb5⟩
          rw [List.length_append, fkC_snoc]
          exact ho
        case measure => simp [intOf]; omega
      have HN : Hid (candTo s two l (k + 1) = fs ++ wayF a (wayN (ad s.attrs a))) := by show _ = _; rw [HST.out, ← HF.out, cand_ways hc]
      have cc := twoWays_any _ _ _ (HA2.out _ (Below.refl _ _)) hok
      generalize wayN (ad s.attrs a) = nw at cc HN h4
      have kA0 := KA.cell 0
      have kA1 := KA.cell 1
      have kA2 := KA.cell 2
      simp only [List.getElem?_toArray, List.getElem?_cons_zero, List.getElem?_cons_succ] at kA0 kA1 kA2
      generalize hvl : decide (0 < (ad s.attrs a).vals.length) = nm
      have hnm : (nm && !two) = false := by
        cases two with
        | true => simp
        | false =>
          rw [← hvl, decide_eq_false (show ¬ 0 < (ad s.attrs a).vals.length by
            intro h
            have h1 : (ad s.attrs a).cuts.length ≠ 0 := fun e => hc ⟨e, rfl⟩
            have := hkd.2 h1
            omega)]; rfl
      clear hc hkd hok hvl
      cases nm with
      | true =>
        obtain rfl : two = true := by simpa using hnm
        clear hnm
        go_wp2_with fail
        refine cc.mono ?_
        clear cc kA0 kA1 kA2
        rintro e w3 ⟨rfl, hb⟩
        replace hown := own_below hown hb
        replace hbr := hbr.trans (hb.mono hbr.size)
        clear hb KA HA2
        go_wp2
        go_loopw [7, 40] (fun v i wr => ∃ p : Nat, i = .int .i64 p ∧ p ≤ nw ∧ wr.ownsRow w1.heap.size 36 2 v (fs.length + p) (fkC (fs ++ wayF a p)) ∧ Below w1.heap.size w1 wr) (fun _ i _ => nw - (intOf i).toNat)
        case atStart => exact ⟨0, rfl, by omega, by rw [show wayF a 0 = [] from rfl, List.append_nil]; exact hown, hbr⟩
        case round =>
          clear hown hbr
          obtain ⟨p, rfl, hp, hown, hbr⟩ := hrel
          by_cases hplt : p < nw
          · have HW : Hid (fkC (fs ++ wayF a (p + 1)) = fkC (fs ++ wayF a p) ++ [.int .i64 (a : Int), .int .i64 (p : Int)]) := by show _ = _; rw [wayF_succ, ← List.append_assoc, fkC_snoc]
            go_wp2_with (at_builtin; refine wpList_append_own _ rfl _ _ 31 rfl w1.heap.size 36 i0 (.agg #[.int .i64 0, .int .i64 0]) 2 16 Tryd.underlying31 hi0 hz0 hz1 hz2 rfl (by decide) _ _ _ rfl (hown.alloc _) ⟨wr.heap.size, 0, none⟩ 1 1 [.int .i64 a, .int .i64 p] rfl rfl (newcF2 _ _ _ _) (one2 _ _) (by unfold maxLen; omega) (by omega) (by have := hbr.size; simp; omega) ?_)
            intro v' w6 ho hg hnil
            have hb6 : Below w1.heap.size w1 w6 := (hbr.alloc hbr.size _).grown hg (by have := hbr.size; simp; omega) (fun k hk => (hown.lt k hk).1)
            clear hg hnil hbr hown
            go_wp2
            go_roundw
            case rel =>
              refine ⟨p + 1, by go_num, by omega, ?_, hb6⟩
              rw [HW.out]
              exact ho
            case measure => simp [intOf]; omega
          · obtain rfl : p = nw := by omega
            go_wp2
            go_roundw
            case rel =>
              refine ⟨k + 1, fs ++ wayF a p, by go_num, by omega, by show _ = _; exact HN.out.symm, by rw [List.length_append, wayF_len]; omega, ?_, hbr⟩
              rw [List.length_append, wayF_len]
              exact hown
            case measure => simp [intOf]; omega
      | false =>
        clear hnm
        go_wp2_with fail
        refine cc.mono ?_
        clear cc kA0 kA1 kA2
        rintro e w3 ⟨rfl, hb⟩
        replace hown := own_below hown hb
        replace hbr := hbr.trans (hb.mono hbr.size)
        clear hb KA HA2
        go_wp2
        go_loopw [7, 40] (fun v i wr => ∃ p : Nat, i = .int .i64 p ∧ p ≤ nw ∧ wr.ownsRow w1.heap.size 36 2 v (fs.length + p) (fkC (fs ++ wayF a p)) ∧ Below w1.heap.size w1 wr) (fun _ i _ => nw - (intOf i).toNat)
        case atStart => exact ⟨0, rfl, by omega, by rw [show wayF a 0 = [] from rfl, List.append_nil]; exact hown, hbr⟩
        case round =>
          clear hown hbr
          obtain ⟨p, rfl, hp, hown, hbr⟩ := hrel
          by_cases hplt : p < nw
          · have HW : Hid (fkC (fs ++ wayF a (p + 1)) = fkC (fs ++ wayF a p) ++ [.int .i64 (a : Int), .int .i64 (p : Int)]) := by show _ = _; rw [wayF_succ, ← List.append_assoc, fkC_snoc]
            go_wp2_with (at_builtin; refine wpList_append_own _ rfl _ _ 31 rfl w1.heap.size 36 i0 (.agg #[.int .i64 0, .int .i64 0]) 2 16 Tryd.underlying31 hi0 hz0 hz1 hz2 rfl (by decide) _ _ _ rfl (hown.alloc _) ⟨wr.heap.size, 0, none⟩ 1 1 [.int .i64 a, .int .i64 p] rfl rfl (newcF2 _ _ _ _) (one2 _ _) (by unfold maxLen; omega) (by omega) (by have := hbr.size; simp; omega) ?_)
            intro v' w6 ho hg hnil
            have hb6 : Below w1.heap.size w1 w6 := (hbr.alloc hbr.size _).grown hg (by have := hbr.size; simp; omega) (fun k hk => (hown.lt k hk).1)
            clear hg hnil hbr hown
            go_wp2
            go_roundw
            case rel =>
              refine ⟨p + 1, by go_num, by omega, ?_, hb6⟩
              rw [HW.out]
              exact ho
            case measure => simp [intOf]; omega
          · obtain rfl : p = nw := by omega
            go_wp2
            go_roundw
            case rel =>
              refine ⟨k + 1, fs ++ wayF a p, by go_num, by omega, by show _ = _; exact HN.out.symm, by rw [List.length_append, wayF_len]; omega, ?_, hbr⟩
              rw [List.length_append, wayF_len]
              exact hown
            case measure => simp [intOf]; omega
end Go.Proofs.YtfflodcapcamcaaDoor
/- An attribute, by the specification; its bins, by both. -/
namespace Go.Proofs.YtfflodcapcamcaaDoor
open Go.RowKit
set_option maxRecDepth 100000

theorem cutAt_no1 {cs : List Int} {k : Nat} (h : ¬ (-9999 ≤ cs.getD k 0 ∧ cs.getD k 0 ≤ 9998)) : cutAt cs k = false := by unfold cutAt; rw [decide_eq_false h]; rfl
theorem cutAt_no2 {cs : List Int} {k : Nat} (h0 : k ≠ 0) (h : cs.getD k 0 ≤ cs.getD (k - 1) 0) : cutAt cs k = false := by
  unfold cutAt
  rw [decide_eq_false h0, decide_eq_false (Int.not_lt.2 h)]; simp
theorem cutAt_yes0 {cs : List Int} (h : -9999 ≤ cs.getD 0 0 ∧ cs.getD 0 0 ≤ 9998) : cutAt cs 0 = true := by unfold cutAt; rw [decide_eq_true h]; rfl
theorem cutAt_yes1 {cs : List Int} {k : Nat} (h : -9999 ≤ cs.getD k 0 ∧ cs.getD k 0 ≤ 9998) (h1 : cs.getD (k - 1) 0 < cs.getD k 0) : cutAt cs k = true := by
  unfold cutAt; rw [decide_eq_true h, decide_eq_true h1]; simp

theorem in_quiet (x lo hi : Int) (b : Bool) (hb : decide (lo ≤ x ∧ x ≤ hi) = b) (w : World) (q n : Nat) : Calls Tryd.prog 19 #[.int .i64 x, .int .i64 lo, .int .i64 hi] (w.drewN (q + n)) fun e w'' => e = .returned (.bool b) ∧ ∃ n, w'' = w.drewN (q + n) := by
  subst hb
  exact (in_any x lo hi _).mono fun e w' ⟨h1, h2⟩ => ⟨h1, n, h2⟩

set_option maxHeartbeats 1600000 in
theorem specAttrOk_any (v : Value) (a : AttrD) (w : World) (h : AttrAt w v a) (hn : okA a) :
    Calls Tryd.prog 29 #[v] w fun e w' => e = .returned (.bool (attrOk a)) ∧ Below w.heap.size w w' := by
  obtain ⟨vc, vv, rfl, hc, hv⟩ := h
  obtain ⟨oc, cc, rfl, hcc, hcr⟩ := id hc
  obtain ⟨ov, cv, rfl, hvc, hvr⟩ := id hv
  have HCR : Hid (0 < a.cuts.length → ∃ g o, oc = some ⟨g, o, none⟩ ∧ g < w.heap.size ∧ ∀ j, j < a.cuts.length → w.cell? ⟨g, o + j, none⟩ = some (.int .i64 (a.cuts.getD j 0))) := hcr
  have HVR : Hid (RowS w (.slice ov a.vals.length cv) a.vals) := hv
  have HO : Hid (okA a) := hn
  have lc := hn.cuts
  have lv := hn.vals.1
  clear hc hv hcr hvr hn
  have c := fun W => specWord_any a.name W (by have := HO.out.name; omega)
  go_enter Tryd.func29, Tryd.ntmps29
  cases hw : wordOk a.name with
  | false =>
    have HF : Hid (attrOk a = false) := by unfold attrOk; rw [hw]; rfl
    rw [hw] at c
    clear hw
    go_wp2_with fail
    refine (c _).mono ?_
    rintro e w1 ⟨rfl, hb1⟩
    go_wp2
    go_ret
    exact ⟨by rw [HF.out]; rfl, ((Below.refl _ _).alloc (Nat.le_refl _) _).trans (hb1.mono (by simp))⟩
  | true =>
    have HW : Hid (attrOk a = (if a.cuts.length = 0 then choices a.vals 4 else decide (a.vals.length = 0) && (decide (a.cuts.length ≤ 3) && cutsRise a.cuts))) := by unfold attrOk; rw [hw]; rfl
    rw [hw] at c
    clear hw
    go_wp2_with fail
    refine (c _).mono ?_
    rintro e w1 ⟨rfl, hb1⟩
    clear c
    have B1 : Below w.heap.size w w1 := ((Below.refl _ _).alloc (Nat.le_refl _) _).trans (hb1.mono (by simp))
    have K := (Blk.new _ _ _).below hb1
    have k1 := K.cell 1
    have k2 := K.cell 2
    simp at k1 k2
    clear K hb1
    by_cases h0 : a.cuts.length = 0
    · have h0b : ((a.cuts.length : Int) == 0) = true := by simp [h0]
      have HF : Hid (attrOk a = choices a.vals 4) := by rw [HW.out, if_pos h0]; rfl
      clear h0
      go_wp2_with fail
      refine (in_any _ _ _ _).mono ?_
      rintro e w2 ⟨rfl, rfl⟩
      by_cases hl : (2 : Int) ≤ a.vals.length ∧ (a.vals.length : Int) ≤ 4
      · have HG : Hid (choices a.vals 4 = wordsOk a.vals) := by unfold choices; rw [decide_eq_true hl]; rfl
        rw [decide_eq_true hl]
        have c2 := specWords_any _ a.vals w2 (HVR.out.later B1) HO.out.vals
        clear hl
        go_wp2_with fail
        refine c2.mono ?_
        rintro e w3 ⟨rfl, hb2⟩
        go_wp2
        go_ret
        exact ⟨by rw [HF.out, HG.out]; rfl, B1.trans (hb2.mono B1.size)⟩
      · have HG : Hid (choices a.vals 4 = false) := by unfold choices; rw [decide_eq_false hl]; rfl
        rw [decide_eq_false hl]
        clear hl
        go_wp2
        go_ret
        exact ⟨by rw [HF.out, HG.out]; rfl, B1⟩
    · have h0b : ((a.cuts.length : Int) == 0) = false := by simp [h0]
      by_cases hv0 : 0 < a.vals.length
      · have HF : Hid (attrOk a = false) := by rw [HW.out, if_neg h0, decide_eq_false (by omega)]; rfl
        go_wp2
        go_ret
        exact ⟨by rw [HF.out]; rfl, B1⟩
      by_cases h3 : (a.cuts.length : Int) ≤ 3
      rotate_left
      · have HF : Hid (attrOk a = false) := by rw [HW.out, if_neg h0, decide_eq_false (p := a.cuts.length ≤ 3) (by omega)]; exact Bool.and_false _
        go_wp2
        go_ret
        exact ⟨by rw [HF.out]; rfl, B1⟩
      have HC : Hid (attrOk a = cutsRise a.cuts) := by rw [HW.out, if_neg h0, decide_eq_true (p := a.vals.length = 0) (by omega), decide_eq_true (p := a.cuts.length ≤ 3) (by omega)]; rfl
      obtain ⟨g, o, rfl, hg, hj⟩ := HCR.out (by omega)
      have HJ : Hid (∀ j, j < a.cuts.length → w1.cell? ⟨g, o + j, none⟩ = some (.int .i64 (a.cuts.getD j 0))) := fun j hlt => (B1.cell (p := ⟨g, o + j, none⟩) hg).trans (hj j hlt)
      clear hj HCR
      have HH0 : Hid (a.cuts.length ≠ 0) := h0
      clear h0
      generalize a.cuts = cs at *
      go_wp2
      go_loopw [3] (fun i wr => ∃ k q : Nat, i = .int .i64 k ∧ k ≤ cs.length ∧ (∀ j, j < k → cutAt cs j = true) ∧ wr = w1.drewN q) (fun i _ => cs.length - (intOf i).toNat)
      case atStart => exact ⟨0, 0, rfl, by omega, by omega, rfl⟩
      case round =>
        obtain ⟨k, q, rfl, hk, hal, rfl⟩ := hrel
        have HA : Hid (∀ j, j < k → cutAt cs j = true) := hal
        clear hal
        by_cases hlt : k < cs.length
        · have hcell := HJ.out k hlt
          have HP : Hid (k ≠ 0 → w1.cell? ⟨g, o + (k - 1), none⟩ = some (.int .i64 (cs.getD (k - 1) 0))) := fun _ => HJ.out (k - 1) (by omega)
          have Y0 : Hid (k = 0 → -9999 ≤ cs.getD k 0 ∧ cs.getD k 0 ≤ 9998 → cutAt cs k = true) := fun e h => by subst e; exact cutAt_yes0 h
          have Y1 : Hid (-9999 ≤ cs.getD k 0 ∧ cs.getD k 0 ≤ 9998 → cs.getD (k - 1) 0 < cs.getD k 0 → cutAt cs k = true) := cutAt_yes1
          have N1 : Hid (¬ (-9999 ≤ cs.getD k 0 ∧ cs.getD k 0 ≤ 9998) → cutAt cs k = false) := cutAt_no1
          have N2 : Hid (k ≠ 0 → cs.getD k 0 ≤ cs.getD (k - 1) 0 → cutAt cs k = false) := cutAt_no2
          generalize cs.getD k 0 = c at hcell Y0 Y1 N1 N2
          generalize cs.getD (k - 1) 0 = p at HP Y1 N2
          by_cases hr : -9999 ≤ c ∧ c ≤ 9998
          · have cI := in_quiet c (-9999) 9998 true (decide_eq_true hr) w1 q
            by_cases hk0 : ¬ 0 < k
            · have HF : Hid (cutAt cs k = true) := Y0.out (by omega) hr
              clear hr
              go_wp2
              go_quiet (exact cI _)
              all_goals go_wp2
              all_goals go_roundw
              case rel =>
                refine ⟨k + 1, _, by go_num, by omega, ?_, by first | rfl | (simp only [World.drewN_drewN]; rfl)⟩
                intro j hj
                by_cases e : j = k
                · subst e; exact HF.out
                · exact HA.out j (by omega)
              case measure => simp [intOf]; omega
            · obtain ⟨k', rfl⟩ : ∃ k', k = k' + 1 := ⟨k - 1, by omega⟩
              have hcp := HP.out (by omega)
              rw [Nat.add_sub_cancel] at hcp
              have e1 : ((k' + 1 : Nat) : Int) - 1 = (k' : Int) := by omega
              have hk'l : k' < cs.length := by omega
              by_cases hp : c ≤ p
              · have HF : Hid (cutsRise cs = false) := rise_no (k' + 1) hlt (N2.out (by omega) hp)
                clear hr
                go_wp2
                go_quiet (exact cI _)
                all_goals go_wp2
                all_goals go_ret
                all_goals exact ⟨by rw [HC.out, HF.out]; rfl, below_drewN (below_drewN B1 _) _⟩
              · have HF : Hid (cutAt cs (k' + 1) = true) := Y1.out hr (by omega)
                clear hr
                go_wp2
                go_quiet (exact cI _)
                all_goals go_wp2
                all_goals go_roundw
                case rel =>
                  refine ⟨k' + 1 + 1, _, by go_num, by omega, ?_, by first | rfl | (simp only [World.drewN_drewN]; rfl)⟩
                  intro j hj
                  by_cases e : j = k' + 1
                  · subst e; exact HF.out
                  · exact HA.out j (by omega)
                case measure => simp [intOf]; omega
          · have cI := in_quiet c (-9999) 9998 false (decide_eq_false hr) w1 q
            have HF : Hid (cutsRise cs = false) := rise_no k hlt (N1.out hr)
            clear hr
            go_wp2
            go_quiet (exact cI _)
            all_goals go_wp2
            all_goals go_ret
            all_goals exact ⟨by rw [HC.out, HF.out]; rfl, below_drewN (below_drewN B1 _) _⟩
        · have HF : Hid (cutsRise cs = true) := rise_yes fun j hj => HA.out j (by omega)
          go_wp2
          go_ret
          exact ⟨by rw [HC.out, HF.out]; rfl, below_drewN B1 _⟩
end Go.Proofs.YtfflodcapcamcaaDoor
/- Whether a schema is right, by the specification. -/
namespace Go.Proofs.YtfflodcapcamcaaDoor
open Go.RowKit
set_option maxRecDepth 100000

theorem sch_no1 {s : SchemaD} (h : ¬ ((1 : Int) ≤ s.attrs.length ∧ (s.attrs.length : Int) ≤ 5)) : schemaOk s = false := by
  unfold schemaOk; rw [decide_eq_false (by omega)]; rfl
theorem sch_no2 {s : SchemaD} (h : ¬ ((2 : Int) ≤ s.classes.length ∧ (s.classes.length : Int) ≤ 3)) : schemaOk s = false := by
  unfold schemaOk choices; rw [decide_eq_false h]; simp
theorem sch_no3 {s : SchemaD} (h : wordsOk s.classes = false) : schemaOk s = false := by
  unfold schemaOk choices; rw [h]; simp
theorem sch_yes {s : SchemaD} (h : (1 : Int) ≤ s.attrs.length ∧ (s.attrs.length : Int) ≤ 5) (h2 : (2 : Int) ≤ s.classes.length ∧ (s.classes.length : Int) ≤ 3) (h3 : wordsOk s.classes = true) : schemaOk s = attrsOk s.attrs := by
  unfold schemaOk choices; rw [decide_eq_true (p := 1 ≤ s.attrs.length ∧ s.attrs.length ≤ 5) (by omega), decide_eq_true h2, h3]; rfl

set_option maxHeartbeats 1600000 in
theorem specSchemaOk_any (v : Value) (s : SchemaD) (w : World) (h : SchemaAt w v s) (hn : okSch s) :
    Calls Tryd.prog 18 #[v] w fun e w' => e = .returned (.bool (schemaOk s)) ∧ Below w.heap.size w w' := by
  obtain ⟨va, vc, rfl, ha, hc⟩ := h
  obtain ⟨oa, ca, rfl, hca, har⟩ := id ha
  obtain ⟨oc, cc, rfl, hcc, hcr⟩ := id hc
  have HAR : Hid (RowA w (.slice oa s.attrs.length ca) s.attrs) := ha
  have HCR : Hid (RowS w (.slice oc s.classes.length cc) s.classes) := hc
  have HO : Hid (okSch s) := hn
  have la := hn.attrs
  clear ha hc har hcr hn
  by_cases h1 : (1 : Int) ≤ s.attrs.length ∧ (s.attrs.length : Int) ≤ 5
  rotate_left
  · have HF : Hid (schemaOk s = false) := sch_no1 h1
    go_enter Tryd.func18, Tryd.ntmps18
    go_wp2_with fail
    refine (in_any _ _ _ _).mono ?_
    rintro e w1 ⟨rfl, rfl⟩
    rw [decide_eq_false h1]
    clear h1
    go_wp2
    go_ret
    exact ⟨by rw [HF.out]; rfl, (Below.refl _ _).alloc (Nat.le_refl _) _⟩
  by_cases h2 : (2 : Int) ≤ s.classes.length ∧ (s.classes.length : Int) ≤ 3
  rotate_left
  · have HF : Hid (schemaOk s = false) := sch_no2 h2
    go_enter Tryd.func18, Tryd.ntmps18
    go_wp2_with fail
    refine (in_any _ _ _ _).mono ?_
    rintro e w1 ⟨rfl, rfl⟩
    rw [decide_eq_true h1]
    clear h1
    go_wp2_with fail
    refine (in_any _ _ _ _).mono ?_
    rintro e w1 ⟨rfl, rfl⟩
    rw [decide_eq_false h2]
    clear h2
    go_wp2
    go_ret
    exact ⟨by rw [HF.out]; rfl, (Below.refl _ _).alloc (Nat.le_refl _) _⟩
  obtain ⟨K0, B0⟩ := blk_1 27 w #[.slice oa s.attrs.length ca, .slice oc s.classes.length cc]
  have c := specWords_any _ s.classes _ (HCR.out.later B0) HO.out.classes
  cases hw : wordsOk s.classes with
  | false =>
    have HF : Hid (schemaOk s = false) := sch_no3 hw
    rw [hw] at c
    clear hw
    go_enter Tryd.func18, Tryd.ntmps18
    go_wp2_with fail
    refine (in_any _ _ _ _).mono ?_
    rintro e w1 ⟨rfl, rfl⟩
    rw [decide_eq_true h1]
    clear h1
    go_wp2_with fail
    refine (in_any _ _ _ _).mono ?_
    rintro e w1 ⟨rfl, rfl⟩
    rw [decide_eq_true h2]
    clear h2
    go_wp2_with fail
    refine c.mono ?_
    rintro e w1 ⟨rfl, hb1⟩
    clear c K0
    go_wp2
    go_ret
    exact ⟨by rw [HF.out]; rfl, B0.trans (hb1.mono B0.size)⟩
  | true =>
    have HW : Hid (schemaOk s = attrsOk s.attrs) := sch_yes h1 h2 hw
    rw [hw] at c
    clear hw
    obtain ⟨ls, has⟩ : ∃ ls, s.attrs = ls := ⟨_, rfl⟩
    obtain ⟨g, o, rfl, hg, hj⟩ : ∃ g o, oa = some ⟨g, o, none⟩ ∧ g < w.heap.size ∧ ∀ j, j < ls.length → CellsA w g (o + j * 3) (ad ls j) := by
      obtain ⟨oa', cap', e, _, hr⟩ := HAR.out
      obtain ⟨g, o, e', hg, hj⟩ := hr (by omega)
      injection e with e1 e2 e3
      exact ⟨g, o, by rw [e1, e'], hg, by rw [← has]; exact hj⟩
    have HJ : Hid (∀ j, j < ls.length → CellsA w g (o + j * 3) (ad ls j)) := hj
    have HE : Hid (∀ j, j < ls.length → okA (ad ls j)) := fun j hj => HO.out.each _ (by rw [has]; exact ad_mem hj)
    have HAS : Hid (s.attrs = ls) := has
    clear hj HAR HCR HO
    rw [has] at h1 la hca K0 B0 c
    go_enter Tryd.func18, Tryd.ntmps18
    rw [has]
    clear has
    go_wp2_with fail
    refine (in_any _ _ _ _).mono ?_
    rintro e w1 ⟨rfl, rfl⟩
    rw [decide_eq_true h1]
    go_wp2_with fail
    refine (in_any _ _ _ _).mono ?_
    rintro e w1 ⟨rfl, rfl⟩
    rw [decide_eq_true h2]
    clear h2
    go_wp2_with fail
    refine c.mono ?_
    rintro e w1 ⟨rfl, hb1⟩
    clear c
    have HB1 : Hid (Blk 27 w1 w.heap.size #[.slice (some ⟨g, o, none⟩) ls.length ca, .slice oc s.classes.length cc]) := K0.below hb1
    have B1 := B0.trans (hb1.mono B0.size)
    clear hb1 K0 B0 h1
    go_wp2
    go_loopw [3, 4] (fun i _ wr => ∃ k : Nat, i = .int .i64 k ∧ k ≤ ls.length ∧ (∀ j, j < k → attrAt ls j = true) ∧ Below w1.heap.size w1 wr) (fun i _ _ => ls.length - (intOf i).toNat)
    case atStart => exact ⟨0, rfl, by omega, by omega, Below.refl _ _⟩
    case round =>
      obtain ⟨k, rfl, hk, hal, hb⟩ := hrel
      have HA : Hid (∀ j, j < k → attrAt ls j = true) := hal
      clear hal
      have K : wr.cell? ⟨w.heap.size, 0, none⟩ = some (.slice (some ⟨g, o, none⟩) ls.length ca) := (HB1.out.below hb).cell 0
      have hbw := B1.trans (hb.mono B1.size)
      by_cases hlt : k < ls.length
      · obtain ⟨vc, vv, q0, q1, q2, r1, r2⟩ := (HJ.out k hlt).later hbw hg
        obtain ⟨o1, c1, rfl, -, -⟩ := id r1
        obtain ⟨o2, c2, rfl, -, -⟩ := id r2
        have hx : AttrAt wr (.agg #[.string (ad ls k).name, .slice o1 (ad ls k).cuts.length c1, .slice o2 (ad ls k).vals.length c2]) (ad ls k) := ⟨_, _, rfl, r1, r2⟩
        have c := specAttrOk_any _ (ad ls k) _ hx (HE.out k hlt)
        clear r1 r2 hx
        cases hw : attrOk (ad ls k) with
        | false =>
          have HF : Hid (attrsOk ls = false) := attrs_no k hlt (attrAt_no1 hw)
          rw [hw] at c
          clear hw
          go_wp2_with fail
          refine c.mono ?_
          rintro e w2 ⟨rfl, hb2⟩
          clear c
          go_wp2
          go_ret
          exact ⟨by rw [HW.out, HAS.out, HF.out]; rfl, hbw.trans (hb2.mono hbw.size)⟩
        | true =>
          have HWK : Hid (attrOk (ad ls k) = true) := hw
          rw [hw] at c
          clear hw
          go_wp2_with fail
          refine c.mono ?_
          rintro e w2 ⟨rfl, hb2⟩
          clear c K q0 q1 q2
          have hb3 : Below w1.heap.size w1 w2 := hb.trans (hb2.mono hb.size)
          have hbx : Below w.heap.size w w2 := hbw.trans (hb2.mono hbw.size)
          have K : w2.cell? ⟨w.heap.size, 0, none⟩ = some (.slice (some ⟨g, o, none⟩) ls.length ca) := (HB1.out.below hb3).cell 0
          have q0 : w2.cell? ⟨g, o + k * 3, none⟩ = some (.string (ad ls k).name) := by
            obtain ⟨_, _, q, _⟩ := (HJ.out k hlt).later hbx hg; exact q
          clear hb hb2 hbw
          go_wp2
          go_loopw [4] (fun i wr => ∃ m q : Nat, i = .int .i64 m ∧ m ≤ k ∧ (∀ j, j < m → (ad ls k).name ≠ (ad ls j).name) ∧ wr = w2.drewN q) (fun i _ => k - (intOf i).toNat)
          case atStart => exact ⟨0, 0, rfl, by omega, by omega, rfl⟩
          case round =>
            obtain ⟨m, q, rfl, hm, hne, rfl⟩ := hrel
            have HN : Hid (∀ j, j < m → (ad ls k).name ≠ (ad ls j).name) := hne
            clear hne
            by_cases hmk : m < k
            · have hml : m < ls.length := by omega
              have hcm : w2.cell? ⟨g, o + m * 3, none⟩ = some (.string (ad ls m).name) := by
                obtain ⟨_, _, q, _⟩ := (HJ.out m hml).later hbx hg; exact q
              by_cases he : (ad ls k).name = (ad ls m).name
              · have HF : Hid (attrsOk ls = false) := attrs_no k hlt (attrAt_no2 (hasT_yes (k := m) (by rw [nmsB_len hk]; omega) (by rw [nmsB_at hmk hk]; exact he)))
                have hq : ((ad ls k).name.toList == (ad ls m).name.toList) = true := by rw [← he]; simp
                clear he
                generalize (ad ls k).name = u at q0 hq
                generalize (ad ls m).name = u' at hcm hq
                go_wp2
                go_quiet (fail)
                all_goals go_wp2
                all_goals go_ret
                all_goals exact ⟨by rw [HW.out, HAS.out, HF.out]; rfl, below_drewN (below_drewN hbx _) _⟩
              · have hq : ((ad ls k).name.toList == (ad ls m).name.toList) = false := by
                  rw [beq_eq_false_iff_ne]; exact fun h => he (bytes_eq_iff.1 h)
                have HE' : Hid ((ad ls k).name ≠ (ad ls m).name) := he
                clear he
                generalize hu : (ad ls k).name = u at q0 hq
                generalize hu' : (ad ls m).name = u' at hcm hq
                have HU : Hid ((ad ls k).name = u) := hu
                clear hu hu'
                go_wp2
                go_quiet (fail)
                all_goals go_wp2
                all_goals go_roundw
                case rel =>
                  refine ⟨m + 1, _, by go_num, by omega, ?_, by first | rfl | (simp only [World.drewN_drewN]; rfl)⟩
                  intro j hj
                  rw [← HU.out]
                  by_cases e : j = m
                  · subst e; exact HE'.out
                  · exact HN.out j (by omega)
                case measure => simp [intOf]; omega
            · have HF : Hid (attrAt ls k = true) := attrAt_yes HWK.out (hasT_no fun j hj => by
                have hj' : j < k := by rw [nmsB_len hk] at hj; exact hj
                rw [nmsB_at hj' hk]; exact HN.out j (by omega))
              go_wp2
              go_roundw
              case rel =>
                refine ⟨k + 1, by go_num, by omega, ?_, below_drewN hb3 _⟩
                intro j hj
                by_cases e : j = k
                · subst e; exact HF.out
                · exact HA.out j (by omega)
              case measure => simp [intOf]; omega
      · have HF : Hid (attrsOk ls = true) := attrs_yes fun j hj => HA.out j (by omega)
        go_wp2
        go_ret
        exact ⟨by rw [HW.out, HAS.out, HF.out]; rfl, hbw⟩
end Go.Proofs.YtfflodcapcamcaaDoor
