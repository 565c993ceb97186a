/- Texts of this claim, put together: part 26. -/
import Derived.Test.YtfekcckckmhioaaGreatDoorFnRowTextPack12
import Derived.Test.YtfekcckckmhioaaGreatDoorFnRowTextPack13
import Derived.Test.YtfekcckckmhioaaGreatDoorFnRowTextPack21
import Derived.Test.YtfekcckckmhioaaGreatDoorFnRowTextPack23
import Derived.Test.YtfekcckckmhioaaGreatDoorFnRowTextPack24
import Derived.Test.YtfekcckckmhioaaGreatDoorFnRowTextPack25
import Derived.BigGuardPart
/- For every code the law FnRowText returns true (the walk). -/
namespace Go.Proofs.YtfekcckckmhioaaGreatDoor
open Go.RowKit
set_option maxRecDepth 100000
set_option linter.unusedSimpArgs false
theorem Env.tab7 {u : TypeId} {ev : Value} {m : Int} {w : World} (h : Env u ev m w) : Tab w := ⟨h.1.1, h.1.2.2.2.2.1⟩
theorem exSame_self (x : ExD) : exSame x x = true := by simp [exSame]
theorem exText_80 {s : SchemaD} {e : ExD} (h : exOk s e = true) : (exText s e).size ≤ 1000 := by
  obtain ⟨hs, hl, hc, -⟩ := exOk_parts h
  have h5 := (sch_parts hs).1.2
  have e1 : exText s e = joinT (cellsT s e e.bins.length) ⟨#[44]⟩ ++ ⟨#[124]⟩ ++ classText s e.cls := by unfold exText; rw [if_pos h]
  have hj := joinT_size (cellsT s e e.bins.length) ⟨#[44]⟩ 8 (fun t ht => by
    obtain ⟨i, _, rfl⟩ := List.mem_map.1 ht
    exact cellText_8 _ _)
  rw [cellsT_len] at hj
  have h1 : (⟨#[44]⟩ : ByteArray).size = 1 := rfl
  have h2 : (⟨#[124]⟩ : ByteArray).size = 1 := rfl
  rw [h1] at hj
  have hcl : (classText s e.cls).size ≤ 8 := by
    unfold classText
    split
    · exact (word_size (words_all (sch_parts hs).2.2.1 _ (tx_mem (by omega)))).2
    · decide
  rw [e1, ByteArray.size_append, ByteArray.size_append, h2]
  omega
set_option maxHeartbeats 6400000 in
theorem rowText_in (a0 : Option Addr) (len0 cap0 : Nat) (z0 : List Int) (w : World) (h0 : IsRow .u8 w a0 len0 cap0 z0) (u : TypeId) (ev : Value) (m : Int) (hE : Env u ev m w) (hg : EtAt w) (hlen : len0 ≤ 1048576) :
    Calls Tryz.prog 4 #[.slice a0 len0 cap0] w fun e w' => e = .returned (.bool true) ∧ Below w.heap.size w w' := by
  have c1 := big_any a0 len0 cap0 w (by omega)
  rw [decide_eq_false (by omega)] at c1
  have HE : Hid (∀ W, Below w.heap.size w W → Env u ev m W ∧ EtAt W) := fun W h => ⟨hE.later h, hg.later h⟩
  clear hE hg
  go_enter Tryz.func4, Tryz.ntmps4
  go_wp2_with fail
  refine c1.mono ?_
  clear c1
  rintro e w0 ⟨rfl, e0⟩
  rw [e0]; clear e0 w0
  go_wp2_with fail
  refine (drawExText_any a0 len0 cap0 z0 w h0 hlen).mono ?_
  clear h0
  rintro e w1 ⟨vs, d, ve, x, rfl, hO, htn, hOE, hxl, B⟩
  have HOK : Hid (okSch d) := htn.okX
  have hx := hO.at
  have he := hOE.at
  clear hO htn hOE
  obtain ⟨va, vc, rfl, ra, rc⟩ := id hx
  obtain ⟨oa, ka, rfl, -, -⟩ := id ra
  obtain ⟨oc, kc, rfl, -, -⟩ := id rc
  obtain ⟨vb, rfl, rb⟩ := id he
  obtain ⟨ob, kb, rfl, -, -⟩ := id rb
  clear ra rc rb
  obtain ⟨R2, Q2, BN⟩ := blk_2 35 30 w1 #[.slice none 0 0, .slice none 0 0] #[.slice none 0 0, .int .i64 0]
  have Q3 := Q2.setRow_other #[.slice oa d.attrs.length ka, .slice oc d.classes.length kc] (show w1.heap.size + 1 ≠ w1.heap.size by omega)
  have KS := (R2.setRow #[.slice oa d.attrs.length ka, .slice oc d.classes.length kc]).setRow_other #[.slice ob x.bins.length kb, .int .i64 x.cls] (show w1.heap.size ≠ w1.heap.size + 1 by omega)
  have KE := Q3.setRow #[.slice ob x.bins.length kb, .int .i64 x.cls]
  have BN4 : Below w1.heap.size w1 ((((w1.alloc (.cells #[.slice none 0 0, .slice none 0 0] 35)).alloc (.cells #[.slice none 0 0, .int .i64 0] 30)).setRow w1.heap.size #[.slice oa d.attrs.length ka, .slice oc d.classes.length kc]).setRow (w1.heap.size + 1) #[.slice ob x.bins.length kb, .int .i64 x.cls]) := below_row (below_row BN (Nat.le_refl _) _) (by omega) _
  replace hx := hx.later BN4
  replace he := he.later BN4
  replace B := B.trans (BN4.mono B.size)
  clear BN BN4
  have k0 : ((((w1.alloc (.cells #[.slice none 0 0, .slice none 0 0] 35)).alloc (.cells #[.slice none 0 0, .int .i64 0] 30)).setRow w1.heap.size #[.slice oa d.attrs.length ka, .slice oc d.classes.length kc]).setRow (w1.heap.size + 1) #[.slice ob x.bins.length kb, .int .i64 x.cls]).cell? ⟨w1.heap.size, 0, none⟩ = some (.slice oa d.attrs.length ka) := KS.cell 0
  have k1 : ((((w1.alloc (.cells #[.slice none 0 0, .slice none 0 0] 35)).alloc (.cells #[.slice none 0 0, .int .i64 0] 30)).setRow w1.heap.size #[.slice oa d.attrs.length ka, .slice oc d.classes.length kc]).setRow (w1.heap.size + 1) #[.slice ob x.bins.length kb, .int .i64 x.cls]).cell? ⟨w1.heap.size, 1, none⟩ = some (.slice oc d.classes.length kc) := KS.cell 1
  have j0 : ((((w1.alloc (.cells #[.slice none 0 0, .slice none 0 0] 35)).alloc (.cells #[.slice none 0 0, .int .i64 0] 30)).setRow w1.heap.size #[.slice oa d.attrs.length ka, .slice oc d.classes.length kc]).setRow (w1.heap.size + 1) #[.slice ob x.bins.length kb, .int .i64 x.cls]).cell? ⟨w1.heap.size + 1, 0, none⟩ = some (.slice ob x.bins.length kb) := KE.cell 0
  have j1 : ((((w1.alloc (.cells #[.slice none 0 0, .slice none 0 0] 35)).alloc (.cells #[.slice none 0 0, .int .i64 0] 30)).setRow w1.heap.size #[.slice oa d.attrs.length ka, .slice oc d.classes.length kc]).setRow (w1.heap.size + 1) #[.slice ob x.bins.length kb, .int .i64 x.cls]).cell? ⟨w1.heap.size + 1, 1, none⟩ = some (.int .i64 x.cls) := KE.cell 1
  go_wp2_with (first | (with_reducible refine wp_sc_store rfl _ _ rfl ?_; refine ⟨_, rfl, _, _, _, _, _, _, rfl, _, _, R2, ?_⟩) | (with_reducible refine wp_ex_store rfl _ _ rfl ?_; refine ⟨_, rfl, _, _, _, _, rfl, _, _, Q3, ?_⟩))
  clear R2 Q3 Q2
  generalize ((((w1.alloc (.cells #[.slice none 0 0, .slice none 0 0] 35)).alloc (.cells #[.slice none 0 0, .int .i64 0] 30)).setRow w1.heap.size #[.slice oa d.attrs.length ka, .slice oc d.classes.length kc]).setRow (w1.heap.size + 1) #[.slice ob x.bins.length kb, .int .i64 x.cls]) = w2 at KS KE hx he B k0 k1 j0 j1 ⊢
  have cT := implExText_any _ _ d x w2 hx he HOK.out (by omega) (Env.tab7 (HE.out w2 B).1)
  refine cT.mono ?_
  clear cT k0 k1 j0 j1
  rintro e w3 ⟨rfl, hb⟩
  replace hx := hx.later hb
  replace he := he.later hb
  replace KS := KS.below hb
  replace KE := KE.below hb
  replace B := B.trans (hb.mono B.size)
  clear hb
  have k0 : w3.cell? ⟨w1.heap.size, 0, none⟩ = some (.slice oa d.attrs.length ka) := KS.cell 0
  have k1 : w3.cell? ⟨w1.heap.size, 1, none⟩ = some (.slice oc d.classes.length kc) := KS.cell 1
  have j0 : w3.cell? ⟨w1.heap.size + 1, 0, none⟩ = some (.slice ob x.bins.length kb) := KE.cell 0
  have j1 : w3.cell? ⟨w1.heap.size + 1, 1, none⟩ = some (.int .i64 x.cls) := KE.cell 1
  have cO := specExOk_any _ _ d x w3 hx he HOK.out (by omega)
  cases hk : exOk d x with
  | false =>
    have hT : exText d x = ⟨#[]⟩ := by unfold exText; rw [hk]; rfl
    rw [hT]
    rw [hk] at cO
    clear hk hT
    go_wp2_with fail
    refine cO.mono ?_
    clear cO
    rintro e w4 ⟨rfl, hb⟩
    go_wp2
    go_ret
    exact ⟨rfl, B.trans (hb.mono B.size)⟩
  | true =>
    have hrow := text_row hk
    have hTz := exText_80 hk
    rw [hk] at cO
    clear hk
    generalize exText d x = T at hrow hTz ⊢
    go_wp2_with fail
    refine cO.mono ?_
    clear cO k0 k1 j0 j1
    rintro e w4 ⟨rfl, hb⟩
    replace hx := hx.later hb
    replace he := he.later hb
    replace KS := KS.below hb
    replace KE := KE.below hb
    replace B := B.trans (hb.mono B.size)
    clear hb
    have k0 : w4.cell? ⟨w1.heap.size, 0, none⟩ = some (.slice oa d.attrs.length ka) := KS.cell 0
    have k1 : w4.cell? ⟨w1.heap.size, 1, none⟩ = some (.slice oc d.classes.length kc) := KS.cell 1
    have cvr := conv_run T w4
    have bel := conv_below T w4
    have cat := (conv_at T w4).at
    replace hx := hx.later bel
    replace he := he.later bel
    replace KS := KS.below bel
    replace KE := KE.below bel
    replace B := B.trans (bel.mono B.size)
    clear bel
    have cI := implRowOf_any _ _ d T u ev m _ hx cat HOK.out (by omega) (HE.out _ B).1 (HE.out _ B).2
    rw [hrow] at cI
    simp only at cI
    clear hrow
    go_wp2_with fail
    refine cI.mono ?_
    clear cI cvr cat k0 k1
    rintro e w5 ⟨v5, rfl, ⟨vf, rfl, oF⟩, hb⟩
    obtain ⟨of, kf, rfl⟩ := own_slice oF
    replace hx := hx.later hb
    replace he := he.later hb
    replace KS := KS.below hb
    replace KE := KE.below hb
    replace B := B.trans (hb.mono B.size)
    clear hb
    obtain ⟨KF, BN⟩ := blk_1 30 w5 #[.slice of x.bins.length kf, .int .i64 x.cls]
    replace oF := own_below oF BN
    replace hx := hx.later BN
    replace he := he.later BN
    replace KS := KS.below BN
    replace KE := KE.below BN
    replace B := B.trans (BN.mono B.size)
    clear BN
    have j0 : (w5.alloc (.cells #[.slice of x.bins.length kf, .int .i64 x.cls] 30)).cell? ⟨w1.heap.size + 1, 0, none⟩ = some (.slice ob x.bins.length kb) := KE.cell 0
    have j1 : (w5.alloc (.cells #[.slice of x.bins.length kf, .int .i64 x.cls] 30)).cell? ⟨w1.heap.size + 1, 1, none⟩ = some (.int .i64 x.cls) := KE.cell 1
    have cS := specExSame_any _ (.agg #[.slice of x.bins.length kf, .int .i64 x.cls]) x x _ he ⟨_, rfl, RowI.of_own oF rfl⟩ (by omega)
    rw [exSame_self] at cS
    go_wp2_with fail
    refine cS.mono ?_
    clear cS j0 j1
    rintro e w6 ⟨rfl, hb⟩
    replace hx := hx.later hb
    replace he := he.later hb
    replace KS := KS.below hb
    replace KE := KE.below hb
    replace B := B.trans (hb.mono B.size)
    replace KF := KF.below hb
    replace oF := own_below oF hb
    clear hb
    have j0 : w6.cell? ⟨w1.heap.size + 1, 0, none⟩ = some (.slice ob x.bins.length kb) := KE.cell 0
    have j1 : w6.cell? ⟨w1.heap.size + 1, 1, none⟩ = some (.int .i64 x.cls) := KE.cell 1
    have i0 : w6.cell? ⟨w5.heap.size, 0, none⟩ = some (.slice of x.bins.length kf) := KF.cell 0
    have i1 : w6.cell? ⟨w5.heap.size, 1, none⟩ = some (.int .i64 x.cls) := KF.cell 1
    have cP := implExSame_any _ (.agg #[.slice of x.bins.length kf, .int .i64 x.cls]) x x _ he ⟨_, rfl, RowI.of_own oF rfl⟩ (by omega)
    rw [exSame_self] at cP
    go_wp2_with fail
    refine cP.mono ?_
    clear cP
    rintro e w7 ⟨rfl, hb⟩
    go_wp2
    go_ret
    exact ⟨rfl, B.trans (hb.mono B.size)⟩
theorem rowText_walk (a0 : Option Addr) (len0 cap0 : Nat) (z0 : List Int) (w : World) (h0 : IsRow .u8 w a0 len0 cap0 z0) (u : TypeId) (ev : Value) (m : Int) (hE : Env u ev m w) (hg : EtAt w) :
    Calls Tryz.prog 4 #[.slice a0 len0 cap0] w fun e w' => e = .returned (.bool true) ∧ Below w.heap.size w w' := by
  by_cases hlen : len0 ≤ 1048576
  · exact rowText_in a0 len0 cap0 z0 w h0 u ev m hE hg hlen
  · have c1 := big_any a0 len0 cap0 w h0.le
    rw [decide_eq_true (by omega)] at c1
    clear h0 hE hg
    go_enter Tryz.func4, Tryz.ntmps4
    go_wp2_with fail
    refine c1.mono ?_
    clear c1
    rintro e w0 ⟨rfl, e0⟩
    rw [e0]
    go_wp2
    go_ret
    exact ⟨rfl, Below.refl _ _⟩
end Go.Proofs.YtfekcckckmhioaaGreatDoor
