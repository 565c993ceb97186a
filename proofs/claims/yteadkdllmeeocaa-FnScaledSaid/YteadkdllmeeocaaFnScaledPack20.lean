/- Texts of this claim, put together: part 20. -/
import Derived.Test.YteadkdllmeeocaaFnScaledPack19
import Derived.Test.YteadkdllmeeocaaFnScaledPack11
import Derived.Test.YteadkdllmeeocaaFnScaledPack13
import Derived.Test.YteadkdllmeeocaaFnScaledPack14
import Derived.Deep.RegionLaw
import Derived.WalkKit
import Derived.ProofKit
import Derived.OpenShut
import Derived.Lib.QuietBelow
import Derived.Test.YteadkdllmeeocaaFnScaledPack18
import Derived.Test.YteadkdllmeeocaaFnScaledPack5
import Derived.Test.YteadkdllmeeocaaFnScaledPack4
import Derived.Test.YteadkdllmeeocaaFnScaledPack3
import Derived.BigQuiet
import Derived.Test.YteadkdllmeeocaaFnScaledPack6
/- Counts copied, by the specification. -/
namespace Go.Proofs.Yteadkdllmeeocaa
open Go.RowKit
set_option maxRecDepth 100000
set_option linter.unusedSimpArgs false
set_option maxHeartbeats 3200000 in
theorem l8Copy_any (v : Value) (t : StatsD) (w : World) (h : StatsAt w v t) (hn : okSt t) :
    Calls Try.prog 87 #[v] w fun e w' => ∃ v', e = .returned v' ∧ OwnSt w.heap.size w' v' t ∧ Below w.heap.size w w' := by
  obtain ⟨i0, hi0, hz0, hz1, hz2⟩ := info_parts intsInfo
  have HT : Hid (∀ W, Below w.heap.size w W → StatsAt W v t) := fun W hW => h.later hW
  have HO : Hid (okSt t) := hn
  obtain ⟨vt, vc, rfl, ht, hc⟩ := h
  obtain ⟨oc, kc, rfl, -, -⟩ := id hc
  have hnc := hn.cells
  clear ht hc hn
  obtain ⟨K1, K2, B0⟩ := blk_2 36 36 w #[vt, .slice oc t.cells.length kc] #[.slice none 0 0, .slice none 0 0]
  have HLO : Hid ((((w.alloc (.cells #[vt, .slice oc t.cells.length kc] 36)).alloc (.cells #[.slice none 0 0, .slice none 0 0] 36)).alloc (.cells #[] 3)).ownsRow (w.heap.size + 2) 3 1 (.slice (some ⟨w.heap.size + 1 + 1, 0, none⟩) 0 0) 0 []) := by
    have := ownI_lit0 ((w.alloc (.cells #[vt, .slice oc t.cells.length kc] 36)).alloc (.cells #[.slice none 0 0, .slice none 0 0] 36)) (w.heap.size + 2) (by simp)
    rwa [show ((w.alloc (.cells #[vt, .slice oc t.cells.length kc] 36)).alloc (.cells #[.slice none 0 0, .slice none 0 0] 36)).heap.size = w.heap.size + 1 + 1 by simp] at this
  have BL := B0.alloc B0.size (.cells #[] 3)
  have KL1 := K1.alloc (.cells #[] 3)
  have KL2 := K2.alloc (.cells #[] 3)
  obtain ⟨vt', vc', e', rT, -⟩ := HT.out _ BL
  cases e'
  go_enter Try.func87, Try.ntmps87
  go_wp2_with (at_builtin; refine wpList_lit_copy rfl _ _ rfl (w.heap.size + 2) (w.heap.size + 1 + 1) _ t.totals rfl rfl HLO.out rT HO.out.totals (by simp) ?_)
  intro v1 w1 ho1 hg1
  have B1 := BL.grown hg1 (by simp; omega) (fun j hj => by cases hj; omega)
  replace K1 := KL1.kept hg1 (by intro e; have := Option.some.inj e; omega)
  replace K2 := KL2.kept hg1 (by intro e; have := Option.some.inj e; omega)
  have hs1 := hg1.size
  simp only [World.size_alloc] at hs1
  have ho1 := own_base ho1 (b' := w.heap.size) (by omega)
  obtain ⟨o1, k1, rfl⟩ := own_slice ho1
  obtain ⟨KX, BX⟩ := blk_1 36 w1 #[.slice o1 t.totals.length k1, .slice none 0 0]
  have HLT : Hid (∀ a, (Value.slice o1 t.totals.length k1).ownBlock = some a → a < w1.heap.size) := fun a ha => (ho1.lt a ha).2
  have BW := B1.trans (BX.mono B1.size)
  have K1A := K1.below BX
  have K2A := K2.below BX
  have hoA := own_below ho1 BX
  have q1 : (w1.alloc (.cells #[.slice o1 t.totals.length k1, .slice none 0 0] 36)).cell? ⟨w.heap.size, 1, none⟩ = some (.slice oc t.cells.length kc) := K1A.cell 1
  have hpw : w.heap.size + 2 ≤ w1.heap.size := by omega
  clear B1 K1 K2 ho1 BX hs1 B0 KL1 KL2 BL hg1 HLO rT
  go_wp2
  generalize (w1.alloc (.cells #[.slice o1 t.totals.length k1, .slice none 0 0] 36)) = wa at KX K1A K2A hoA BW q1
  obtain ⟨p, hp⟩ : ∃ p, p = w1.heap.size := ⟨_, rfl⟩
  rw [← hp] at KX HLT hpw ⊢
  clear q1 hp
  go_loopw [4] (fun i wr => ∃ (k : Nat) (vx : Value) (ys : List Value) (L : Nat → Value), i = .int .i64 k ∧ k ≤ t.cells.length ∧ ys.length = k ∧ Blk 36 wr w.heap.size #[vt, .slice oc t.cells.length kc] ∧ Blk 36 wr (w.heap.size + 1) #[.slice none 0 0, .slice none 0 0] ∧ Blk 36 wr p #[.slice o1 t.totals.length k1, vx] ∧
      wr.ownsRow w.heap.size 3 1 (.slice o1 t.totals.length k1) t.totals.length (t.totals.map (Value.int .i64)) ∧ wr.ownsRow (p + 1) 24 1 vx k ys ∧ DoneII wr (p + 1) ys L t.cells k ∧ Below w.heap.size w wr) (fun i _ => t.cells.length - (intOf i).toNat)
  case atStart => exact ⟨0, _, [], fun _ => .slice none 0 0, rfl, by omega, rfl, K1A, K2A, KX, hoA, World.ownsRow_nil _ _ _ _, DoneII.start _ _ _ _ _, BW⟩
  case round =>
    obtain ⟨k, vx, ys, L, rfl, hk, hyl, R1, R2, RX, own, hrow, hdone, hb⟩ := hrel
    clear KX K1A K2A hoA BW
    obtain ⟨ox, kx, rfl⟩ := own_slice hrow
    have j1 : wr.cell? ⟨w.heap.size, 1, none⟩ = some (.slice oc t.cells.length kc) := R1.cell 1
    by_cases hlt : k < t.cells.length
    · obtain ⟨vt', vc', e', -, rC⟩ := HT.out wr hb
      cases e'
      obtain ⟨oc', kc', e', -, hrC⟩ := rC
      cases e'
      obtain ⟨gc, fc, rfl, hgc, hjC⟩ := hrC (by omega)
      obtain ⟨u, hu, ru⟩ := hjC k hlt
      obtain ⟨ou, ku, rfl, -, -⟩ := id ru
      have lu := HO.out.each _ (il_mem hlt)
      have hvo : ∀ j, (Value.slice ox k kx).ownBlock = some j → p + 1 ≤ j := fun j hj => (hrow.lt j hj).1
      have XD : Blk 36 wr.drew p #[.slice o1 t.totals.length k1, .slice ox k kx] := RX
      have TD : Blk 36 wr.drew w.heap.size #[vt, .slice (some ⟨gc, fc, none⟩) t.cells.length kc] := R1
      have BD : Below wr.drew.heap.size wr.drew (wr.drew.alloc (.cells #[] 3)) := (Below.refl _ _).alloc (Nat.le_refl _) _
      have d0 : wr.cell? ⟨p, 1, none⟩ = some (.slice ox k kx) := RX.cell 1
      have d1 : wr.drew.cell? ⟨p, 1, none⟩ = some (.slice ox k kx) := RX.cell 1
      have d2 : (wr.drew.alloc (.cells #[] 3)).cell? ⟨p, 1, none⟩ = some (.slice ox k kx) := (XD.alloc _).cell 1
      have d3 : (wr.alloc (.cells #[] 3)).cell? ⟨p, 1, none⟩ = some (.slice ox k kx) := (RX.alloc _).cell 1
      have t1 : wr.drew.cell? ⟨w.heap.size, 1, none⟩ = some (.slice (some ⟨gc, fc, none⟩) t.cells.length kc) := R1.cell 1
      have t2 : (wr.drew.alloc (.cells #[] 3)).cell? ⟨w.heap.size, 1, none⟩ = some (.slice (some ⟨gc, fc, none⟩) t.cells.length kc) := (TD.alloc _).cell 1
      have t3 : (wr.alloc (.cells #[] 3)).cell? ⟨w.heap.size, 1, none⟩ = some (.slice (some ⟨gc, fc, none⟩) t.cells.length kc) := (R1.alloc _).cell 1
      have u1 : wr.drew.cell? ⟨gc, fc + k, none⟩ = some (.slice ou (il t.cells k).length ku) := hu
      have u2 : (wr.drew.alloc (.cells #[] 3)).cell? ⟨gc, fc + k, none⟩ = some (.slice ou (il t.cells k).length ku) := (BD.cell (p := ⟨gc, fc + k, none⟩) hgc).trans hu
      have u3 : (wr.alloc (.cells #[] 3)).cell? ⟨gc, fc + k, none⟩ = some (.slice ou (il t.cells k).length ku) := (World.cell?_alloc_past _ gc (fc + k) hgc).trans hu
      have hLO : (wr.drew.alloc (.cells #[] 3)).ownsRow wr.drew.heap.size 3 1 (.slice (some ⟨wr.drew.heap.size, 0, none⟩) 0 0) 0 [] := ownI_lit0 wr.drew _ (Nat.le_refl _)
      have hru : RowI (wr.drew.alloc (.cells #[] 3)) (.slice ou (il t.cells k).length ku) (il t.cells k) := (ru.later (Below.refl wr.heap.size wr).drew).later BD
      have rd : wr.drew.ownsRow (p + 1) 24 1 (.slice ox k kx) k ys := hrow
      have hHL : Hid (∀ j, j < k → ∀ a, (L j).ownBlock = some a → a < wr.drew.heap.size) := hdone.lt
      have hpr : p + 1 ≤ wr.drew.heap.size := RX.lt
      have hbd : Below w.heap.size w wr.drew := hb.drew
      clear hjC hrC hgc ru TD
      go_wp2
      go_region_law (first
        | (refine step_wp rfl (wp_lit_copy _ _ rfl wr.drew.heap.size wr.drew.heap.size _ (il t.cells k) rfl rfl hLO hru lu (by simp) ?_); intro v2 w2 q1 hg2; obtain ⟨o2, k2, rfl⟩ := own_slice q1; have hb2 : Below wr.drew.heap.size wr.drew w2 := BD.grown hg2 BD.size (fun j hj => by cases hj; exact Nat.le_refl _); have X2 := XD.below hb2; have a2 : w2.cell? ⟨p, 1, none⟩ = some (.slice ox k kx) := X2.cell 1; have a2' : (w2.alloc (.cells #[.slice o2 (il t.cells k).length k2] 24)).cell? ⟨p, 1, none⟩ = some (.slice ox k kx) := (X2.alloc _).cell 1; have r2 := own_below rd hb2; have hp2 : p + 1 ≤ w2.heap.size := Nat.le_trans hpr hb2.size)
        | (refine step_wp rfl (wp_append_own _ _ _ 34 rfl (p + 1) 24 i0 (.slice none 0 0) 1 24 Try.underlying34 hi0 hz0 hz1 hz2 rfl (by decide) _ _ _ rfl (r2.alloc (.cells #[.slice o2 (il t.cells k).length k2] 24)) ⟨w2.heap.size, 0, none⟩ 1 1 [.slice o2 (il t.cells k).length k2] rfl rfl (newcV _ _ _) (by simp [Value.oneCell']) (by unfold maxLen; omega) (by omega) (by simp; omega) ?_); intro v3 w3 ho hg3 hnil; obtain ⟨ov, cv, rfl⟩ := own_slice ho; have X3 := (X2.alloc (.cells #[.slice o2 (il t.cells k).length k2] 24)).kept hg3 (fun e => by have := hvo _ e; omega); have a3 : w3.cell? ⟨p, 1, none⟩ = some (.slice ox k kx) := X3.cell 1; have f3 := X3.frozen 1))
      all_goals
        have XF := X3.setCell 1 (.slice ov (k + 1) cv)
        have rA := r2.alloc (.cells #[.slice o2 (il t.cells k).length k2] 24)
        have D2 := (hdone.below (Below.refl wr.heap.size wr).drew).below hb2
        have DS := (D2.snoc (B := wr.drew.heap.size) hyl hHL.out q1 hpr).alloc (.cells #[.slice o2 (il t.cells k).length k2] 24)
        have D3 := (DS.keptRow rA hg3).setCellN (p := p) (q := 1) X3 (by decide) (.slice ov (k + 1) cv)
        have b2 := hbd.trans (hb2.mono hbd.size)
        have b3 := (b2.alloc (b2.size) (.cells #[.slice o2 (il t.cells k).length k2] 24)).grown hg3 (by have := b2.size; simp; omega) (fun j hj => by have := hvo _ hj; omega)
        have b4 : Below w.heap.size w (w3.setCell ⟨p, 1, none⟩ (.slice ov (k + 1) cv)) := b3.setCell (p := ⟨p, 1, none⟩) (by simp; omega) _
        have R1F := (((Blk.below (w' := wr.drew) R1 (Below.refl wr.heap.size wr).drew).below hb2).alloc (.cells #[.slice o2 (il t.cells k).length k2] 24)).kept hg3 (fun e => by have := hvo _ e; omega)
        have R2F := (((Blk.below (w' := wr.drew) R2 (Below.refl wr.heap.size wr).drew).below hb2).alloc (.cells #[.slice o2 (il t.cells k).length k2] 24)).kept hg3 (fun e => by have := hvo _ e; omega)
        have R1G := R1F.setCell_other ⟨p, 1, none⟩ (.slice ov (k + 1) cv) (by simp; omega)
        have R2G := R2F.setCell_other ⟨p, 1, none⟩ (.slice ov (k + 1) cv) (by simp; omega)
        have ownA := (own_below (own_below own (Below.refl wr.heap.size wr).drew) hb2).alloc (.cells #[.slice o2 (il t.cells k).length k2] 24)
        have own3 := ownA.kept hg3 (apart_ty ownA rA (by decide))
        have ownG := own_setCellN own3 p 1 (.slice ov (k + 1) cv) (own_ne_blk own3 X3 (by decide))
        have rowG := own_setCellN ho p 1 (.slice ov (k + 1) cv) (own_ne_blk ho X3 (by decide))
        clear j1 d0 d1 d2 d3 t1 t2 t3 u1 u2 u3 hu hLO hru BD hg2 hvo XD rd hpr hbd X2 a2 a2' r2 q1 hb2 hg3 hnil X3 a3 f3 rA D2 DS b2 b3 R1F R2F ownA own3 ho R1 R2 RX own hrow hdone hb
        go_wp2
        go_roundw
        case rel => exact ⟨k + 1, _, _, _, by go_num, by omega, by simp; omega, R1G, R2G, XF, ownG, rowG, D3, b4⟩
        case measure => simp [intOf]; omega
    · obtain rfl : k = t.cells.length := by omega
      go_wp2_with (first
        | (with_reducible refine wp_st_load rfl _ rfl ?_; refine ⟨p, rfl, _, _, RX, ?_⟩)
        | (with_reducible refine wp_st_store rfl _ _ rfl ?_; refine ⟨w.heap.size + 1, rfl, _, _, _, _, _, _, rfl, _, _, R2, ?_⟩)
        | go_in)
      refine bodyPost_ret (res_st Try.results87 _ _ _ _ _ rfl (R2.setRow _)) rfl ⟨_, rfl, ownSt_mk (B := p + 1) (ys := ys) (L := L) ?_ (fun a ha => by have := HLT.out a ha; omega) ?_ ?_ (by omega), below_row hb (by omega) _⟩
      · exact own_setRowN own _ _ (own_ne_blk own R2 (by decide))
      · exact own_setRowN hrow _ _ (own_ne_blk hrow R2 (by decide))
      · exact hdone.setRowN R2 (by decide) _
end Go.Proofs.Yteadkdllmeeocaa
/- A call that changes nothing, in a region that draws its order. -/
namespace Go.Proofs.Yteadkdllmeeocaa
open Go.RowKit
set_option maxRecDepth 100000
theorem regrown_same {P : Program} {f : FuncId} {args : Array Value} {w : World} {d : Nat} {os : Array Obj} {v : Value} (h : Calls P f args (Go.Sort.grow (redrawn w d) os) fun e w' => e = .returned v ∧ w' = Go.Sort.grow (redrawn w d) os) :
    Calls P f args (Go.Sort.grow (redrawn w d) os) fun e w'' => e = .returned v ∧ ∃ p : Regrown, w'' = Go.Sort.grow (redrawn w p.d) p.os :=
  h.mono fun _ _ ⟨he, hb⟩ => ⟨he, ⟨d, os⟩, hb⟩
end Go.Proofs.Yteadkdllmeeocaa
/- Whether an example is right, by the specification. -/
namespace Go.Proofs.Yteadkdllmeeocaa
open Go.RowKit
set_option maxRecDepth 100000
set_option linter.unusedSimpArgs false
set_option maxHeartbeats 3200000 in
theorem specExOk_any (vs ve : Value) (s : SchemaD) (e : ExD) (w : World) (hs : SchemaAt w vs s) (he : ExAt w ve e) (hn : okSch s) (hb : e.bins.length ≤ 1099511627776) :
    Calls Try.prog 88 #[vs, ve] w fun r w' => r = .returned (.bool (exOk s e)) ∧ Below w.heap.size w w' := by
  have mixed : Try.prog.follows .mixedOrders = true := by kernel_rfl
  have HS : Hid (∀ W, Below w.heap.size w W → SchemaAt W vs s) := fun W h => hs.later h
  have HEX : Hid (∀ W, Below w.heap.size w W → ExAt W ve e) := fun W h => he.later h
  have HOK : Hid (okSch s) := hn
  obtain ⟨va, vc, rfl, ra, rc⟩ := hs
  obtain ⟨oa, ka, rfl, -, -⟩ := id ra
  obtain ⟨oc, kc, rfl, -, -⟩ := id rc
  obtain ⟨vb, rfl, rb⟩ := he
  obtain ⟨ob, kb, rfl, -, -⟩ := id rb
  have la := hn.attrs
  have lc := hn.classes.1
  clear ra rc rb hn
  have B0 : Below w.heap.size w ((w.alloc (.cells #[.slice oa s.attrs.length ka, .slice oc s.classes.length kc] 33)).alloc (.cells #[.slice ob e.bins.length kb, .int .i64 e.cls] 101)) := ((Below.refl _ _).alloc (Nat.le_refl _) _).alloc (by simp) _
  have K1 := (Blk.new 33 w #[.slice oa s.attrs.length ka, .slice oc s.classes.length kc]).alloc (.cells #[.slice ob e.bins.length kb, .int .i64 e.cls] 101)
  have K2 : Blk 101 ((w.alloc (.cells #[.slice oa s.attrs.length ka, .slice oc s.classes.length kc] 33)).alloc (.cells #[.slice ob e.bins.length kb, .int .i64 e.cls] 101)) (w.heap.size + 1) #[.slice ob e.bins.length kb, .int .i64 e.cls] := by
    have := Blk.new 101 (w.alloc (.cells #[.slice oa s.attrs.length ka, .slice oc s.classes.length kc] 33)) #[.slice ob e.bins.length kb, .int .i64 e.cls]
    rwa [show (w.alloc (.cells #[.slice oa s.attrs.length ka, .slice oc s.classes.length kc] 33)).heap.size = w.heap.size + 1 by simp] at this
  have e1 := specSchemaOk_any _ s _ (HS.out _ B0) HOK.out
  cases hk : schemaOk s with
  | false =>
    have HE : Hid (exOk s e = false) := by unfold exOk; rw [hk]; rfl
    rw [hk] at e1
    clear hk K1 K2
    go_enter Try.func88, Try.ntmps88
    go_wp2_with fail
    refine e1.mono ?_
    clear e1
    rintro r w1 ⟨rfl, hb1⟩
    go_wp2
    go_ret
    exact ⟨by rw [HE.out]; rfl, B0.trans (hb1.mono (by simp; omega))⟩
  | true =>
    have HX : Hid (exOk s e = (decide (e.bins.length = s.attrs.length) && (decide (-1 ≤ e.cls ∧ e.cls ≤ (s.classes.length : Int) - 1) && binsRight s e))) := by unfold exOk; rw [hk]; rfl
    rw [hk] at e1
    clear hk
    go_enter Try.func88, Try.ntmps88
    go_wp2_with fail
    refine e1.mono ?_
    clear e1
    rintro r w1 ⟨rfl, hb1⟩
    have B1 := B0.trans (hb1.mono (by simp; omega))
    replace K1 := K1.below hb1
    replace K2 := K2.below hb1
    have p0 : w1.cell? ⟨w.heap.size, 0, none⟩ = some (.slice oa s.attrs.length ka) := K1.cell 0
    have p1 : w1.cell? ⟨w.heap.size, 1, none⟩ = some (.slice oc s.classes.length kc) := K1.cell 1
    have q0 : w1.cell? ⟨w.heap.size + 1, 0, none⟩ = some (.slice ob e.bins.length kb) := K2.cell 0
    have q1 : w1.cell? ⟨w.heap.size + 1, 1, none⟩ = some (.int .i64 e.cls) := K2.cell 1
    clear hb1 B0
    by_cases hl : e.bins.length = s.attrs.length
    rotate_left
    · have HE : Hid (exOk s e = false) := by rw [HX.out, decide_eq_false hl]; rfl
      have hq : ((e.bins.length : Int) != (s.attrs.length : Int)) = true := by rw [bne_iff_ne]; omega
      clear hl
      go_wp2
      go_ret
      exact ⟨by rw [HE.out]; rfl, B1⟩
    have hq : ((e.bins.length : Int) != (s.attrs.length : Int)) = false := by rw [hl]; simp
    have HLEN : Hid (e.bins.length = s.attrs.length) := hl
    have e2 := in_any e.cls (-1) ((s.classes.length : Int) - 1) w1
    by_cases hcl : -1 ≤ e.cls ∧ e.cls ≤ (s.classes.length : Int) - 1
    rotate_left
    · have HE : Hid (exOk s e = false) := by rw [HX.out, decide_eq_false hcl, Bool.false_and, Bool.and_false]; rfl
      rw [decide_eq_false hcl] at e2
      clear hcl hl
      go_wp2_with fail
      refine e2.mono ?_
      clear e2
      rintro r w2 ⟨rfl, e2'⟩
      rw [e2']
      go_wp2
      go_ret
      exact ⟨by rw [HE.out]; rfl, B1⟩
    have HX2 : Hid (exOk s e = binsRight s e) := by rw [HX.out, decide_eq_true hl, decide_eq_true hcl]; rfl
    rw [decide_eq_true hcl] at e2
    clear hcl HX hl
    go_wp2_with fail
    refine e2.mono ?_
    clear e2
    rintro r w2 ⟨rfl, e2'⟩
    rw [e2']
    clear e2' w2
    have HK : Hid (Blk 33 w1 w.heap.size #[.slice oa s.attrs.length ka, .slice oc s.classes.length kc] ∧ Blk 101 w1 (w.heap.size + 1) #[.slice ob e.bins.length kb, .int .i64 e.cls]) := ⟨K1, K2⟩
    clear p0 p1 q1 K1 K2
    go_wp2
    go_loopw [5] (fun i wr => ∃ k : Nat, i = .int .i64 k ∧ k ≤ e.bins.length ∧ Hid (∀ j, j < k → binRight s e j = true) ∧ Below w1.heap.size w1 wr) (fun i _ => e.bins.length - (intOf i).toNat)
    case atStart => exact ⟨0, rfl, by omega, fun j hj => by omega, Below.refl _ _⟩
    case round =>
      obtain ⟨k, rfl, hk, hal, hbr⟩ := hrel
      have hbw := B1.trans (hbr.mono B1.size)
      have k0 : wr.cell? ⟨w.heap.size, 0, none⟩ = some (.slice oa s.attrs.length ka) := (HK.out.1.below hbr).cell 0
      have j0 : wr.cell? ⟨w.heap.size + 1, 0, none⟩ = some (.slice ob e.bins.length kb) := (HK.out.2.below hbr).cell 0
      by_cases hlt : k < e.bins.length
      · obtain ⟨va', vc', e', rA, -⟩ := HS.out wr hbw
        cases e'
        obtain ⟨oa', ka', e', -, hrA⟩ := rA
        cases e'
        have hkA : k < s.attrs.length := by have := HLEN.out; omega
        obtain ⟨ga, fa, rfl, hga, hjA⟩ := hrA (by omega)
        obtain ⟨x1, x2, c0, c1, c2, r1, r2⟩ := hjA k hkA
        obtain ⟨y1, z1, rfl, -, -⟩ := id r1
        obtain ⟨y2, z2, rfl, -, -⟩ := id r2
        obtain ⟨vb', e', rB⟩ := HEX.out wr hbw
        cases e'
        obtain ⟨ob', kb', e', -, hrB⟩ := rB
        cases e'
        obtain ⟨gb, fb, rfl, hgb, hjB⟩ := hrB (by omega)
        have b0 := hjB k hlt
        have hbl := bins_le (HOK.out.each _ (ad_mem hkA))
        obtain ⟨l0, l1⟩ := hbl
        have cB := fun d os => Calls.regrown_of (specBins_any (.agg #[.string (ad s.attrs k).name, .slice y1 (ad s.attrs k).cuts.length z1, .slice y2 (ad s.attrs k).vals.length z2]) (ad s.attrs k) (Go.Sort.grow (redrawn wr d) os) ⟨_, _, rfl, r1.later (below_regrown wr d os), r2.later (below_regrown wr d os)⟩ (HOK.out.each _ (ad_mem hkA)))
        have cI := fun d os => regrown_same (in_any (e.bins.getD k 0) (-1) (bins (ad s.attrs k) - 1) (Go.Sort.grow (redrawn wr d) os))
        have HBT : Hid (-1 ≤ e.bins.getD k 0 ∧ e.bins.getD k 0 ≤ bins (ad s.attrs k) - 1 → binRight s e k = true) := fun h => decide_eq_true h
        have HBF : Hid (¬ (-1 ≤ e.bins.getD k 0 ∧ e.bins.getD k 0 ≤ bins (ad s.attrs k) - 1) → binRight s e k = false) := fun h => decide_eq_false h
        have d0 := fun d os => cell_regrown c0 d os
        have d1 := fun d os => cell_regrown c1 d os
        have d2 := fun d os => cell_regrown c2 d os
        have f0 := fun d os => cell_regrown k0 d os
        have f1 := fun d os => cell_regrown j0 d os
        have f2 := fun d os => cell_regrown b0 d os
        have HBR : Hid (∀ d os, Below w1.heap.size w1 (Go.Sort.grow (redrawn wr d) os)) := fun d os => hbr.trans ((below_regrown wr d os).mono hbr.size)
        have HBW : Hid (∀ d os, Below w.heap.size w (Go.Sort.grow (redrawn wr d) os)) := fun d os => hbw.trans ((below_regrown wr d os).mono hbw.size)
        clear hjA hjB hrA hrB r1 r2 c0 c1 c2 b0 hbr hbw hga hgb
        generalize e.bins.getD k 0 = zb at cI f2 HBT HBF
        generalize bins (ad s.attrs k) = nb at cB cI l0 l1 HBT HBF
        have hkj : k < s.attrs.length := hkA
        by_cases hin : -1 ≤ zb ∧ zb ≤ nb - 1
        · have HT : Hid (binRight s e k = true) := HBT.out hin
          rw [decide_eq_true hin] at cI
          clear hin
          go_wp2
          refine wp_region_quiet_below mixed (by kernel_rfl) ?_
          repeat (go_big_quiet_step (first | with_reducible exact cB _ _ | with_reducible exact cI _ _))
          refine wpQuiet_nil ?_
          intro _ hw'
          obtain ⟨⟨dq, osq⟩, hw''⟩ := hw'
          subst hw''
          clear cB cI d0 d1 d2 f0 f1 f2
          go_wp2
          go_roundw
          case rel =>
            refine ⟨k + 1, by go_num, by omega, fun j hj => ?_, HBR.out _ _⟩
            by_cases ej : j = k
            · subst ej; exact HT.out
            · exact hal.out j (by omega)
          case measure => simp [intOf]; omega
        · have HE : Hid (binsRight s e = false) := binsRight_no k hlt (HBF.out hin)
          rw [decide_eq_false hin] at cI
          clear hin
          go_wp2
          refine wp_region_quiet_below mixed (by kernel_rfl) ?_
          repeat (go_big_quiet_step (first | with_reducible exact cB _ _ | with_reducible exact cI _ _))
          refine wpQuiet_nil ?_
          intro _ hw'
          obtain ⟨⟨dq, osq⟩, hw''⟩ := hw'
          subst hw''
          clear cB cI d0 d1 d2 f0 f1 f2
          go_wp2
          go_ret
          exact ⟨by rw [HX2.out, HE.out]; rfl, HBW.out _ _⟩
      · have HE : Hid (binsRight s e = true) := binsRight_yes fun j hj => hal.out j (by omega)
        go_wp2
        go_ret
        exact ⟨by rw [HX2.out, HE.out]; rfl, hbw⟩
end Go.Proofs.Yteadkdllmeeocaa
/- Whether counts are right, by the specification. -/
namespace Go.Proofs.Yteadkdllmeeocaa
open Go.RowKit
set_option maxRecDepth 100000
set_option linter.unusedSimpArgs false
set_option maxHeartbeats 3200000 in
theorem specStatsOk_any (vs vt : Value) (s : SchemaD) (t : StatsD) (w : World) (hs : SchemaAt w vs s) (ht : StatsAt w vt t) (hn : okSch s) (hb : okSt t) :
    Calls Try.prog 16 #[vs, vt] w fun r w' => r = .returned (.bool (statsOk s t)) ∧ Below w.heap.size w w' := by
  have mixed : Try.prog.follows .mixedOrders = true := by kernel_rfl
  have HS : Hid (∀ W, Below w.heap.size w W → SchemaAt W vs s) := fun W h => hs.later h
  have HT : Hid (∀ W, Below w.heap.size w W → StatsAt W vt t) := fun W h => ht.later h
  have HOK : Hid (okSch s) := hn
  have HOT : Hid (okSt t) := hb
  obtain ⟨va, vc, rfl, ra, rc⟩ := hs
  obtain ⟨oa, ka, rfl, -, -⟩ := id ra
  obtain ⟨oc, kc, rfl, -, -⟩ := id rc
  obtain ⟨vx, vy, rfl, rx, ry⟩ := ht
  obtain ⟨ox, kx, rfl, -, -⟩ := id rx
  obtain ⟨oy, ky, rfl, -, -⟩ := id ry
  have la := hn.attrs
  have lc := hn.classes.1
  have lx := hb.totals
  have ly := hb.cells
  clear ra rc rx ry hn hb
  have B0 : Below w.heap.size w ((w.alloc (.cells #[.slice oa s.attrs.length ka, .slice oc s.classes.length kc] 33)).alloc (.cells #[.slice ox t.totals.length kx, .slice oy t.cells.length ky] 36)) := ((Below.refl _ _).alloc (Nat.le_refl _) _).alloc (by simp) _
  have K1 := (Blk.new 33 w #[.slice oa s.attrs.length ka, .slice oc s.classes.length kc]).alloc (.cells #[.slice ox t.totals.length kx, .slice oy t.cells.length ky] 36)
  have K2 : Blk 36 ((w.alloc (.cells #[.slice oa s.attrs.length ka, .slice oc s.classes.length kc] 33)).alloc (.cells #[.slice ox t.totals.length kx, .slice oy t.cells.length ky] 36)) (w.heap.size + 1) #[.slice ox t.totals.length kx, .slice oy t.cells.length ky] := by
    have := Blk.new 36 (w.alloc (.cells #[.slice oa s.attrs.length ka, .slice oc s.classes.length kc] 33)) #[.slice ox t.totals.length kx, .slice oy t.cells.length ky]
    rwa [show (w.alloc (.cells #[.slice oa s.attrs.length ka, .slice oc s.classes.length kc] 33)).heap.size = w.heap.size + 1 by simp] at this
  have e1 := specSchemaOk_any _ s _ (HS.out _ B0) HOK.out
  cases hk : schemaOk s with
  | false =>
    have HE : Hid (statsOk s t = false) := by unfold statsOk; rw [hk]; rfl
    rw [hk] at e1
    clear hk K1 K2
    go_enter Try.func16, Try.ntmps16
    go_wp2_with fail
    refine e1.mono ?_
    clear e1
    rintro r w1 ⟨rfl, hb1⟩
    go_wp2
    go_ret
    exact ⟨by rw [HE.out]; rfl, B0.trans (hb1.mono (by simp; omega))⟩
  | true =>
    have lcl := sch_classes hk
    have HX : Hid (statsOk s t = (decide (t.totals.length = s.classes.length) && (t.totals.all inW && (decide (sumL t.totals ≤ 999) && (decide (t.cells.length = 0) || (decide (t.cells.length = s.attrs.length) && (List.range t.cells.length).all (cellOk s t))))))) := by unfold statsOk; rw [hk]; rfl
    rw [hk] at e1
    clear hk
    go_enter Try.func16, Try.ntmps16
    go_wp2_with fail
    refine e1.mono ?_
    clear e1
    rintro r w1 ⟨rfl, hb1⟩
    have B1 := B0.trans (hb1.mono (by simp; omega))
    replace K1 := K1.below hb1
    replace K2 := K2.below hb1
    have p0 : w1.cell? ⟨w.heap.size, 0, none⟩ = some (.slice oa s.attrs.length ka) := K1.cell 0
    have p1 : w1.cell? ⟨w.heap.size, 1, none⟩ = some (.slice oc s.classes.length kc) := K1.cell 1
    have q0 : w1.cell? ⟨w.heap.size + 1, 0, none⟩ = some (.slice ox t.totals.length kx) := K2.cell 0
    have q1 : w1.cell? ⟨w.heap.size + 1, 1, none⟩ = some (.slice oy t.cells.length ky) := K2.cell 1
    clear hb1 B0
    by_cases hl : t.totals.length = s.classes.length
    rotate_left
    · have HE : Hid (statsOk s t = false) := by rw [HX.out, decide_eq_false hl]; rfl
      have hq : ((t.totals.length : Int) != (s.classes.length : Int)) = true := by rw [bne_iff_ne]; omega
      clear hl
      go_wp2
      go_ret
      exact ⟨by rw [HE.out]; rfl, B1⟩
    have hq : ((t.totals.length : Int) != (s.classes.length : Int)) = false := by rw [hl]; simp
    have HLEN : Hid (t.totals.length = s.classes.length) := hl
    have HX1 : Hid (statsOk s t = (t.totals.all inW && (decide (sumL t.totals ≤ 999) && (decide (t.cells.length = 0) || (decide (t.cells.length = s.attrs.length) && (List.range t.cells.length).all (cellOk s t)))))) := by rw [HX.out, decide_eq_true hl]; rfl
    have HK : Hid (Blk 33 w1 w.heap.size #[.slice oa s.attrs.length ka, .slice oc s.classes.length kc] ∧ Blk 36 w1 (w.heap.size + 1) #[.slice ox t.totals.length kx, .slice oy t.cells.length ky]) := ⟨K1, K2⟩
    clear hl HX p0 K1 K2
    go_wp2
    go_loopw [5, 6] (fun a i wr => ∃ (k : Nat) (z : Int), i = .int .i64 k ∧ a = .int .i64 z ∧ k ≤ t.totals.length ∧ 0 ≤ z ∧ z ≤ 999 * (k : Int) ∧ Hid (z = sumL (t.totals.take k) ∧ ∀ j, j < k → inW (t.totals.getD j 0) = true) ∧ Below w1.heap.size w1 wr) (fun _ i _ => t.totals.length - (intOf i).toNat)
    case atStart => exact ⟨0, 0, rfl, rfl, by omega, by omega, by omega, ⟨rfl, fun j hj => by omega⟩, Below.refl _ _⟩
    case round =>
      obtain ⟨k, z, rfl, rfl, hk, hz0, hz1, hal, hbr⟩ := hrel
      have hbw := B1.trans (hbr.mono B1.size)
      have j0 : wr.cell? ⟨w.heap.size + 1, 0, none⟩ = some (.slice ox t.totals.length kx) := (HK.out.2.below hbr).cell 0
      by_cases hlt : k < t.totals.length
      · obtain ⟨vx', vy', e', rX, -⟩ := HT.out wr hbw
        cases e'
        obtain ⟨ox', kx', e', -, hrX⟩ := rX
        cases e'
        obtain ⟨gx, fx, rfl, hgx, hjX⟩ := hrX (by omega)
        have b0 := hjX k hlt
        clear hjX hrX
        have HSM : Hid (sumL (t.totals.take (k + 1)) = sumL (t.totals.take k) + t.totals.getD k 0) := sum_take hlt
        obtain ⟨x, hx⟩ : ∃ x, x = t.totals.getD k 0 := ⟨_, rfl⟩
        have HXK : Hid (x = t.totals.getD k 0) := hx
        rw [← hx] at b0
        clear hx
        have e2 := in_any x 0 999 wr
        by_cases hin : 0 ≤ x ∧ x ≤ 999
        · rw [decide_eq_true hin] at e2
          have HI : Hid (inW (t.totals.getD k 0) = true) := by rw [← HXK.out]; exact inW_yes hin
          go_wp2_with fail
          refine e2.mono ?_
          clear e2
          rintro r w2 ⟨rfl, e2'⟩
          rw [e2']
          clear e2'
          go_wp2
          go_roundw
          case rel =>
            refine ⟨k + 1, _, by go_num, rfl, by omega, by omega, by omega, ⟨?_, fun j hj => ?_⟩, hbr⟩
            · rw [HSM.out, ← hal.out.1, ← HXK.out]
            · by_cases ej : j = k
              · subst ej; exact HI.out
              · exact hal.out.2 j (by omega)
          case measure => simp [intOf]; omega
        · rw [decide_eq_false hin] at e2
          have HI : Hid (statsOk s t = false) := by rw [HX1.out, allW_no hlt (by rw [← HXK.out]; exact inW_no hin)]; rfl
          clear hin
          go_wp2_with fail
          refine e2.mono ?_
          clear e2
          rintro r w2 ⟨rfl, e2'⟩
          rw [e2']
          clear e2'
          go_wp2
          go_ret
          exact ⟨by rw [HI.out]; rfl, hbw⟩
      · obtain rfl : k = t.totals.length := by omega
        have HZ : Hid (z = sumL t.totals) := by have := hal.out.1; rwa [List.take_length] at this
        have HX2 : Hid (statsOk s t = (decide (sumL t.totals ≤ 999) && (decide (t.cells.length = 0) || (decide (t.cells.length = s.attrs.length) && (List.range t.cells.length).all (cellOk s t))))) := by rw [HX1.out, allW_yes hal.out.2]; rfl
        have k0 : wr.cell? ⟨w.heap.size, 0, none⟩ = some (.slice oa s.attrs.length ka) := (HK.out.1.below hbr).cell 0
        have k1 : wr.cell? ⟨w.heap.size, 1, none⟩ = some (.slice oc s.classes.length kc) := (HK.out.1.below hbr).cell 1
        have j1 : wr.cell? ⟨w.heap.size + 1, 1, none⟩ = some (.slice oy t.cells.length ky) := (HK.out.2.below hbr).cell 1
        clear hal HX1 p1 q1 hlt hk
        by_cases hz : 999 < z
        · have HE : Hid (statsOk s t = false) := by rw [HX2.out, ← HZ.out, decide_eq_false (by omega)]; rfl
          go_wp2
          go_ret
          exact ⟨by rw [HE.out]; rfl, hbw⟩
        have HX3 : Hid (statsOk s t = (decide (t.cells.length = 0) || (decide (t.cells.length = s.attrs.length) && (List.range t.cells.length).all (cellOk s t)))) := by rw [HX2.out, ← HZ.out, decide_eq_true (by omega)]; rfl
        clear HX2
        by_cases hc0 : t.cells.length = 0
        · have HE : Hid (statsOk s t = true) := by rw [HX3.out, decide_eq_true hc0]; rfl
          have hcq : ((t.cells.length : Int) == 0) = true := by rw [hc0]; rfl
          clear hc0
          go_wp2
          go_ret
          exact ⟨by rw [HE.out]; rfl, hbw⟩
        have hcq : ((t.cells.length : Int) == 0) = false := by rw [beq_eq_false_iff_ne]; omega
        by_cases hca : t.cells.length = s.attrs.length
        rotate_left
        · have HE : Hid (statsOk s t = false) := by rw [HX3.out, decide_eq_false hc0, decide_eq_false hca]; rfl
          have hcr : ((t.cells.length : Int) != (s.attrs.length : Int)) = true := by rw [bne_iff_ne]; omega
          clear hc0 hca
          go_wp2
          go_ret
          exact ⟨by rw [HE.out]; rfl, hbw⟩
        have hcr : ((t.cells.length : Int) != (s.attrs.length : Int)) = false := by rw [hca]; simp
        have HX4 : Hid (statsOk s t = (List.range t.cells.length).all (cellOk s t)) := by rw [HX3.out, decide_eq_false hc0, decide_eq_true hca]; rfl
        have HCA : Hid (t.cells.length = s.attrs.length) := hca
        have HWR : Hid (Below w1.heap.size w1 wr) := hbr
        clear hc0 hca HX3 hbr hbw
        go_wp2
        clear j0 k0 k1 j1 hcq hcr hq
        go_loopw [7, 8, 9, 10, 11, 12] (fun i _ _ _ _ _ wr => ∃ k : Nat, i = .int .i64 k ∧ k ≤ t.cells.length ∧ Hid (∀ j, j < k → cellOk s t j = true) ∧ Below w1.heap.size w1 wr) (fun i _ _ _ _ _ _ => t.cells.length - (intOf i).toNat)
        case atStart => exact ⟨0, rfl, by omega, fun j hj => by omega, HWR.out⟩
        case round =>
          obtain ⟨i, rfl, hi, hci, hb3⟩ := hrel
          have hbw := B1.trans (hb3.mono B1.size)
          have k0 : wr.cell? ⟨w.heap.size, 0, none⟩ = some (.slice oa s.attrs.length ka) := (HK.out.1.below hb3).cell 0
          have k1 : wr.cell? ⟨w.heap.size, 1, none⟩ = some (.slice oc s.classes.length kc) := (HK.out.1.below hb3).cell 1
          have j0 : wr.cell? ⟨w.heap.size + 1, 0, none⟩ = some (.slice ox t.totals.length kx) := (HK.out.2.below hb3).cell 0
          have j1 : wr.cell? ⟨w.heap.size + 1, 1, none⟩ = some (.slice oy t.cells.length ky) := (HK.out.2.below hb3).cell 1
          by_cases hlt : i < t.cells.length
          · obtain ⟨va', vc', e', rA, -⟩ := HS.out wr hbw
            cases e'
            obtain ⟨oa', ka', e', -, hrA⟩ := rA
            cases e'
            have hkA : i < s.attrs.length := by have := HCA.out; omega
            obtain ⟨ga, fa, rfl, hga, hjA⟩ := hrA (by omega)
            obtain ⟨x1, x2, c0, c1, c2, r1, r2⟩ := hjA i hkA
            obtain ⟨y1, z1, rfl, -, -⟩ := id r1
            obtain ⟨y2, z2, rfl, -, -⟩ := id r2
            have l0 := (small_bins (ad s.attrs i)).1
            have l1 := (small_bins (ad s.attrs i)).2
            have cB := specBins_any (.agg #[.string (ad s.attrs i).name, .slice y1 (ad s.attrs i).cuts.length z1, .slice y2 (ad s.attrs i).vals.length z2]) (ad s.attrs i) wr ⟨_, _, rfl, r1, r2⟩ (HOK.out.each _ (ad_mem hkA))
            obtain ⟨nb, hnb⟩ := Int.eq_ofNat_of_zero_le l0
            have HC : Hid (cellOk s t i = (decide (((il t.cells i).length : Int) = (nb : Int) * (s.classes.length : Int)) && (List.range s.classes.length).all (colOk t (il t.cells i) s.classes.length nb))) := by unfold cellOk; rw [hnb]; rfl
            rw [hnb] at cB l1
            clear hjA hrA r1 r2 hga hnb l0
            go_wp2_with fail
            refine cB.mono ?_
            clear cB c0 c1 c2 k0 k1 j0 j1
            rintro r w2 ⟨rfl, hb2⟩
            have hb4 := hb3.trans (hb2.mono hb3.size)
            have hbw2 := hbw.trans (hb2.mono hbw.size)
            clear hb3 hb2 hbw
            have k1 : w2.cell? ⟨w.heap.size, 1, none⟩ = some (.slice oc s.classes.length kc) := (HK.out.1.below hb4).cell 1
            have j1 : w2.cell? ⟨w.heap.size + 1, 1, none⟩ = some (.slice oy t.cells.length ky) := (HK.out.2.below hb4).cell 1
            obtain ⟨vx', vy', e', -, rY⟩ := HT.out w2 hbw2
            cases e'
            obtain ⟨oy', ky', e', -, hrY⟩ := rY
            cases e'
            obtain ⟨gy, fy, rfl, hgy, hjY⟩ := hrY (by omega)
            obtain ⟨u, cu, rU⟩ := hjY i hlt
            obtain ⟨ou, ku, rfl, -, hrU⟩ := id rU
            have lu := HOT.out.each _ (il_mem hlt)
            have p0 : 0 ≤ (nb : Int) * (s.classes.length : Int) := Int.mul_nonneg (by omega) (by omega)
            have p1 : (nb : Int) * (s.classes.length : Int) ≤ 12 := by
              have := Nat.mul_le_mul (show nb ≤ 4 by omega) lcl.2
              omega
            have HU : Hid (∀ W, Below w2.heap.size w2 W → RowI W (.slice ou (il t.cells i).length ku) (il t.cells i)) := fun W h => rU.later h
            have HCU : Hid (∀ W, Below w2.heap.size w2 W → W.cell? ⟨gy, fy + i, none⟩ = some (.slice ou (il t.cells i).length ku)) := fun W h => (h.cell (p := ⟨gy, fy + i, none⟩) hgy).trans cu
            clear hjY hrY rU hrU hgy
            by_cases heq : ((il t.cells i).length : Int) = (nb : Int) * (s.classes.length : Int)
            rotate_left
            · have HE : Hid (statsOk s t = false) := by rw [HX4.out]; exact range_no hlt (by rw [HC.out, decide_eq_false heq]; rfl)
              have hne : (((il t.cells i).length : Int) != (nb : Int) * (s.classes.length : Int)) = true := by rw [bne_iff_ne]; exact heq
              go_wp2
              go_quiet (fail)
              all_goals go_wp2
              all_goals go_ret
              all_goals exact ⟨by rw [HE.out]; rfl, below_drewN hbw2 _⟩
            have HC2 : Hid (cellOk s t i = (List.range s.classes.length).all (colOk t (il t.cells i) s.classes.length nb)) := by rw [HC.out, decide_eq_true heq]; rfl
            have hne : (((il t.cells i).length : Int) != (nb : Int) * (s.classes.length : Int)) = false := by rw [heq]; simp
            have HEQ : Hid ((il t.cells i).length = nb * s.classes.length) := by have := heq; rw [← Int.natCast_mul] at this; exact Int.ofNat.inj this
            go_wp2
            go_quiet (fail)
            all_goals go_wp2
            clear k1 j1 cu hne heq HC q0
            go_loopw [9, 10, 11, 12] (fun kk _ _ _ wr => ∃ q : Nat, kk = .int .i64 q ∧ q ≤ s.classes.length ∧ Hid (∀ j, j < q → colOk t (il t.cells i) s.classes.length nb j = true) ∧ Below w2.heap.size w2 wr) (fun kk _ _ _ _ => s.classes.length - (intOf kk).toNat)
            case atStart => exact ⟨0, rfl, by omega, fun j hj => by omega, below_drewN (Below.refl _ _) _⟩
            case round =>
              obtain ⟨q, rfl, hq, hcq, hb5⟩ := hrel
              have hb6 := hb4.trans (hb5.mono hb4.size)
              have k1 : wr.cell? ⟨w.heap.size, 1, none⟩ = some (.slice oc s.classes.length kc) := (HK.out.1.below hb6).cell 1
              by_cases hqt : q < s.classes.length
              rotate_left
              · have HE : Hid (cellOk s t i = true) := by rw [HC2.out]; exact range_yes fun j hj => hcq.out j (by omega)
                go_wp2
                go_roundw
                case rel =>
                  refine ⟨i + 1, by go_num, by omega, fun j hj => ?_, hb6⟩
                  by_cases ej : j = i
                  · subst ej; exact HE.out
                  · exact hci.out j (by omega)
                case measure => simp [intOf]; omega
              have HB5 : Hid (Below w2.heap.size w2 wr) := hb5
              go_wp2
              clear k1 hb5 hb6
              go_loopw [10, 11, 12] (fun sm bb _ wr => ∃ (b : Nat) (y : Int), bb = .int .i64 b ∧ sm = .int .i64 y ∧ b ≤ nb ∧ 0 ≤ y ∧ y ≤ 999 * (b : Int) ∧ Hid (y = sumL (colL (il t.cells i) s.classes.length q b) ∧ ∀ j, j < b → inW (colAt (il t.cells i) s.classes.length q j) = true) ∧ Below w2.heap.size w2 wr) (fun _ bb _ _ => nb - (intOf bb).toNat)
              case atStart => exact ⟨0, 0, rfl, rfl, by omega, by omega, by omega, ⟨rfl, fun j hj => by omega⟩, HB5.out⟩
              case round =>
                obtain ⟨b, y, rfl, rfl, hbn, hy0, hy1, hcy, hb5⟩ := hrel
                have hb6 := hb4.trans (hb5.mono hb4.size)
                have hb7 := hbw2.trans (hb5.mono hbw2.size)
                by_cases hbt : b < nb
                · have k1 : wr.cell? ⟨w.heap.size, 1, none⟩ = some (.slice oc s.classes.length kc) := (HK.out.1.below hb6).cell 1
                  have j1 : wr.cell? ⟨w.heap.size + 1, 1, none⟩ = some (.slice (some ⟨gy, fy, none⟩) t.cells.length ky) := (HK.out.2.below hb6).cell 1
                  have cu := HCU.out wr hb5
                  have hix : b * s.classes.length + q < nb * s.classes.length := by
                    have h1 := Nat.mul_le_mul_right s.classes.length (show b + 1 ≤ nb by omega)
                    rw [Nat.add_mul, Nat.one_mul] at h1
                    omega
                  have hix2 : b * s.classes.length + q < (il t.cells i).length := by rw [HEQ.out]; exact hix
                  obtain ⟨ou', ku', e', -, hrU⟩ := HU.out wr hb5
                  cases e'
                  obtain ⟨gu, fu, rfl, hgu, hjU⟩ := hrU (by omega)
                  have cx := hjU _ hix2
                  have HSM : Hid (sumL (colL (il t.cells i) s.classes.length q (b + 1)) = sumL (colL (il t.cells i) s.classes.length q b) + colAt (il t.cells i) s.classes.length q b) := col_succ _ _ _ _
                  obtain ⟨x, hx⟩ : ∃ x, x = (il t.cells i).getD (b * s.classes.length + q) 0 := ⟨_, rfl⟩
                  have HXB : Hid (x = colAt (il t.cells i) s.classes.length q b) := hx
                  rw [← hx] at cx
                  clear hx hjU hrU hgu
                  by_cases hin : 0 ≤ x ∧ x ≤ 999
                  · have HI : Hid (inW (colAt (il t.cells i) s.classes.length q b) = true) := by rw [← HXB.out]; exact inW_yes hin
                    obtain ⟨hx0, hx1⟩ := hin
                    go_wp2
                    go_quiet (fail)
                    all_goals go_wp2
                    all_goals go_roundw
                    case rel =>
                      refine ⟨b + 1, _, by go_num, rfl, by omega, by omega, by omega, ⟨?_, fun j hj => ?_⟩, below_drewN hb5 _⟩
                      · rw [HSM.out, ← hcy.out.1, ← HXB.out]
                      · by_cases ej : j = b
                        · subst ej; exact HI.out
                        · exact hcy.out.2 j (by omega)
                    case measure => simp [intOf]; omega
                  · have HE : Hid (statsOk s t = false) := by
                      rw [HX4.out]
                      refine range_no hlt ?_
                      rw [HC2.out]
                      refine range_no hqt ?_
                      unfold colOk
                      rw [col_no hbt (by rw [← HXB.out]; exact inW_no hin)]; rfl
                    have hin' : x < 0 ∨ 999 < x := by omega
                    clear hin
                    rcases hin' with hin | hin
                    · go_wp2
                      go_quiet (fail)
                      all_goals go_wp2
                      all_goals go_ret
                      all_goals exact ⟨by rw [HE.out]; rfl, below_drewN hb7 _⟩
                    · have hx0 : 0 ≤ x := by omega
                      have HD : Hid (decide (x ≤ 999) = false) := decide_eq_false (by omega)
                      go_wp2
                      go_quiet (fail)
                      all_goals go_wp2
                      all_goals try (rename_i h'; exfalso; rw [HD.out] at h'; exact Bool.noConfusion h')
                      all_goals go_ret
                      all_goals exact ⟨by rw [HE.out]; rfl, below_drewN hb7 _⟩
                · obtain rfl : b = nb := by omega
                  have j0 : wr.cell? ⟨w.heap.size + 1, 0, none⟩ = some (.slice ox t.totals.length kx) := (HK.out.2.below hb6).cell 0
                  obtain ⟨vx', vy', e', rX, -⟩ := HT.out wr hb7
                  cases e'
                  obtain ⟨ox', kx', e', -, hrX⟩ := rX
                  cases e'
                  have hqx : q < t.totals.length := by have := HLEN.out; omega
                  obtain ⟨gx, fx, rfl, hgx, hjX⟩ := hrX (by omega)
                  have cx := hjX q hqx
                  have HAL : Hid ((colL (il t.cells i) s.classes.length q b).all inW = true) := col_yes hcy.out.2
                  have HYS : Hid (y = sumL (colL (il t.cells i) s.classes.length q b)) := hcy.out.1
                  obtain ⟨x, hx⟩ : ∃ x, x = t.totals.getD q 0 := ⟨_, rfl⟩
                  have HXB : Hid (x = t.totals.getD q 0) := hx
                  rw [← hx] at cx
                  clear hx hjX hrX hgx hcy
                  by_cases hgt : x < y
                  · have HE : Hid (statsOk s t = false) := by
                      rw [HX4.out]
                      refine range_no hlt ?_
                      rw [HC2.out]
                      refine range_no hqt ?_
                      unfold colOk
                      rw [HAL.out, ← HYS.out, ← HXB.out, decide_eq_false (by omega)]; rfl
                    go_wp2
                    go_ret
                    exact ⟨by rw [HE.out]; rfl, hb7⟩
                  · have HI : Hid (colOk t (il t.cells i) s.classes.length b q = true) := by
                      unfold colOk
                      rw [HAL.out, ← HYS.out, ← HXB.out, decide_eq_true (by omega)]; rfl
                    go_wp2
                    go_roundw
                    case rel =>
                      refine ⟨q + 1, by go_num, by omega, fun j hj => ?_, hb5⟩
                      by_cases ej : j = q
                      · subst ej; exact HI.out
                      · exact hcq.out j (by omega)
                    case measure => simp [intOf]; omega
          · have HE : Hid (statsOk s t = true) := by rw [HX4.out]; exact range_yes fun j hj => hci.out j (by omega)
            go_wp2
            go_ret
            exact ⟨by rw [HE.out]; rfl, hbw⟩
end Go.Proofs.Yteadkdllmeeocaa
