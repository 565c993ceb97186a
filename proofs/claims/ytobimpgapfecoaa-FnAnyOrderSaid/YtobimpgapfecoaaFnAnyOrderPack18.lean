/- Texts of this claim, put together: part 18. -/
import Derived.Test.YtobimpgapfecoaaFnAnyOrderPack9
import Derived.Laws.AppendOwn
import Derived.Test.YtobimpgapfecoaaFnAnyOrderPack6
import Derived.Test.YtobimpgapfecoaaFnAnyOrderPack8
import Derived.Deep.RegionLaw
import Derived.WalkKit
import Derived.ProofKit
import Derived.OpenShut
import Derived.Lib.QuietBelow
import Derived.Test.YtobimpgapfecoaaFnAnyOrderPack16
import Derived.Test.YtobimpgapfecoaaFnAnyOrderPack7
import Derived.Test.YtobimpgapfecoaaFnAnyOrderPack15
import Derived.Test.YtobimpgapfecoaaFnAnyOrderPack3
import Derived.Test.YtobimpgapfecoaaFnAnyOrderPack17
import Derived.BigQuiet
/- A list of numbers copied behind an empty one of the call's own. -/
namespace Go.Proofs.Ytobimpgapfecoaa
open Go.RowKit
set_option maxRecDepth 100000
theorem run_lit_none (g cap : Nat) (w : World) (ty : TypeId) : (Builtin.append_ #[28, 28] ty #[.slice (some ⟨g, 0, none⟩) 0 0, .slice none 0 cap]).run Try.prog w = .ok (.slice (some ⟨g, 0, none⟩) 0 0) w := by
  go_simp
/-- The list behind an empty one of the call's own. -/
theorem run_lit_copy (base g : Nat) (ty : TypeId) (v : Value) (l : List Int) (w : World) (hown : w.ownsRow base 3 1 (.slice (some ⟨g, 0, none⟩) 0 0) 0 []) (h : RowI w v l) (hn : l.length ≤ 1099511627776) (hb : base ≤ w.heap.size) :
    ∃ v' w', (Builtin.append_ #[28, 28] ty #[.slice (some ⟨g, 0, none⟩) 0 0, v]).run Try.prog w = .ok v' w' ∧ w'.ownsRow base 3 1 v' l.length (l.map (Value.int .i64)) ∧ w.grownBy w' (some g) := by
  obtain ⟨i0, hi0, hz0, hz1, hz2⟩ := info_parts intInfo
  obtain ⟨oa, cap, rfl, hc, hr⟩ := h
  by_cases h0 : l.length = 0
  · obtain rfl : l = [] := List.length_eq_zero_iff.1 h0
    cases oa with
    | none => exact ⟨_, w, run_lit_none g cap w ty, hown, World.grownBy.refl w _⟩
    | some ad =>
      obtain ⟨v', w', h1, h2, h3, -⟩ := run_append_own (P := Try.prog) w base 28 ty 3 i0 (.int .i64 0) 1 8 Try.underlying28 hi0 hz0 hz1 hz2 rfl (by decide) _ 0 [] hown ad 0 cap [] (by simp) (fun j u hj => by simp at hj) (by simp) (by unfold maxLen; omega) (by omega) hb
      exact ⟨v', w', h1, h2, h3⟩
  · obtain ⟨ga, o, rfl, hg, hj⟩ := hr (by omega)
    have HN : ∀ (j : Nat) (u : Value), (l.map (Value.int .i64))[j]? = some u → w.cell? ((⟨ga, o, none⟩ : Addr).add j) = some u := by
      have := row_news (k := l.length) (w := w) (fun j hlt => hj j hlt)
      rwa [List.take_length] at this
    obtain ⟨v', w', h1, h2, h3, -⟩ := run_append_own (P := Try.prog) w base 28 ty 3 i0 (.int .i64 0) 1 8 Try.underlying28 hi0 hz0 hz1 hz2 rfl (by decide) _ 0 [] hown ⟨ga, o, none⟩ l.length cap (l.map (Value.int .i64)) (by simp) HN (ints_oneCell .i64 _) (by unfold maxLen; omega) (by omega) hb
    refine ⟨v', w', h1, ?_, h3⟩
    simpa using h2
theorem wp_lit_copy {o : Oper} {a : Act} {w : World} {K : Act → World → Prop} {Q : Exit → Act → World → Prop} (s x : Operand) (ho : o.op = .call { callee := .builtin .append, args := #[s, x], argTypes := #[28, 28] })
    (base g : Nat) (v : Value) (l : List Int) (hs : a.eval s = .slice (some ⟨g, 0, none⟩) 0 0) (hx : a.eval x = v) (hown : w.ownsRow base 3 1 (.slice (some ⟨g, 0, none⟩) 0 0) 0 []) (h : RowI w v l) (hn : l.length ≤ 1099511627776) (hb : base ≤ w.heap.size)
    (hK : ∀ v' w', w'.ownsRow base 3 1 v' l.length (l.map (Value.int .i64)) → w.grownBy w' (some g) → K (a.put o.dst v') w') : Oper.wp Try.prog o a w K Q := by
  obtain ⟨v', w', h1, h2, h3⟩ := run_lit_copy base g o.type v l w hown h hn hb
  unfold Oper.wp execOp
  simp only [ho, resolve, invoke, builtin, Sem.run_bind, Sem.run_pure, Result.andThen_ok, List.map_toArray, List.map_cons, List.map_nil, hs, hx, h1]
  exact hK _ _ h2 h3
theorem wpList_lit_copy {ops : Array Oper} {rest : List Oper} {o : Oper} {a : Act} {w : World} {Q : Exit → Act → World → Prop} (hg : o.guard = none) (s x : Operand) (ho : o.op = .call { callee := .builtin .append, args := #[s, x], argTypes := #[28, 28] })
    (base g : Nat) (v : Value) (l : List Int) (hs : a.eval s = .slice (some ⟨g, 0, none⟩) 0 0) (hx : a.eval x = v) (hown : w.ownsRow base 3 1 (.slice (some ⟨g, 0, none⟩) 0 0) 0 []) (h : RowI w v l) (hn : l.length ≤ 1099511627776) (hb : base ≤ w.heap.size)
    (hK : ∀ v' w', w'.ownsRow base 3 1 v' l.length (l.map (Value.int .i64)) → w.grownBy w' (some g) → wpList Try.prog ops Q rest (a.put o.dst v') w') : wpList Try.prog ops Q (o :: rest) a w :=
  wpList_plain hg fun _ hK' => wp_lit_copy s x ho base g v l hs hx hown h hn hb fun v' w' h1 h2 => hK' _ _ (hK v' w' h1 h2)
end Go.Proofs.Ytobimpgapfecoaa
/- Counts copied, by the specification. -/
namespace Go.Proofs.Ytobimpgapfecoaa
open Go.RowKit
set_option maxRecDepth 100000
set_option linter.unusedSimpArgs false
set_option maxHeartbeats 3200000 in
theorem l8Copy_any (v : Value) (t : StatsD) (w : World) (h : StatsAt w v t) (hn : okSt t) :
    Calls Try.prog 53 #[v] w fun e w' => ∃ v', e = .returned v' ∧ OwnSt w.heap.size w' v' t ∧ Below w.heap.size w w' := by
  obtain ⟨i0, hi0, hz0, hz1, hz2⟩ := info_parts intsInfo
  have HT : Hid (∀ W, Below w.heap.size w W → StatsAt W v t) := fun W hW => h.later hW
  have HO : Hid (okSt t) := hn
  obtain ⟨vt, vc, rfl, ht, hc⟩ := h
  obtain ⟨oc, kc, rfl, -, -⟩ := id hc
  have hnc := hn.cells
  clear ht hc hn
  obtain ⟨K1, K2, B0⟩ := blk_2 31 31 w #[vt, .slice oc t.cells.length kc] #[.slice none 0 0, .slice none 0 0]
  have HLO : Hid ((((w.alloc (.cells #[vt, .slice oc t.cells.length kc] 31)).alloc (.cells #[.slice none 0 0, .slice none 0 0] 31)).alloc (.cells #[] 3)).ownsRow (w.heap.size + 2) 3 1 (.slice (some ⟨w.heap.size + 1 + 1, 0, none⟩) 0 0) 0 []) := by
    have := ownI_lit0 ((w.alloc (.cells #[vt, .slice oc t.cells.length kc] 31)).alloc (.cells #[.slice none 0 0, .slice none 0 0] 31)) (w.heap.size + 2) (by simp)
    rwa [show ((w.alloc (.cells #[vt, .slice oc t.cells.length kc] 31)).alloc (.cells #[.slice none 0 0, .slice none 0 0] 31)).heap.size = w.heap.size + 1 + 1 by simp] at this
  have BL := B0.alloc B0.size (.cells #[] 3)
  have KL1 := K1.alloc (.cells #[] 3)
  have KL2 := K2.alloc (.cells #[] 3)
  obtain ⟨vt', vc', e', rT, -⟩ := HT.out _ BL
  cases e'
  go_enter Try.func53, Try.ntmps53
  go_wp2_with (at_builtin; refine wpList_lit_copy rfl _ _ rfl (w.heap.size + 2) (w.heap.size + 1 + 1) _ t.totals rfl rfl HLO.out rT HO.out.totals (by simp) ?_)
  intro v1 w1 ho1 hg1
  have B1 := BL.grown hg1 (by simp; omega) (fun j hj => by cases hj; omega)
  replace K1 := KL1.kept hg1 (by intro e; have := Option.some.inj e; omega)
  replace K2 := KL2.kept hg1 (by intro e; have := Option.some.inj e; omega)
  have hs1 := hg1.size
  simp only [World.size_alloc] at hs1
  have ho1 := own_base ho1 (b' := w.heap.size) (by omega)
  obtain ⟨o1, k1, rfl⟩ := own_slice ho1
  obtain ⟨KX, BX⟩ := blk_1 31 w1 #[.slice o1 t.totals.length k1, .slice none 0 0]
  have HLT : Hid (∀ a, (Value.slice o1 t.totals.length k1).ownBlock = some a → a < w1.heap.size) := fun a ha => (ho1.lt a ha).2
  have BW := B1.trans (BX.mono B1.size)
  have K1A := K1.below BX
  have K2A := K2.below BX
  have hoA := own_below ho1 BX
  have q1 : (w1.alloc (.cells #[.slice o1 t.totals.length k1, .slice none 0 0] 31)).cell? ⟨w.heap.size, 1, none⟩ = some (.slice oc t.cells.length kc) := K1A.cell 1
  have hpw : w.heap.size + 2 ≤ w1.heap.size := by omega
  clear B1 K1 K2 ho1 BX hs1 B0 KL1 KL2 BL hg1 HLO rT
  go_wp2
  generalize (w1.alloc (.cells #[.slice o1 t.totals.length k1, .slice none 0 0] 31)) = wa at KX K1A K2A hoA BW q1
  obtain ⟨p, hp⟩ : ∃ p, p = w1.heap.size := ⟨_, rfl⟩
  rw [← hp] at KX HLT hpw ⊢
  clear q1 hp
  go_loopw [4] (fun i wr => ∃ (k : Nat) (vx : Value) (ys : List Value) (L : Nat → Value), i = .int .i64 k ∧ k ≤ t.cells.length ∧ ys.length = k ∧ Blk 31 wr w.heap.size #[vt, .slice oc t.cells.length kc] ∧ Blk 31 wr (w.heap.size + 1) #[.slice none 0 0, .slice none 0 0] ∧ Blk 31 wr p #[.slice o1 t.totals.length k1, vx] ∧
      wr.ownsRow w.heap.size 3 1 (.slice o1 t.totals.length k1) t.totals.length (t.totals.map (Value.int .i64)) ∧ wr.ownsRow (p + 1) 28 1 vx k ys ∧ DoneII wr (p + 1) ys L t.cells k ∧ Below w.heap.size w wr) (fun i _ => t.cells.length - (intOf i).toNat)
  case atStart => exact ⟨0, _, [], fun _ => .slice none 0 0, rfl, by omega, rfl, K1A, K2A, KX, hoA, World.ownsRow_nil _ _ _ _, DoneII.start _ _ _ _ _, BW⟩
  case round =>
    obtain ⟨k, vx, ys, L, rfl, hk, hyl, R1, R2, RX, own, hrow, hdone, hb⟩ := hrel
    clear KX K1A K2A hoA BW
    obtain ⟨ox, kx, rfl⟩ := own_slice hrow
    have j1 : wr.cell? ⟨w.heap.size, 1, none⟩ = some (.slice oc t.cells.length kc) := R1.cell 1
    by_cases hlt : k < t.cells.length
    · obtain ⟨vt', vc', e', -, rC⟩ := HT.out wr hb
      cases e'
      obtain ⟨oc', kc', e', -, hrC⟩ := rC
      cases e'
      obtain ⟨gc, fc, rfl, hgc, hjC⟩ := hrC (by omega)
      obtain ⟨u, hu, ru⟩ := hjC k hlt
      obtain ⟨ou, ku, rfl, -, -⟩ := id ru
      have lu := HO.out.each _ (il_mem hlt)
      have hvo : ∀ j, (Value.slice ox k kx).ownBlock = some j → p + 1 ≤ j := fun j hj => (hrow.lt j hj).1
      have XD : Blk 31 wr.drew p #[.slice o1 t.totals.length k1, .slice ox k kx] := RX
      have TD : Blk 31 wr.drew w.heap.size #[vt, .slice (some ⟨gc, fc, none⟩) t.cells.length kc] := R1
      have BD : Below wr.drew.heap.size wr.drew (wr.drew.alloc (.cells #[] 3)) := (Below.refl _ _).alloc (Nat.le_refl _) _
      have d0 : wr.cell? ⟨p, 1, none⟩ = some (.slice ox k kx) := RX.cell 1
      have d1 : wr.drew.cell? ⟨p, 1, none⟩ = some (.slice ox k kx) := RX.cell 1
      have d2 : (wr.drew.alloc (.cells #[] 3)).cell? ⟨p, 1, none⟩ = some (.slice ox k kx) := (XD.alloc _).cell 1
      have d3 : (wr.alloc (.cells #[] 3)).cell? ⟨p, 1, none⟩ = some (.slice ox k kx) := (RX.alloc _).cell 1
      have t1 : wr.drew.cell? ⟨w.heap.size, 1, none⟩ = some (.slice (some ⟨gc, fc, none⟩) t.cells.length kc) := R1.cell 1
      have t2 : (wr.drew.alloc (.cells #[] 3)).cell? ⟨w.heap.size, 1, none⟩ = some (.slice (some ⟨gc, fc, none⟩) t.cells.length kc) := (TD.alloc _).cell 1
      have t3 : (wr.alloc (.cells #[] 3)).cell? ⟨w.heap.size, 1, none⟩ = some (.slice (some ⟨gc, fc, none⟩) t.cells.length kc) := (R1.alloc _).cell 1
      have u1 : wr.drew.cell? ⟨gc, fc + k, none⟩ = some (.slice ou (il t.cells k).length ku) := hu
      have u2 : (wr.drew.alloc (.cells #[] 3)).cell? ⟨gc, fc + k, none⟩ = some (.slice ou (il t.cells k).length ku) := (BD.cell (p := ⟨gc, fc + k, none⟩) hgc).trans hu
      have u3 : (wr.alloc (.cells #[] 3)).cell? ⟨gc, fc + k, none⟩ = some (.slice ou (il t.cells k).length ku) := (World.cell?_alloc_past _ gc (fc + k) hgc).trans hu
      have hLO : (wr.drew.alloc (.cells #[] 3)).ownsRow wr.drew.heap.size 3 1 (.slice (some ⟨wr.drew.heap.size, 0, none⟩) 0 0) 0 [] := ownI_lit0 wr.drew _ (Nat.le_refl _)
      have hru : RowI (wr.drew.alloc (.cells #[] 3)) (.slice ou (il t.cells k).length ku) (il t.cells k) := (ru.later (Below.refl wr.heap.size wr).drew).later BD
      have rd : wr.drew.ownsRow (p + 1) 28 1 (.slice ox k kx) k ys := hrow
      have hHL : Hid (∀ j, j < k → ∀ a, (L j).ownBlock = some a → a < wr.drew.heap.size) := hdone.lt
      have hpr : p + 1 ≤ wr.drew.heap.size := RX.lt
      have hbd : Below w.heap.size w wr.drew := hb.drew
      clear hjC hrC hgc ru TD
      go_wp2
      go_region_law (first
        | (refine step_wp rfl (wp_lit_copy _ _ rfl wr.drew.heap.size wr.drew.heap.size _ (il t.cells k) rfl rfl hLO hru lu (by simp) ?_); intro v2 w2 q1 hg2; obtain ⟨o2, k2, rfl⟩ := own_slice q1; have hb2 : Below wr.drew.heap.size wr.drew w2 := BD.grown hg2 BD.size (fun j hj => by cases hj; exact Nat.le_refl _); have X2 := XD.below hb2; have a2 : w2.cell? ⟨p, 1, none⟩ = some (.slice ox k kx) := X2.cell 1; have a2' : (w2.alloc (.cells #[.slice o2 (il t.cells k).length k2] 28)).cell? ⟨p, 1, none⟩ = some (.slice ox k kx) := (X2.alloc _).cell 1; have r2 := own_below rd hb2; have hp2 : p + 1 ≤ w2.heap.size := Nat.le_trans hpr hb2.size)
        | (refine step_wp rfl (wp_append_own _ _ _ 29 rfl (p + 1) 28 i0 (.slice none 0 0) 1 24 Try.underlying29 hi0 hz0 hz1 hz2 rfl (by decide) _ _ _ rfl (r2.alloc (.cells #[.slice o2 (il t.cells k).length k2] 28)) ⟨w2.heap.size, 0, none⟩ 1 1 [.slice o2 (il t.cells k).length k2] rfl rfl (newcV _ _ _) (by simp [Value.oneCell']) (by unfold maxLen; omega) (by omega) (by simp; omega) ?_); intro v3 w3 ho hg3 hnil; obtain ⟨ov, cv, rfl⟩ := own_slice ho; have X3 := (X2.alloc (.cells #[.slice o2 (il t.cells k).length k2] 28)).kept hg3 (fun e => by have := hvo _ e; omega); have a3 : w3.cell? ⟨p, 1, none⟩ = some (.slice ox k kx) := X3.cell 1; have f3 := X3.frozen 1))
      all_goals
        have XF := X3.setCell 1 (.slice ov (k + 1) cv)
        have rA := r2.alloc (.cells #[.slice o2 (il t.cells k).length k2] 28)
        have D2 := (hdone.below (Below.refl wr.heap.size wr).drew).below hb2
        have DS := (D2.snoc (B := wr.drew.heap.size) hyl hHL.out q1 hpr).alloc (.cells #[.slice o2 (il t.cells k).length k2] 28)
        have D3 := (DS.keptRow rA hg3).setCellN (p := p) (q := 1) X3 (by decide) (.slice ov (k + 1) cv)
        have b2 := hbd.trans (hb2.mono hbd.size)
        have b3 := (b2.alloc (b2.size) (.cells #[.slice o2 (il t.cells k).length k2] 28)).grown hg3 (by have := b2.size; simp; omega) (fun j hj => by have := hvo _ hj; omega)
        have b4 : Below w.heap.size w (w3.setCell ⟨p, 1, none⟩ (.slice ov (k + 1) cv)) := b3.setCell (p := ⟨p, 1, none⟩) (by simp; omega) _
        have R1F := (((Blk.below (w' := wr.drew) R1 (Below.refl wr.heap.size wr).drew).below hb2).alloc (.cells #[.slice o2 (il t.cells k).length k2] 28)).kept hg3 (fun e => by have := hvo _ e; omega)
        have R2F := (((Blk.below (w' := wr.drew) R2 (Below.refl wr.heap.size wr).drew).below hb2).alloc (.cells #[.slice o2 (il t.cells k).length k2] 28)).kept hg3 (fun e => by have := hvo _ e; omega)
        have R1G := R1F.setCell_other ⟨p, 1, none⟩ (.slice ov (k + 1) cv) (by simp; omega)
        have R2G := R2F.setCell_other ⟨p, 1, none⟩ (.slice ov (k + 1) cv) (by simp; omega)
        have ownA := (own_below (own_below own (Below.refl wr.heap.size wr).drew) hb2).alloc (.cells #[.slice o2 (il t.cells k).length k2] 28)
        have own3 := ownA.kept hg3 (apart_ty ownA rA (by decide))
        have ownG := own_setCellN own3 p 1 (.slice ov (k + 1) cv) (own_ne_blk own3 X3 (by decide))
        have rowG := own_setCellN ho p 1 (.slice ov (k + 1) cv) (own_ne_blk ho X3 (by decide))
        clear j1 d0 d1 d2 d3 t1 t2 t3 u1 u2 u3 hu hLO hru BD hg2 hvo XD rd hpr hbd X2 a2 a2' r2 q1 hb2 hg3 hnil X3 a3 f3 rA D2 DS b2 b3 R1F R2F ownA own3 ho R1 R2 RX own hrow hdone hb
        go_wp2
        go_roundw
        case rel => exact ⟨k + 1, _, _, _, by go_num, by omega, by simp; omega, R1G, R2G, XF, ownG, rowG, D3, b4⟩
        case measure => simp [intOf]; omega
    · obtain rfl : k = t.cells.length := by omega
      go_wp2_with (first
        | (with_reducible refine wp_st_load rfl _ rfl ?_; refine ⟨p, rfl, _, _, RX, ?_⟩)
        | (with_reducible refine wp_st_store rfl _ _ rfl ?_; refine ⟨w.heap.size + 1, rfl, _, _, _, _, _, _, rfl, _, _, R2, ?_⟩)
        | go_in)
      refine bodyPost_ret (res_st Try.results53 _ _ _ _ _ rfl (R2.setRow _)) rfl ⟨_, rfl, ownSt_mk (B := p + 1) (ys := ys) (L := L) ?_ (fun a ha => by have := HLT.out a ha; omega) ?_ ?_ (by omega), below_row hb (by omega) _⟩
      · exact own_setRowN own _ _ (own_ne_blk own R2 (by decide))
      · exact own_setRowN hrow _ _ (own_ne_blk hrow R2 (by decide))
      · exact hdone.setRowN R2 (by decide) _
end Go.Proofs.Ytobimpgapfecoaa
/- A call that changes nothing, in a region that draws its order. -/
namespace Go.Proofs.Ytobimpgapfecoaa
open Go.RowKit
set_option maxRecDepth 100000
theorem regrown_same {P : Program} {f : FuncId} {args : Array Value} {w : World} {d : Nat} {os : Array Obj} {v : Value} (h : Calls P f args (Go.Sort.grow (redrawn w d) os) fun e w' => e = .returned v ∧ w' = Go.Sort.grow (redrawn w d) os) :
    Calls P f args (Go.Sort.grow (redrawn w d) os) fun e w'' => e = .returned v ∧ ∃ p : Regrown, w'' = Go.Sort.grow (redrawn w p.d) p.os :=
  h.mono fun _ _ ⟨he, hb⟩ => ⟨he, ⟨d, os⟩, hb⟩
end Go.Proofs.Ytobimpgapfecoaa
/- Whether an example is right, by the specification. -/
namespace Go.Proofs.Ytobimpgapfecoaa
open Go.RowKit
set_option maxRecDepth 100000
set_option linter.unusedSimpArgs false
set_option maxHeartbeats 3200000 in
theorem specExOk_any (vs ve : Value) (s : SchemaD) (e : ExD) (w : World) (hs : SchemaAt w vs s) (he : ExAt w ve e) (hn : okSch s) (hb : e.bins.length ≤ 1099511627776) :
    Calls Try.prog 54 #[vs, ve] w fun r w' => r = .returned (.bool (exOk s e)) ∧ Below w.heap.size w w' := by
  have mixed : Try.prog.follows .mixedOrders = true := by kernel_rfl
  have HS : Hid (∀ W, Below w.heap.size w W → SchemaAt W vs s) := fun W h => hs.later h
  have HEX : Hid (∀ W, Below w.heap.size w W → ExAt W ve e) := fun W h => he.later h
  have HOK : Hid (okSch s) := hn
  obtain ⟨va, vc, rfl, ra, rc⟩ := hs
  obtain ⟨oa, ka, rfl, -, -⟩ := id ra
  obtain ⟨oc, kc, rfl, -, -⟩ := id rc
  obtain ⟨vb, rfl, rb⟩ := he
  obtain ⟨ob, kb, rfl, -, -⟩ := id rb
  have la := hn.attrs
  have lc := hn.classes.1
  clear ra rc rb hn
  have B0 : Below w.heap.size w ((w.alloc (.cells #[.slice oa s.attrs.length ka, .slice oc s.classes.length kc] 27)).alloc (.cells #[.slice ob e.bins.length kb, .int .i64 e.cls] 33)) := ((Below.refl _ _).alloc (Nat.le_refl _) _).alloc (by simp) _
  have K1 := (Blk.new 27 w #[.slice oa s.attrs.length ka, .slice oc s.classes.length kc]).alloc (.cells #[.slice ob e.bins.length kb, .int .i64 e.cls] 33)
  have K2 : Blk 33 ((w.alloc (.cells #[.slice oa s.attrs.length ka, .slice oc s.classes.length kc] 27)).alloc (.cells #[.slice ob e.bins.length kb, .int .i64 e.cls] 33)) (w.heap.size + 1) #[.slice ob e.bins.length kb, .int .i64 e.cls] := by
    have := Blk.new 33 (w.alloc (.cells #[.slice oa s.attrs.length ka, .slice oc s.classes.length kc] 27)) #[.slice ob e.bins.length kb, .int .i64 e.cls]
    rwa [show (w.alloc (.cells #[.slice oa s.attrs.length ka, .slice oc s.classes.length kc] 27)).heap.size = w.heap.size + 1 by simp] at this
  have e1 := specSchemaOk_any _ s _ (HS.out _ B0) HOK.out
  cases hk : schemaOk s with
  | false =>
    have HE : Hid (exOk s e = false) := by unfold exOk; rw [hk]; rfl
    rw [hk] at e1
    clear hk K1 K2
    go_enter Try.func54, Try.ntmps54
    go_wp2_with fail
    refine e1.mono ?_
    clear e1
    rintro r w1 ⟨rfl, hb1⟩
    go_wp2
    go_ret
    exact ⟨by rw [HE.out]; rfl, B0.trans (hb1.mono (by simp; omega))⟩
  | true =>
    have HX : Hid (exOk s e = (decide (e.bins.length = s.attrs.length) && (decide (-1 ≤ e.cls ∧ e.cls ≤ (s.classes.length : Int) - 1) && binsRight s e))) := by unfold exOk; rw [hk]; rfl
    rw [hk] at e1
    clear hk
    go_enter Try.func54, Try.ntmps54
    go_wp2_with fail
    refine e1.mono ?_
    clear e1
    rintro r w1 ⟨rfl, hb1⟩
    have B1 := B0.trans (hb1.mono (by simp; omega))
    replace K1 := K1.below hb1
    replace K2 := K2.below hb1
    have p0 : w1.cell? ⟨w.heap.size, 0, none⟩ = some (.slice oa s.attrs.length ka) := K1.cell 0
    have p1 : w1.cell? ⟨w.heap.size, 1, none⟩ = some (.slice oc s.classes.length kc) := K1.cell 1
    have q0 : w1.cell? ⟨w.heap.size + 1, 0, none⟩ = some (.slice ob e.bins.length kb) := K2.cell 0
    have q1 : w1.cell? ⟨w.heap.size + 1, 1, none⟩ = some (.int .i64 e.cls) := K2.cell 1
    clear hb1 B0
    by_cases hl : e.bins.length = s.attrs.length
    rotate_left
    · have HE : Hid (exOk s e = false) := by rw [HX.out, decide_eq_false hl]; rfl
      have hq : ((e.bins.length : Int) != (s.attrs.length : Int)) = true := by rw [bne_iff_ne]; omega
      clear hl
      go_wp2
      go_ret
      exact ⟨by rw [HE.out]; rfl, B1⟩
    have hq : ((e.bins.length : Int) != (s.attrs.length : Int)) = false := by rw [hl]; simp
    have HLEN : Hid (e.bins.length = s.attrs.length) := hl
    have e2 := in_any e.cls (-1) ((s.classes.length : Int) - 1) w1
    by_cases hcl : -1 ≤ e.cls ∧ e.cls ≤ (s.classes.length : Int) - 1
    rotate_left
    · have HE : Hid (exOk s e = false) := by rw [HX.out, decide_eq_false hcl, Bool.false_and, Bool.and_false]; rfl
      rw [decide_eq_false hcl] at e2
      clear hcl hl
      go_wp2_with fail
      refine e2.mono ?_
      clear e2
      rintro r w2 ⟨rfl, e2'⟩
      rw [e2']
      go_wp2
      go_ret
      exact ⟨by rw [HE.out]; rfl, B1⟩
    have HX2 : Hid (exOk s e = binsRight s e) := by rw [HX.out, decide_eq_true hl, decide_eq_true hcl]; rfl
    rw [decide_eq_true hcl] at e2
    clear hcl HX hl
    go_wp2_with fail
    refine e2.mono ?_
    clear e2
    rintro r w2 ⟨rfl, e2'⟩
    rw [e2']
    clear e2' w2
    have HK : Hid (Blk 27 w1 w.heap.size #[.slice oa s.attrs.length ka, .slice oc s.classes.length kc] ∧ Blk 33 w1 (w.heap.size + 1) #[.slice ob e.bins.length kb, .int .i64 e.cls]) := ⟨K1, K2⟩
    clear p0 p1 q1 K1 K2
    go_wp2
    go_loopw [5] (fun i wr => ∃ k : Nat, i = .int .i64 k ∧ k ≤ e.bins.length ∧ Hid (∀ j, j < k → binRight s e j = true) ∧ Below w1.heap.size w1 wr) (fun i _ => e.bins.length - (intOf i).toNat)
    case atStart => exact ⟨0, rfl, by omega, fun j hj => by omega, Below.refl _ _⟩
    case round =>
      obtain ⟨k, rfl, hk, hal, hbr⟩ := hrel
      have hbw := B1.trans (hbr.mono B1.size)
      have k0 : wr.cell? ⟨w.heap.size, 0, none⟩ = some (.slice oa s.attrs.length ka) := (HK.out.1.below hbr).cell 0
      have j0 : wr.cell? ⟨w.heap.size + 1, 0, none⟩ = some (.slice ob e.bins.length kb) := (HK.out.2.below hbr).cell 0
      by_cases hlt : k < e.bins.length
      · obtain ⟨va', vc', e', rA, -⟩ := HS.out wr hbw
        cases e'
        obtain ⟨oa', ka', e', -, hrA⟩ := rA
        cases e'
        have hkA : k < s.attrs.length := by have := HLEN.out; omega
        obtain ⟨ga, fa, rfl, hga, hjA⟩ := hrA (by omega)
        obtain ⟨x1, x2, c0, c1, c2, r1, r2⟩ := hjA k hkA
        obtain ⟨y1, z1, rfl, -, -⟩ := id r1
        obtain ⟨y2, z2, rfl, -, -⟩ := id r2
        obtain ⟨vb', e', rB⟩ := HEX.out wr hbw
        cases e'
        obtain ⟨ob', kb', e', -, hrB⟩ := rB
        cases e'
        obtain ⟨gb, fb, rfl, hgb, hjB⟩ := hrB (by omega)
        have b0 := hjB k hlt
        have hbl := bins_le (HOK.out.each _ (ad_mem hkA))
        obtain ⟨l0, l1⟩ := hbl
        have cB := fun d os => Calls.regrown_of (specBins_any (.agg #[.string (ad s.attrs k).name, .slice y1 (ad s.attrs k).cuts.length z1, .slice y2 (ad s.attrs k).vals.length z2]) (ad s.attrs k) (Go.Sort.grow (redrawn wr d) os) ⟨_, _, rfl, r1.later (below_regrown wr d os), r2.later (below_regrown wr d os)⟩ (HOK.out.each _ (ad_mem hkA)))
        have cI := fun d os => regrown_same (in_any (e.bins.getD k 0) (-1) (bins (ad s.attrs k) - 1) (Go.Sort.grow (redrawn wr d) os))
        have HBT : Hid (-1 ≤ e.bins.getD k 0 ∧ e.bins.getD k 0 ≤ bins (ad s.attrs k) - 1 → binRight s e k = true) := fun h => decide_eq_true h
        have HBF : Hid (¬ (-1 ≤ e.bins.getD k 0 ∧ e.bins.getD k 0 ≤ bins (ad s.attrs k) - 1) → binRight s e k = false) := fun h => decide_eq_false h
        have d0 := fun d os => cell_regrown c0 d os
        have d1 := fun d os => cell_regrown c1 d os
        have d2 := fun d os => cell_regrown c2 d os
        have f0 := fun d os => cell_regrown k0 d os
        have f1 := fun d os => cell_regrown j0 d os
        have f2 := fun d os => cell_regrown b0 d os
        have HBR : Hid (∀ d os, Below w1.heap.size w1 (Go.Sort.grow (redrawn wr d) os)) := fun d os => hbr.trans ((below_regrown wr d os).mono hbr.size)
        have HBW : Hid (∀ d os, Below w.heap.size w (Go.Sort.grow (redrawn wr d) os)) := fun d os => hbw.trans ((below_regrown wr d os).mono hbw.size)
        clear hjA hjB hrA hrB r1 r2 c0 c1 c2 b0 hbr hbw hga hgb
        generalize e.bins.getD k 0 = zb at cI f2 HBT HBF
        generalize bins (ad s.attrs k) = nb at cB cI l0 l1 HBT HBF
        have hkj : k < s.attrs.length := hkA
        by_cases hin : -1 ≤ zb ∧ zb ≤ nb - 1
        · have HT : Hid (binRight s e k = true) := HBT.out hin
          rw [decide_eq_true hin] at cI
          clear hin
          go_wp2
          refine wp_region_quiet_below mixed (by kernel_rfl) ?_
          repeat (go_big_quiet_step (first | with_reducible exact cB _ _ | with_reducible exact cI _ _))
          refine wpQuiet_nil ?_
          intro _ hw'
          obtain ⟨⟨dq, osq⟩, hw''⟩ := hw'
          subst hw''
          clear cB cI d0 d1 d2 f0 f1 f2
          go_wp2
          go_roundw
          case rel =>
            refine ⟨k + 1, by go_num, by omega, fun j hj => ?_, HBR.out _ _⟩
            by_cases ej : j = k
            · subst ej; exact HT.out
            · exact hal.out j (by omega)
          case measure => simp [intOf]; omega
        · have HE : Hid (binsRight s e = false) := binsRight_no k hlt (HBF.out hin)
          rw [decide_eq_false hin] at cI
          clear hin
          go_wp2
          refine wp_region_quiet_below mixed (by kernel_rfl) ?_
          repeat (go_big_quiet_step (first | with_reducible exact cB _ _ | with_reducible exact cI _ _))
          refine wpQuiet_nil ?_
          intro _ hw'
          obtain ⟨⟨dq, osq⟩, hw''⟩ := hw'
          subst hw''
          clear cB cI d0 d1 d2 f0 f1 f2
          go_wp2
          go_ret
          exact ⟨by rw [HX2.out, HE.out]; rfl, HBW.out _ _⟩
      · have HE : Hid (binsRight s e = true) := binsRight_yes fun j hj => hal.out j (by omega)
        go_wp2
        go_ret
        exact ⟨by rw [HX2.out, HE.out]; rfl, hbw⟩
end Go.Proofs.Ytobimpgapfecoaa
