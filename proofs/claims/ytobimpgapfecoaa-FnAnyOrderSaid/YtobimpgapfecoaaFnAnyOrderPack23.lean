/- Texts of this claim, put together: part 23. -/
import Derived.Laws.AppendOwnNone
import Derived.Test.YtobimpgapfecoaaFnAnyOrderPack4
import Derived.Test.YtobimpgapfecoaaFnAnyOrderPack9
import Derived.Test.YtobimpgapfecoaaFnAnyOrderPack6
import Derived.Deep.RegionLaw
import Derived.Test.YtobimpgapfecoaaFnAnyOrderPack1
import Derived.Maps.RangeWalk
/- Whether counts are thin; a list copied, by the program. -/
namespace Go.Proofs.Ytobimpgapfecoaa
open Go.RowKit
set_option maxRecDepth 100000
set_option linter.unusedSimpArgs false
theorem thin_any (v : Value) (t : StatsD) (w : World) (h : StatsAt w v t) :
    Calls Try.prog 60 #[v] w fun e w' => e = .returned (.bool (decide (t.cells.length = 0))) ∧ Below w.heap.size w w' := by
  obtain ⟨vt, vc, rfl, -, hv⟩ := h
  obtain ⟨ov, cv, rfl, -, -⟩ := hv
  by_cases h0 : t.cells.length = 0
  · rw [decide_eq_true h0, h0]
    clear h0
    go_enter Try.func60, Try.ntmps60
    go_wp2
    go_ret
    exact ⟨rfl, (Below.refl _ _).alloc (Nat.le_refl _) _⟩
  · rw [decide_eq_false h0]
    have hq : ((t.cells.length : Int) == 0) = false := by simp; exact fun e => h0 (by simp [e])
    go_enter Try.func60, Try.ntmps60
    go_wp2
    go_ret
    exact ⟨rfl, (Below.refl _ _).alloc (Nat.le_refl _) _⟩
set_option maxHeartbeats 400000 in
theorem listCopy_any (v : Value) (zs : List Int) (w : World) (h : RowI w v zs) (hn : zs.length ≤ 1099511627776) :
    Calls Try.prog 64 #[v] w fun e w' => ∃ v', e = .returned v' ∧ OwnI w w' v' zs := by
  obtain ⟨i0, hi0, hz0, hz1, hz2⟩ := info_parts intInfo
  obtain ⟨oa, cap, rfl, hc, hr⟩ := h
  by_cases h0 : zs.length = 0
  · obtain rfl : zs = [] := List.length_eq_zero_iff.1 h0
    clear hr
    cases oa with
    | none =>
      go_enter Try.func64, Try.ntmps64
      go_wp2
      go_ret
      exact ⟨_, rfl, World.ownsRow_nil _ _ _ _, Below.refl _ _⟩
    | some ad =>
      go_enter Try.func64, Try.ntmps64
      go_wp2
      go_ret
      exact ⟨_, rfl, World.ownsRow_nil _ _ _ _, Below.refl _ _⟩
  · obtain ⟨ga, o, rfl, hg, hj⟩ := hr (by omega)
    clear hr
    have HN : Hid (∀ (j : Nat) (u : Value), (zs.map (Value.int .i64))[j]? = some u → w.cell? ((⟨ga, o, none⟩ : Addr).add j) = some u) := by
      have := row_news (k := zs.length) (w := w) (fun j hlt => hj j hlt)
      rw [List.take_length] at this
      exact this
    clear hj
    go_enter Try.func64, Try.ntmps64
    go_wp2_with (at_builtin; refine wpList_append_own _ rfl _ _ 28 rfl w.heap.size 3 i0 (.int .i64 0) 1 8 Try.underlying28 hi0 hz0 hz1 hz2 rfl (by decide) _ _ _ rfl (World.ownsRow_nil _ _ _ _) ⟨ga, o, none⟩ zs.length cap (zs.map (Value.int .i64)) rfl (by simp) HN.out (ints_oneCell .i64 _) (by unfold maxLen; omega) (by omega) (by omega) ?_)
    intro v1 w1 ho1 hg1 hnil1
    have hb1 : Below w.heap.size w w1 := (Below.refl _ _).grown hg1 (by omega) (fun k hk => by cases hk)
    clear hg1 hnil1 HN
    go_wp2
    go_ret
    exact ⟨_, rfl, ho1, hb1⟩
end Go.Proofs.Ytobimpgapfecoaa
/- Counts without their cells, by the program. -/
namespace Go.Proofs.Ytobimpgapfecoaa
open Go.RowKit
set_option maxRecDepth 100000
set_option linter.unusedSimpArgs false
set_option maxHeartbeats 400000 in
theorem implThin_at (v : Value) (t : StatsD) (w : World) (h : StatsAt w v t) (hn : okSt t) :
    Calls Try.prog 22 #[v] w fun e w' => ∃ v1, e = .returned (.agg #[v1, .slice none 0 0]) ∧ w'.ownsRow (w.heap.size + 2) 3 1 v1 t.totals.length (t.totals.map (Value.int .i64)) ∧ Below w.heap.size w w' := by
  obtain ⟨vt, vc, rfl, ht, -⟩ := h
  have HT : Hid (RowI w vt t.totals) := ht
  have hl := hn.totals
  clear ht hn
  go_enter Try.func22, Try.ntmps22
  go_wp2_with fail
  obtain ⟨K1, K2, B0⟩ := blk_2 31 31 w #[vt, vc] #[.slice none 0 0, .slice none 0 0]
  refine (listCopy_any vt t.totals _ (HT.out.later B0) hl).mono ?_
  rintro e w1 ⟨v1, rfl, ho1, hb1⟩
  replace K2 := K2.below hb1
  have B1 := B0.trans (hb1.mono (by simp; omega))
  have ho1 := own_base ho1 (b' := w.heap.size + 2) (by simp)
  clear K1 hb1 B0 HT
  obtain ⟨o1, k1, rfl⟩ := own_slice ho1
  have HO : Hid (w1.ownsRow (w.heap.size + 2) 3 1 (.slice o1 t.totals.length k1) t.totals.length (t.totals.map (Value.int .i64))) := ho1
  clear ho1
  go_wp2_with (with_reducible refine wp_st_store rfl _ _ rfl ?_; refine ⟨w.heap.size + 1, rfl, _, _, _, _, _, _, rfl, _, _, K2, ?_⟩)
  refine bodyPost_ret (res_st Try.results22 _ _ _ _ _ rfl (K2.setRow _)) rfl ⟨_, rfl, own_setRow HO.out _ _ (by omega), below_row B1 (by omega) _⟩
theorem implThin_any (v : Value) (t : StatsD) (w : World) (h : StatsAt w v t) (hn : okSt t) :
    Calls Try.prog 22 #[v] w fun e w' => ∃ v', e = .returned v' ∧ OwnSt w.heap.size w' v' (thinS t) ∧ Below w.heap.size w w' := by
  refine (implThin_at v t w h hn).mono ?_
  rintro e w' ⟨v1, rfl, ho, hb⟩
  exact ⟨_, rfl, ownSt_thin (own_base ho (by omega)), hb⟩
end Go.Proofs.Ytobimpgapfecoaa
/- Counts copied, by the program. -/
namespace Go.Proofs.Ytobimpgapfecoaa
open Go.RowKit
set_option maxRecDepth 100000
set_option linter.unusedSimpArgs false
set_option maxHeartbeats 3200000 in
theorem statsCopy_any (v : Value) (t : StatsD) (w : World) (h : StatsAt w v t) (hn : okSt t) :
    Calls Try.prog 49 #[v] w fun e w' => ∃ v', e = .returned v' ∧ OwnSt w.heap.size w' v' t ∧ Below w.heap.size w w' := by
  obtain ⟨i0, hi0, hz0, hz1, hz2⟩ := info_parts intsInfo
  have HT : Hid (∀ W, Below w.heap.size w W → StatsAt W v t) := fun W hW => h.later hW
  have HO : Hid (okSt t) := hn
  obtain ⟨vt, vc, rfl, ht, hc⟩ := h
  obtain ⟨oc, kc, rfl, -, -⟩ := id hc
  have hnc := hn.cells
  clear ht hc hn
  obtain ⟨K1, K2, B0⟩ := blk_2 31 31 w #[vt, .slice oc t.cells.length kc] #[.slice none 0 0, .slice none 0 0]
  have c1 := implThin_at _ t _ (HT.out _ B0) HO.out
  go_enter Try.func49, Try.ntmps49
  go_wp2_with fail
  refine c1.mono ?_
  clear c1
  rintro e w1 ⟨v1, rfl, ho1, hb1⟩
  have B1 := B0.trans (hb1.mono B0.size)
  replace K1 := K1.below hb1
  replace K2 := K2.below hb1
  have hs1 := hb1.size
  have ho1 := own_base ho1 (b' := w.heap.size) (by simp; omega)
  obtain ⟨o1, k1, rfl⟩ := own_slice ho1
  obtain ⟨KX, BX⟩ := blk_1 31 w1 #[.slice o1 t.totals.length k1, .slice none 0 0]
  have HLT : Hid (∀ a, (Value.slice o1 t.totals.length k1).ownBlock = some a → a < w1.heap.size) := fun a ha => (ho1.lt a ha).2
  have BW := B1.trans (BX.mono B1.size)
  have K1A := K1.below BX
  have K2A := K2.below BX
  have hoA := own_below ho1 BX
  have q1 : (w1.alloc (.cells #[.slice o1 t.totals.length k1, .slice none 0 0] 31)).cell? ⟨w.heap.size, 1, none⟩ = some (.slice oc t.cells.length kc) := K1A.cell 1
  have hpw : w.heap.size + 2 ≤ w1.heap.size := by simp at hs1; omega
  clear hb1 B1 K1 K2 ho1 BX hs1 B0
  go_wp2
  generalize (w1.alloc (.cells #[.slice o1 t.totals.length k1, .slice none 0 0] 31)) = wa at KX K1A K2A hoA BW q1
  obtain ⟨p, hp⟩ : ∃ p, p = w1.heap.size := ⟨_, rfl⟩
  rw [← hp] at KX HLT hpw ⊢
  clear q1 hp
  go_loopw [11] (fun i wr => ∃ (k : Nat) (vx : Value) (ys : List Value) (L : Nat → Value), i = .int .i64 k ∧ k ≤ t.cells.length ∧ ys.length = k ∧ Blk 31 wr w.heap.size #[vt, .slice oc t.cells.length kc] ∧ Blk 31 wr (w.heap.size + 1) #[.slice none 0 0, .slice none 0 0] ∧ Blk 31 wr p #[.slice o1 t.totals.length k1, vx] ∧
      wr.ownsRow w.heap.size 3 1 (.slice o1 t.totals.length k1) t.totals.length (t.totals.map (Value.int .i64)) ∧ wr.ownsRow (p + 1) 28 1 vx k ys ∧ DoneII wr (p + 1) ys L t.cells k ∧ Below w.heap.size w wr) (fun i _ => t.cells.length - (intOf i).toNat)
  case atStart => exact ⟨0, _, [], fun _ => .slice none 0 0, rfl, by omega, rfl, K1A, K2A, KX, hoA, World.ownsRow_nil _ _ _ _, DoneII.start _ _ _ _ _, BW⟩
  case round =>
    obtain ⟨k, vx, ys, L, rfl, hk, hyl, R1, R2, RX, own, hrow, hdone, hb⟩ := hrel
    clear KX K1A K2A hoA BW
    obtain ⟨ox, kx, rfl⟩ := own_slice hrow
    by_cases hlt : k < t.cells.length
    · obtain ⟨vt', vc', e', -, rC⟩ := HT.out wr hb
      cases e'
      obtain ⟨oc', kc', e', -, hrC⟩ := rC
      cases e'
      obtain ⟨gc, fc, rfl, hgc, hjC⟩ := hrC (by omega)
      obtain ⟨u, hu, ru⟩ := hjC k hlt
      obtain ⟨ou, ku, rfl, -, -⟩ := id ru
      have lu := HO.out.each _ (il_mem hlt)
      have hvo : ∀ j, (Value.slice ox k kx).ownBlock = some j → p + 1 ≤ j := fun j hj => (hrow.lt j hj).1
      have d0 : wr.cell? ⟨p, 1, none⟩ = some (.slice ox k kx) := RX.cell 1
      have d1 : wr.drew.cell? ⟨p, 1, none⟩ = some (.slice ox k kx) := RX.cell 1
      have e1 := listCopy_any (.slice ou (il t.cells k).length ku) (il t.cells k) wr.drew (ru.later (Below.refl wr.heap.size wr).drew) lu
      have XD : Blk 31 wr.drew p #[.slice o1 t.totals.length k1, .slice ox k kx] := RX
      have rd : wr.drew.ownsRow (p + 1) 28 1 (.slice ox k kx) k ys := hrow
      have hHL : Hid (∀ j, j < k → ∀ a, (L j).ownBlock = some a → a < wr.drew.heap.size) := hdone.lt
      have hpr : p + 1 ≤ wr.drew.heap.size := RX.lt
      have hbd : Below w.heap.size w wr.drew := hb.drew
      clear hjC hrC hgc
      go_wp2
      go_region_law (first
        | (refine step_wp rfl ?_; unfold Oper.wp; go_simp; go_at_call 64; refine e1.mono ?_; clear e1; rintro e w2 ⟨v2, rfl, q1, hb2⟩; obtain ⟨o2, k2, rfl⟩ := own_slice q1; have X2 := XD.below hb2; have a2 : w2.cell? ⟨p, 1, none⟩ = some (.slice ox k kx) := X2.cell 1; have a2' : (w2.alloc (.cells #[.slice o2 (il t.cells k).length k2] 28)).cell? ⟨p, 1, none⟩ = some (.slice ox k kx) := (X2.alloc _).cell 1; have r2 := own_below rd hb2; have hp2 : p + 1 ≤ w2.heap.size := Nat.le_trans hpr hb2.size)
        | (refine step_wp rfl (wp_append_own _ _ _ 29 rfl (p + 1) 28 i0 (.slice none 0 0) 1 24 Try.underlying29 hi0 hz0 hz1 hz2 rfl (by decide) _ _ _ rfl (r2.alloc (.cells #[.slice o2 (il t.cells k).length k2] 28)) ⟨w2.heap.size, 0, none⟩ 1 1 [.slice o2 (il t.cells k).length k2] rfl rfl (newcV _ _ _) (by simp [Value.oneCell']) (by unfold maxLen; omega) (by omega) (by simp; omega) ?_); intro v3 w3 ho hg3 hnil; obtain ⟨ov, cv, rfl⟩ := own_slice ho; have X3 := (X2.alloc (.cells #[.slice o2 (il t.cells k).length k2] 28)).kept hg3 (fun e => by have := hvo _ e; omega); have a3 : w3.cell? ⟨p, 1, none⟩ = some (.slice ox k kx) := X3.cell 1; have f3 := X3.frozen 1))
      all_goals
        have XF := X3.setCell 1 (.slice ov (k + 1) cv)
        have rA := r2.alloc (.cells #[.slice o2 (il t.cells k).length k2] 28)
        have D2 := (hdone.below (Below.refl wr.heap.size wr).drew).below hb2
        have DS := (D2.snoc (B := wr.drew.heap.size) hyl hHL.out q1 hpr).alloc (.cells #[.slice o2 (il t.cells k).length k2] 28)
        have D3 := (DS.keptRow rA hg3).setCellN (p := p) (q := 1) X3 (by decide) (.slice ov (k + 1) cv)
        have b2 := hbd.trans (hb2.mono hbd.size)
        have b3 := (b2.alloc (b2.size) (.cells #[.slice o2 (il t.cells k).length k2] 28)).grown hg3 (by have := b2.size; simp; omega) (fun j hj => by have := hvo _ hj; omega)
        have b4 : Below w.heap.size w (w3.setCell ⟨p, 1, none⟩ (.slice ov (k + 1) cv)) := b3.setCell (p := ⟨p, 1, none⟩) (by simp; omega) _
        have R1F := (((Blk.below (w' := wr.drew) R1 (Below.refl wr.heap.size wr).drew).below hb2).alloc (.cells #[.slice o2 (il t.cells k).length k2] 28)).kept hg3 (fun e => by have := hvo _ e; omega)
        have R2F := (((Blk.below (w' := wr.drew) R2 (Below.refl wr.heap.size wr).drew).below hb2).alloc (.cells #[.slice o2 (il t.cells k).length k2] 28)).kept hg3 (fun e => by have := hvo _ e; omega)
        have R1G := R1F.setCell_other ⟨p, 1, none⟩ (.slice ov (k + 1) cv) (by simp; omega)
        have R2G := R2F.setCell_other ⟨p, 1, none⟩ (.slice ov (k + 1) cv) (by simp; omega)
        have ownA := (own_below (own_below own (Below.refl wr.heap.size wr).drew) hb2).alloc (.cells #[.slice o2 (il t.cells k).length k2] 28)
        have own3 := ownA.kept hg3 (apart_ty ownA rA (by decide))
        have ownG := own_setCellN own3 p 1 (.slice ov (k + 1) cv) (own_ne_blk own3 X3 (by decide))
        have rowG := own_setCellN ho p 1 (.slice ov (k + 1) cv) (own_ne_blk ho X3 (by decide))
        clear d0 d1 hvo XD rd hpr hbd X2 a2 a2' r2 q1 hb2 hg3 hnil X3 a3 f3 rA D2 DS b2 b3 R1F R2F ownA own3 ho R1 R2 RX own hrow hdone hb
        go_wp2
        go_roundw
        case rel => exact ⟨k + 1, _, _, _, by go_num, by omega, by simp; omega, R1G, R2G, XF, ownG, rowG, D3, b4⟩
        case measure => simp [intOf]; omega
    · obtain rfl : k = t.cells.length := by omega
      go_wp2_with (first
        | (with_reducible refine wp_st_load rfl _ rfl ?_; refine ⟨p, rfl, _, _, RX, ?_⟩)
        | (with_reducible refine wp_st_store rfl _ _ rfl ?_; refine ⟨w.heap.size + 1, rfl, _, _, _, _, _, _, rfl, _, _, R2, ?_⟩)
        | go_in)
      refine bodyPost_ret (res_st Try.results49 _ _ _ _ _ rfl (R2.setRow _)) rfl ⟨_, rfl, ownSt_mk (B := p + 1) (ys := ys) (L := L) ?_ (fun a ha => by have := HLT.out a ha; omega) ?_ ?_ (by omega), below_row hb (by omega) _⟩
      · exact own_setRowN own _ _ (own_ne_blk own R2 (by decide))
      · exact own_setRowN hrow _ _ (own_ne_blk hrow R2 (by decide))
      · exact hdone.setRowN R2 (by decide) _
end Go.Proofs.Ytobimpgapfecoaa
/- What a map of cells holds, told by the list that it was made of. -/
namespace Go.Proofs.Ytobimpgapfecoaa
open Go.RowKit Go.Maps
set_option maxRecDepth 100000
section
variable {H : Type}
/-- The keys are numbered, no two alike up to a bound. -/
structure KeyNos (κ : Nat → Lit) (N : Nat) : Prop where
  key : ∀ i, i < N → WideAt.IsKeyLit (κ i)
  inj : ∀ i j, i < N → j < N → κ i = κ j → i = j
/-- The map has the keys from lo on, below hi; at each stands the list's number. -/
structure Holds (κ : Nat → Lit) (D : DataW H) (l : List Int) (lo hi : Nat) : Prop where
  tidy : Tidy D
  has : ∀ kl, has D kl = true ↔ ∃ i, lo ≤ i ∧ i < hi ∧ kl = κ i
  at' : ∀ i, lo ≤ i → i < hi → ∀ z, D.atKey (κ i) z = .lit (.int .i64 (l.getD i 0))
  size : size D = hi - lo
theorem Holds.empty (κ : Nat → Lit) (l : List Int) : Holds (H := H) κ (.map []) l 0 0 :=
  ⟨tidy_empty, fun kl => ⟨fun h => by simp [Maps.has] at h, fun ⟨i, _, h, _⟩ => by omega⟩, fun i _ h => by omega, rfl⟩
theorem Holds.put_new {κ : Nat → Lit} {N : Nat} (K : KeyNos κ N) {D : DataW H} {l : List Int} {k : Nat} (h : Holds κ D l 0 k) (hk : k < N) (x : Int) (hx : x = l.getD k 0) : Holds κ (D.put (κ k) (.lit (.int .i64 x))) l 0 (k + 1) := by
  subst hx
  have hno : Maps.has D (κ k) = false := by
    cases e : Maps.has D (κ k)
    · rfl
    · obtain ⟨i, _, hi, he⟩ := (h.has _).1 e
      have := K.inj k i hk (by omega) he
      omega
  refine ⟨h.tidy.put (K.key k hk) _, fun kl => ?_, fun i _ hi z => ?_, ?_⟩
  · by_cases e : kl = κ k
    · subst e
      rw [has_put_same h.tidy.isMap (K.key k hk)]
      exact ⟨fun _ => ⟨k, by omega, by omega, rfl⟩, fun _ => rfl⟩
    · rw [has_put_other e, h.has]
      constructor
      · rintro ⟨i, h1, h2, h3⟩; exact ⟨i, h1, by omega, h3⟩
      · rintro ⟨i, h1, h2, h3⟩
        refine ⟨i, h1, ?_, h3⟩
        by_cases hik : i = k
        · subst hik; exact absurd h3 e
        · omega
  · by_cases e : i = k
    · subst e; rw [atKey_put_same h.tidy.isMap (K.key i hk)]
    · rw [atKey_put_other (fun e' => e (K.inj i k (by omega) hk e')), h.at' i (by omega) (by omega)]
  · rw [size_put h.tidy, hno, h.size]; simp
theorem Holds.put_old {κ : Nat → Lit} {N : Nat} (K : KeyNos κ N) {D : DataW H} {l : List Int} {n a : Nat} (h : Holds κ D l 0 n) (hn : n ≤ N) (ha : a < n) (hl : a < l.length) (x : Int) : Holds κ (D.put (κ a) (.lit (.int .i64 x))) (l.set a x) 0 n := by
  have hyes : Maps.has D (κ a) = true := (h.has _).2 ⟨a, by omega, ha, rfl⟩
  refine ⟨h.tidy.put (K.key a (by omega)) _, fun kl => ?_, fun i _ hi z => ?_, ?_⟩
  · by_cases e : kl = κ a
    · subst e
      rw [has_put_same h.tidy.isMap (K.key a (by omega))]
      exact ⟨fun _ => ⟨a, by omega, ha, rfl⟩, fun _ => rfl⟩
    · rw [has_put_other e, h.has]
  · by_cases e : i = a
    · subst e; rw [atKey_put_same h.tidy.isMap (K.key i (by omega))]; simp [List.getD, hl]
    · rw [atKey_put_other (fun e' => e (K.inj i a (by omega) (by omega) e')), h.at' i (by omega) (by omega)]
      simp [List.getD, List.getElem?_set_ne (fun e' : a = i => e e'.symm)]
  · rw [size_put h.tidy, hyes, h.size]; simp
theorem Holds.del {κ : Nat → Lit} {N : Nat} (K : KeyNos κ N) {D : DataW H} {l : List Int} {k n : Nat} (h : Holds κ D l k n) (hn : n ≤ N) (hk : k < n) : Holds κ (D.del (κ k)) l (k + 1) n := by
  have hyes : Maps.has D (κ k) = true := (h.has _).2 ⟨k, by omega, hk, rfl⟩
  refine ⟨h.tidy.del _, fun kl => ?_, fun i h1 hi z => ?_, ?_⟩
  · by_cases e : kl = κ k
    · subst e
      rw [has_del_same]
      constructor
      · intro h'; cases h'
      · rintro ⟨i, h1, h2, h3⟩
        have := K.inj k i (by omega) (by omega) h3
        omega
    · rw [has_del_other e, h.has]
      constructor
      · rintro ⟨i, h1, h2, h3⟩
        refine ⟨i, ?_, h2, h3⟩
        by_cases hik : i = k
        · subst hik; exact absurd h3 e
        · omega
      · rintro ⟨i, h1, h2, h3⟩; exact ⟨i, by omega, h2, h3⟩
  · rw [atKey_del_other (fun e' => by have := K.inj i k (by omega) (by omega) e'; omega), h.at' i (by omega) hi]
  · have := size_del (k := κ k) h.tidy
    rw [hyes, h.size] at this
    simp at this
    omega
end
end Go.Proofs.Ytobimpgapfecoaa
