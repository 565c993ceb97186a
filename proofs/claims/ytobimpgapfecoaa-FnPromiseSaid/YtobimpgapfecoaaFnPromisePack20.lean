/- Texts of this claim, put together: part 20. -/
import Derived.Test.YtobimpgapfecoaaFnPromisePack5
import Derived.Test.YtobimpgapfecoaaFnPromisePack6
import Derived.Test.YtobimpgapfecoaaFnPromisePack8
import Derived.Test.YtobimpgapfecoaaFnPromisePack3
import Derived.Test.YtobimpgapfecoaaFnPromisePack11
import Derived.Test.YtobimpgapfecoaaFnPromisePack16
import Derived.Test.YtobimpgapfecoaaFnPromisePack17
import Derived.Test.YtobimpgapfecoaaFnPromisePack19
/- Counts of the call's own, beside what turns other memory. -/
namespace Go.Proofs.Ytobimpgapfecoaa
open Go.RowKit
set_option maxRecDepth 100000
theorem SepII.keptS {base n : Nat} {w w' : World} {v : Value} {L : Nat → Value} {ys : List Value} {cs : List (List Int)} {R : Nat → Prop} (h : SepII base w v L ys cs n) (hg : GrownS w w' R) (h1 : ∀ k, v.ownBlock = some k → ¬ R k) (h2 : ∀ k, InII L n k → ¬ R k) : SepII base w' v L ys cs n :=
  ⟨own_keptS h.row hg h1, h.cells, fun j hj => own_keptS (h.ints j hj) hg (fun k hk => h2 k ⟨j, hj, hk⟩), h.ord⟩
theorem SepII.keptG {base n : Nat} {w w' : World} {v : Value} {L : Nat → Value} {ys : List Value} {cs : List (List Int)} {r : Option Nat} (h : SepII base w v L ys cs n) (hg : w.grownBy w' r) (h1 : ∀ k, v.ownBlock = some k → r ≠ some k) (h2 : ∀ k, InII L n k → r ≠ some k) : SepII base w' v L ys cs n := by
  refine ⟨h.row.kept hg ?_, h.cells, fun j hj => (h.ints j hj).kept hg ?_, h.ord⟩
  · cases e : v.ownBlock with
    | none => exact .inl rfl
    | some k => exact .inr fun e' => h1 k e e'.symm
  · cases e : (L j).ownBlock with
    | none => exact .inl rfl
    | some k => exact .inr fun e' => h2 k ⟨j, hj, e⟩ e'.symm
/-- All blocks of counts: their totals', their row's, their lists'. -/
def AllSt (vt vc : Value) (L : Nat → Value) (n : Nat) (k : Nat) : Prop := vt.ownBlock = some k ∨ vc.ownBlock = some k ∨ InII L n k
theorem all_st {base c n : Nat} {w : World} {vt vc : Value} {L : Nat → Value} {xs ys : List Value} {cs : List (List Int)} (ht : w.ownsRow base 3 1 vt c xs) (h : SepII base w vc L ys cs n) : ∀ k, AllSt vt vc L n k → base ≤ k ∧ k < w.heap.size := by
  intro k hk
  rcases hk with hk | hk | ⟨j, hj, hk⟩
  · exact ht.lt k hk
  · exact h.row.lt k hk
  · exact (h.ints j hj).lt k hk
end Go.Proofs.Ytobimpgapfecoaa
/- A region's outcome by itself; counts of the call's own, beside a store into another block. -/
namespace Go.Proofs.Ytobimpgapfecoaa
open Go.RowKit
set_option maxRecDepth 100000
theorem region_then {P : Program} {id : Nat} {ops : Array Oper} {b : Bool} {a : Act} {w : World} {Q : Exit → Act → World → Prop} (R : Act → Act → World → Prop)
    (h1 : (Code.region id ops b).wp P (fun e a' w' => e = .normal ∧ R a a' w') a w) (h2 : ∀ a' w', R a a' w' → Q .normal a' w') : (Code.region id ops b).wp P Q a w :=
  Code.wp_mono (fun e a' w' h => by rw [h.1]; exact h2 a' w' h.2) h1
theorem SepII.setRowN {base n : Nat} {w : World} {v : Value} {L : Nat → Value} {ys : List Value} {cs : List (List Int)} (h : SepII base w v L ys cs n) (p : Nat) (c : Array Value) (h1 : v.ownBlock ≠ some p) (h2 : ∀ j, j < n → (L j).ownBlock ≠ some p) : SepII base (w.setRow p c) v L ys cs n :=
  ⟨own_setRowN h.row p c h1, h.cells, fun j hj => own_setRowN (h.ints j hj) p c (h2 j hj), h.ord⟩
theorem wp_st_step {o : Oper} {a : Act} {w : World} {K : Act → World → Prop} {Q : Exit → Act → World → Prop} (x y : Operand) (ho : o.op = .store 31 x y)
    (g : Nat) (c0 c1 d0 d1 d2 d3 : _) (k0 k1 : Nat) (hx : a.eval x = .pointer (some ⟨g, 0, none⟩)) (hy : a.eval y = .agg #[.slice d0 k0 d1, .slice d2 k1 d3]) (hA : Blk 31 w g #[c0, c1])
    (h : K (a.put o.dst undef) (w.setRow g #[.slice d0 k0 d1, .slice d2 k1 d3])) : o.wp Try.prog a w K Q :=
  wp_store_row 31 x y ho g _ hx hy _ _ hA st_size rfl (by simp [Value.oneCell']) h
end Go.Proofs.Ytobimpgapfecoaa
/- Draws of chapter 8: what some examples leave. -/
namespace Go.Proofs.Ytobimpgapfecoaa
open Go.RowKit
set_option maxRecDepth 100000
set_option linter.unusedSimpArgs false
theorem tinyS.ok8 {d : SchemaD} (h : tinyS d) : okSch d := by
  have h1 := h.attrs
  have h2 := h.classes
  exact ⟨by omega, fun a ha => (h.each a ha).ok7, by omega, fun c hc => by have := h.sizes c hc; omega⟩
theorem OwnSt.form {b : Nat} {w : World} {v : Value} {d : StatsD} (h : OwnSt b w v d) : ∃ o1 k1 o2 k2, v = .agg #[.slice o1 d.totals.length k1, .slice o2 d.cells.length k2] := by
  obtain ⟨vt, vc, L, ys, rfl, h1, h2, -⟩ := h
  obtain ⟨o1, k1, rfl⟩ := own_slice h1
  obtain ⟨o2, k2, rfl⟩ := own_slice h2.row
  exact ⟨_, _, _, _, rfl⟩
set_option maxHeartbeats 6400000 in
theorem right8_any (g : Nat) (a : Option Addr) (len cap : Nat) (zs : List Int) (vs : Value) (s : SchemaD) (b : Nat) (w : World) (hc : IsCur w g a len cap) (hr : IsRow .u8 w a len cap zs) (hs : OwnS b w vs s) (hgb : g < b) (ht : tinyS s) :
    Calls Try.prog 94 #[.pointer (some ⟨g, 0, none⟩), vs] w fun e w' => ∃ v d, e = .returned v ∧ OwnSt w.heap.size w' v d ∧ tinySt 16 d ∧ IsCur w' g a len cap ∧ w.grownBy w' (some g) := by
  have hgw : g < w.heap.size := hc.lt
  have HR : Hid (∀ w', w.grownBy w' (some g) → IsRow .u8 w' a len cap zs) := fun w' h => hr.aside hc h
  have HS : Hid (∀ w', w.grownBy w' (some g) → OwnS b w' vs s) := fun w' h => hs.curW7 hgb h
  have HTN : Hid (tinyS s) := ht
  have HOK : Hid (okSch s) := ht.ok8
  obtain ⟨va, vc, rfl, ra, rc⟩ := id hs.at
  obtain ⟨oa, ka, rfl, -, -⟩ := id ra
  obtain ⟨oc, kc, rfl, -, -⟩ := id rc
  clear ra rc
  obtain ⟨K1, K2, B0⟩ := blk_2 27 31 w #[.slice oa s.attrs.length ka, .slice oc s.classes.length kc] #[.slice none 0 0, .slice none 0 0]
  have gr := grown_of_below B0 (some g)
  have cu := (hc.alloc (.cells #[.slice oa s.attrs.length ka, .slice oc s.classes.length kc] 27)).alloc (.cells #[.slice none 0 0, .slice none 0 0] 31)
  clear hc hr hs ht B0
  generalize hW : ((w.alloc (.cells #[.slice oa s.attrs.length ka, .slice oc s.classes.length kc] 27)).alloc (.cells #[.slice none 0 0, .slice none 0 0] 31)) = w0 at K1 K2 gr cu
  have hs0 : w.heap.size + 2 = w0.heap.size := by rw [← hW]; simp
  have e1 := specStatsNew_any _ s w0 (HS.out _ gr).at HOK.out
  have j0 : w0.cell? ⟨w.heap.size, 0, none⟩ = some (.slice oa s.attrs.length ka) := K1.cell 0
  have j1 : w0.cell? ⟨w.heap.size, 1, none⟩ = some (.slice oc s.classes.length kc) := K1.cell 1
  go_enter Try.func94, Try.ntmps94
  go_wp2_with fail
  refine e1.mono ?_
  clear e1 j0 j1 hW
  rintro e w1 ⟨v1, rfl, o, hb⟩
  obtain ⟨o1, k1, o2, k2, rfl⟩ := o.form
  replace o := o.base (show w.heap.size + 2 ≤ w0.heap.size by omega)
  have td : Hid (tinySt 16 (statsNew s)) := tiny_new s
  generalize statsNew s = d at o td
  replace K1 := K1.below hb
  replace K2 := K2.below hb
  replace cu := cu.kept (grown_of_below hb) (by intro e; cases e)
  replace gr := grown_trans gr (grown_of_below hb _)
  have hs1 := hb.size
  clear hb
  obtain ⟨T, BX⟩ := blk_1 31 w1 #[.slice o1 d.totals.length k1, .slice o2 d.cells.length k2]
  replace K1 := K1.below BX
  replace K2 := K2.below BX
  replace o := o.below BX
  replace cu := cu.kept (grown_of_below BX) (by intro e; cases e)
  replace gr := grown_trans gr (grown_of_below BX _)
  clear BX
  generalize hX : w1.alloc (.cells #[.slice o1 d.totals.length k1, .slice o2 d.cells.length k2] 31) = wx at T K1 K2 o cu gr
  have e1 := pickN [0, 1, 3, 12, 30, 60] g a len cap zs wx cu (HR.out _ gr) (by simp) (by simp)
  simp only [List.map_cons, List.map_nil, List.length_cons, List.length_nil, Nat.zero_add, Nat.reduceAdd] at e1
  go_wp2_with fail
  refine e1.mono ?_
  clear e1 hX
  rintro e w2 ⟨y, rfl, hy, cu2, h2⟩
  obtain ⟨n, rfl, hn⟩ : ∃ n : Nat, y = (n : Int) ∧ n ≤ 60 := by
    simp only [List.mem_cons, List.not_mem_nil, or_false] at hy
    exact ⟨y.toNat, by omega, by omega⟩
  clear hy cu
  replace K1 := K1.kept h2 (by intro e; injection e; omega)
  replace K2 := K2.kept h2 (by intro e; injection e; omega)
  replace T := T.kept h2 (by intro e; injection e; omega)
  replace o := o.curW (by omega) h2
  replace gr := grown_trans gr h2
  have htb : w.heap.size + 2 ≤ w1.heap.size := by omega
  clear h2 hs1
  obtain ⟨tb, htb'⟩ : ∃ tb, w1.heap.size = tb := ⟨_, rfl⟩
  rw [htb'] at T htb ⊢
  clear htb'
  go_wp2
  go_loopw [7, 8] (fun i _ wr => ∃ (k : Nat) (d : StatsD) (o1 : _) (k1 : _) (o2 : _) (k2 : _), i = .int .i64 k ∧ k ≤ n ∧ Blk 27 wr w.heap.size #[.slice oa s.attrs.length ka, .slice oc s.classes.length kc] ∧ Blk 31 wr (w.heap.size + 1) #[.slice none 0 0, .slice none 0 0] ∧ Blk 31 wr tb #[.slice o1 d.totals.length k1, .slice o2 d.cells.length k2] ∧ OwnSt (w.heap.size + 2) wr (.agg #[.slice o1 d.totals.length k1, .slice o2 d.cells.length k2]) d ∧ Hid (tinySt 16 d) ∧ IsCur wr g a len cap ∧ w.grownBy wr (some g)) (fun i _ _ => n - (intOf i).toNat)
  case atStart => exact ⟨0, d, _, _, _, _, rfl, by omega, K1, K2, T, o, td, cu2, gr⟩
  case round =>
    clear K1 K2 T o td cu2 gr
    obtain ⟨k, d, o1, k1, o2, k2, rfl, hk, K1, K2, T, o, td, cu, gr⟩ := hrel
    by_cases hlt : k < n
    · have j0 : wr.cell? ⟨w.heap.size, 0, none⟩ = some (.slice oa s.attrs.length ka) := K1.cell 0
      have j1 : wr.cell? ⟨w.heap.size, 1, none⟩ = some (.slice oc s.classes.length kc) := K1.cell 1
      have e1 := right7_any g a len cap zs _ s b wr cu (HR.out _ gr) (HS.out _ gr) hgb HTN.out
      go_wp2_with fail
      refine e1.mono ?_
      clear e1 j0 j1
      rintro e w3 ⟨ve, x, rfl, ⟨vb, rfl, oe⟩, hxl, -, cu3, h3⟩
      obtain ⟨ov, cv, rfl⟩ := own_slice oe
      have hxl6 : x.bins.length ≤ 1000 := by have := HTN.out.attrs; omega
      have hsw : w.heap.size + 2 ≤ wr.heap.size := by have := T.lt; omega
      replace oe := own_base oe hsw
      clear cu hxl
      replace K1 := K1.kept h3 (by intro e; injection e; omega)
      replace K2 := K2.kept h3 (by intro e; injection e; omega)
      replace T := T.kept h3 (by intro e; injection e; omega)
      replace o := o.curW (by omega) h3
      replace gr := grown_trans gr h3
      have hsw3 : tb < w3.heap.size := T.lt
      clear h3 hsw
      obtain ⟨E, BX⟩ := blk_1 33 w3 #[.slice ov x.bins.length cv, .int .i64 x.cls]
      replace K1 := K1.below BX
      replace K2 := K2.below BX
      replace T := T.below BX
      replace o := o.below BX
      replace oe := own_below oe BX
      replace cu := cu3.kept (grown_of_below BX) (by intro e; cases e)
      replace gr := grown_trans gr (grown_of_below BX _)
      clear BX cu3
      obtain ⟨eb, heb⟩ : ∃ eb, w3.heap.size = eb := ⟨_, rfl⟩
      rw [heb] at E hsw3
      generalize hE : w3.alloc (.cells #[.slice ov x.bins.length cv, .int .i64 x.cls] 33) = w4 at K1 K2 T o oe cu gr E
      go_wp2_with fail
      clear heb hE
      refine region_L (S := fun w' => Blk 27 w' w.heap.size #[.slice oa s.attrs.length ka, .slice oc s.classes.length kc] ∧ Blk 31 w' tb #[.slice o1 d.totals.length k1, .slice o2 d.cells.length k2] ∧ Blk 33 w' eb #[.slice ov x.bins.length cv, .int .i64 x.cls]) (last := 10) (by kernel_rfl) ?_
      have bd : Below w4.heap.size w4 w4.drew := below_drewN (Below.refl _ _) 1
      have hS : Blk 27 w4.drew w.heap.size #[.slice oa s.attrs.length ka, .slice oc s.classes.length kc] ∧ Blk 31 w4.drew tb #[.slice o1 d.totals.length k1, .slice o2 d.cells.length k2] ∧ Blk 33 w4.drew eb #[.slice ov x.bins.length cv, .int .i64 x.cls] := ⟨K1.below bd, T.below bd, E.below bd⟩
      clear K1 T E
      replace K2 := K2.below bd
      replace o := o.below bd
      replace oe := own_below oe bd
      replace cu := cu.kept (grown_of_below bd) (by intro e; cases e)
      replace gr := grown_trans gr (grown_of_below bd _)
      clear bd
      generalize w4.drew = w5 at *
      refine firstL 0 (.agg #[.slice oa s.attrs.length ka, .slice oc s.classes.length kc]) rfl (by kernel_rfl) (by kernel_rfl) (by kernel_rfl) (fun _ _ _ h => h) (by kernel_rfl) (yields_row Try.underlying27 (by kernel_rfl) (by rfl) _ rfl _ rfl (fun _ h => h.1)) hS ?_
      try simp only [Act.put, List.setIfInBounds_toArray, List.set_cons_zero, List.set_cons_succ]
      refine firstL 1 (.agg #[.slice o1 d.totals.length k1, .slice o2 d.cells.length k2]) rfl (by kernel_rfl) (by kernel_rfl) (by kernel_rfl) (fun _ _ _ h => h) (by kernel_rfl) (yields_row Try.underlying31 (by kernel_rfl) (by rfl) _ rfl _ rfl (fun _ h => h.2.1)) hS ?_
      try simp only [Act.put, List.setIfInBounds_toArray, List.set_cons_zero, List.set_cons_succ]
      refine firstL 2 (.agg #[.slice ov x.bins.length cv, .int .i64 x.cls]) rfl (by kernel_rfl) (by kernel_rfl) (by kernel_rfl) (fun _ _ _ h => h) (by kernel_rfl) (yields_row Try.underlying33 (by kernel_rfl) (by rfl) _ rfl _ rfl (fun _ h => h.2.2)) hS ?_
      try simp only [Act.put, List.setIfInBounds_toArray, List.set_cons_zero, List.set_cons_succ]
      refine firstL 3 (.pointer (some ⟨g, 0, none⟩)) rfl (by kernel_rfl) (by kernel_rfl) (by kernel_rfl) (fun _ _ _ h => h) (by kernel_rfl) (.inl ⟨by rfl, fun w _ => by rfl⟩) hS ?_
      try simp only [Act.put, List.setIfInBounds_toArray, List.set_cons_zero, List.set_cons_succ]
      have e1 := pickN [1, 2, 7] g a len cap zs w5 cu (HR.out _ gr) (by simp) (by simp)
      simp only [List.map_cons, List.map_nil, List.length_cons, List.length_nil, Nat.zero_add, Nat.reduceAdd] at e1
      have bn : Below w5.heap.size w5 (w5.alloc (.cells #[.int .i64 1, .int .i64 2, .int .i64 7] 3)) := (Below.refl _ _).alloc (Nat.le_refl _) _
      refine stepL 4 rfl (by kernel_rfl) (by rfl) fun K hK => ?_
      go_simp
      refine hK _ _ ⟨hS.1.below bn, hS.2.1.below bn, hS.2.2.below bn⟩ ?_
      clear hK K bn
      refine stepL 5 rfl (by kernel_rfl) (by rfl) fun K hK => ?_
      go_simp
      refine e1.mono ?_
      clear e1 cu
      rintro e w6 ⟨y, rfl, -, cu, h6⟩
      replace hS : Blk 27 w6 w.heap.size #[.slice oa s.attrs.length ka, .slice oc s.classes.length kc] ∧ Blk 31 w6 tb #[.slice o1 d.totals.length k1, .slice o2 d.cells.length k2] ∧ Blk 33 w6 eb #[.slice ov x.bins.length cv, .int .i64 x.cls] := ⟨hS.1.kept h6 (by intro e; injection e; omega), hS.2.1.kept h6 (by intro e; injection e; omega), hS.2.2.kept h6 (by intro e; injection e; omega)⟩
      refine hK _ _ hS ?_
      clear hK K
      replace K2 := K2.kept h6 (by intro e; injection e; omega)
      replace o := o.curW (by omega) h6
      replace oe := own_curW oe (by omega) h6
      replace gr := grown_trans gr h6
      clear h6
      have e1 := specStatsAdd_any _ _ (.agg #[.slice ov x.bins.length cv, .int .i64 x.cls]) s d x y w6 (HS.out _ gr).at o.at ⟨_, rfl, RowI.of_own oe rfl⟩ HOK.out (td.out.ok (by omega)) (by omega)
      clear o oe
      refine stepL 6 rfl (by kernel_rfl) (by rfl) fun K hK => ?_
      go_simp
      refine e1.mono ?_
      clear e1
      rintro e w7 ⟨v', rfl, o, hb⟩
      replace hS : Blk 27 w7 w.heap.size #[.slice oa s.attrs.length ka, .slice oc s.classes.length kc] ∧ Blk 31 w7 tb #[.slice o1 d.totals.length k1, .slice o2 d.cells.length k2] ∧ Blk 33 w7 eb #[.slice ov x.bins.length cv, .int .i64 x.cls] := ⟨hS.1.below hb, hS.2.1.below hb, hS.2.2.below hb⟩
      refine hK _ _ hS ?_
      clear hK K
      obtain ⟨o3, k3, o4, k4, rfl⟩ := o.form
      have hsz : w.heap.size + 2 ≤ w6.heap.size := by have := K2.lt; omega
      replace o := o.base hsz
      replace K2 := K2.below hb
      replace cu := cu.kept (grown_of_below hb) (by intro e; cases e)
      replace gr := grown_trans gr (grown_of_below hb _)
      clear hb hsz
      refine firstL 7 (.tuple #[.agg #[.slice o3 (statsAdd s d x y).totals.length k3, .slice o4 (statsAdd s d x y).cells.length k4], .bool (addOk s d x y)]) rfl (by kernel_rfl) (by kernel_rfl) (by kernel_rfl) (fun _ _ _ h => h) (by kernel_rfl) (.inl ⟨by rfl, fun w _ => by rfl⟩) hS ?_
      try simp only [Act.put, List.setIfInBounds_toArray, List.set_cons_zero, List.set_cons_succ]
      refine firstL 8 (.agg #[.slice o3 (statsAdd s d x y).totals.length k3, .slice o4 (statsAdd s d x y).cells.length k4]) rfl (by kernel_rfl) (by kernel_rfl) (by kernel_rfl) (fun _ _ _ h => h) (by kernel_rfl) (.inl ⟨by rfl, fun w _ => by rfl⟩) hS ?_
      try simp only [Act.put, List.setIfInBounds_toArray, List.set_cons_zero, List.set_cons_succ]
      refine pureL 9 (.bool (addOk s d x y)) rfl (by kernel_rfl) (by kernel_rfl) (by kernel_rfl) (fun _ _ _ h => h) (by decide) (.inl ⟨by rfl, fun w _ => by rfl⟩) hS ?_
      try simp only [Act.put, List.setIfInBounds_toArray, List.set_cons_zero, List.set_cons_succ]
      refine lastL rfl (by kernel_rfl) (by kernel_rfl) (by rfl) ?_
      refine wp_st_step _ _ rfl tb _ _ _ _ _ _ _ _ rfl rfl hS.2.1 ?_
      simp only [Act.put]
      have ta := tiny_add s d x y td.out
      have T2 := hS.2.1.setRow #[.slice o3 (statsAdd s d x y).totals.length k3, .slice o4 (statsAdd s d x y).cells.length k4]
      have K1 := Blk.setRow_other hS.1 #[.slice o3 (statsAdd s d x y).totals.length k3, .slice o4 (statsAdd s d x y).cells.length k4] (show w.heap.size ≠ tb by omega)
      replace K2 := Blk.setRow_other K2 #[.slice o3 (statsAdd s d x y).totals.length k3, .slice o4 (statsAdd s d x y).cells.length k4] (show w.heap.size + 1 ≠ tb by omega)
      replace o := o.rowB hS.2.1 (by decide) (by decide) #[.slice o3 (statsAdd s d x y).totals.length k3, .slice o4 (statsAdd s d x y).cells.length k4]
      replace cu := cu.rowW (p := tb) #[.slice o3 (statsAdd s d x y).totals.length k3, .slice o4 (statsAdd s d x y).cells.length k4] (by omega)
      replace gr := grown_row gr (p := tb) (by omega) #[.slice o3 (statsAdd s d x y).totals.length k3, .slice o4 (statsAdd s d x y).cells.length k4]
      clear hS td
      generalize w7.setRow tb #[.slice o3 (statsAdd s d x y).totals.length k3, .slice o4 (statsAdd s d x y).cells.length k4] = w8 at *
      generalize statsAdd s d x y = d2 at *
      generalize addOk s d x y = ok2 at *
      go_wp2
      go_roundw
      case rel => exact ⟨k + 1, d2, _, _, _, _, by go_num, by omega, K1, K2, T2, o, ta, cu, gr⟩
      case measure => simp [intOf]; omega
    · obtain rfl : k = n := by omega
      have e1 := once_any g a len cap zs 8 wr cu (HR.out _ gr) (by decide) (by decide)
      go_wp2_with fail
      refine e1.mono ?_
      clear e1 cu
      rintro e w3 ⟨bb, rfl, cu, h3⟩
      replace K1 := K1.kept h3 (by intro e; injection e; omega)
      replace K2 := K2.kept h3 (by intro e; injection e; omega)
      replace T := T.kept h3 (by intro e; injection e; omega)
      replace o := o.curW (by omega) h3
      replace gr := grown_trans gr h3
      clear h3
      have hsz : w.heap.size + 2 ≤ w3.heap.size := by have := K2.lt; omega
      cases bb with
      | true =>
        have e1 := specThin_any (.agg #[.slice o1 d.totals.length k1, .slice o2 d.cells.length k2]) d w3 o.at (td.out.ok (by omega))
        have tt := tiny_thin d td.out
        go_wp2_with (first | (with_reducible refine wp_st_load rfl _ rfl ?_; refine ⟨_, rfl, _, _, T, ?_⟩))
        refine e1.mono ?_
        clear e1 o
        rintro e w4 ⟨v', rfl, o, hb⟩
        obtain ⟨o3, k3, o4, k4, rfl⟩ := o.form
        generalize thinS d = d2 at *
        replace K2 := K2.below hb
        replace cu := cu.kept (grown_of_below hb) (by intro e; cases e)
        replace gr := grown_trans gr (grown_of_below hb _)
        go_wp2_with (first | (with_reducible refine wp_st_store rfl _ _ rfl ?_; refine ⟨_, rfl, _, _, _, _, _, _, rfl, _, _, K2, ?_⟩))
        exact bodyPost_ret (res_st rfl _ _ _ _ _ rfl (K2.setRow _)) rfl ⟨_, d2, rfl, (o.base (by omega)).rowB K2 (by decide) (by decide) _, tt, cu.rowW _ (by omega), grown_row gr (by omega) _⟩
      | false =>
        go_wp2_with (first | (with_reducible refine wp_st_load rfl _ rfl ?_; refine ⟨_, rfl, _, _, T, ?_⟩) | (with_reducible refine wp_st_store rfl _ _ rfl ?_; refine ⟨_, rfl, _, _, _, _, _, _, rfl, _, _, K2, ?_⟩))
        exact bodyPost_ret (res_st rfl _ _ _ _ _ rfl (K2.setRow _)) rfl ⟨_, d, rfl, (o.base (by omega)).rowB K2 (by decide) (by decide) _, td.out, cu.rowW _ (by omega), grown_row gr (by omega) _⟩
end Go.Proofs.Ytobimpgapfecoaa
/- Counts of the call's own, one cell or one list turned. -/
namespace Go.Proofs.Ytobimpgapfecoaa
open Go.RowKit
set_option maxRecDepth 100000
theorem own_some8 {w : World} {b e s n m c : Nat} {o : Option Addr} {xs : List Value} (h : w.ownsRow b e s (.slice o m c) n xs) (hn : 0 < n) : ∃ g, o = some ⟨g, 0, none⟩ := by
  rcases h.2 with ⟨h1, h2⟩ | ⟨g', cap', cur', hv', _⟩
  · omega
  · injection hv' with e1 e2 e3; exact ⟨g', e1⟩
theorem ne_of_apart {v v' : Value} {g : Nat} (h : v.ownBlock = none ∨ v.ownBlock ≠ v'.ownBlock) (h' : v'.ownBlock = some g) : v.ownBlock ≠ some g := by
  rcases h with h | h
  · rw [h]; intro e'; cases e'
  · rw [← h']; exact h
theorem apart_of_ne {v v' : Value} (h : ∀ a b, v.ownBlock = some a → v'.ownBlock = some b → a ≠ b) : v.ownBlock = none ∨ v.ownBlock ≠ v'.ownBlock := by
  cases e : v.ownBlock with
  | none => exact .inl rfl
  | some k => exact .inr fun e' => h k k e e'.symm rfl
theorem OwnSt.putT {w : World} {b go c : Nat} {vc : Value} {d : StatsD} (h : OwnSt b w (.agg #[.slice (some ⟨go, 0, none⟩) d.totals.length c, vc]) d) (k : Nat) (y : Int) :
    OwnSt b (w.setCell ⟨go, k, none⟩ (.int .i64 y)) (.agg #[.slice (some ⟨go, 0, none⟩) d.totals.length c, vc]) ⟨d.totals.set k y, d.cells⟩ := by
  obtain ⟨vt, vc', L, ys, e, o1, o2, o3⟩ := h
  cases e
  have hst := (o1.stored k (.int .i64 y)).1
  refine ⟨_, _, L, ys, rfl, ?_, ⟨own_setCellN o2.row go k _ (ne_of_apart (apart_ty o2.row o1 (by decide)) rfl), o2.cells, fun j hj => own_setCellN (o2.ints j hj) go k _ (fun hb => o3 j go go hj rfl hb rfl), o2.ord⟩, o3⟩
  show (World.setCell _ _ _).ownsRow b _ 1 _ (d.totals.set k y).length ((d.totals.set k y).map _)
  rw [List.length_set, List.map_set]; exact hst
theorem OwnSt.snocT {w w' : World} {b : Nat} {v v' vc : Value} {d : StatsD} {y : Int} (h : OwnSt b w (.agg #[v, vc]) d) (ho : w'.ownsRow b 3 1 v' (d.totals.length + 1) ((d.totals ++ [y]).map (Value.int .i64)))
    (hg : w.grownBy w' v.ownBlock) (hat : v'.ownBlock = v.ownBlock ∨ v'.ownBlock = some w.heap.size) : OwnSt b w' (.agg #[v', vc]) ⟨d.totals ++ [y], d.cells⟩ := by
  obtain ⟨vt, vc', L, ys, e, o1, o2, o3⟩ := h
  cases e
  refine ⟨_, _, L, ys, rfl, ?_, ⟨o2.row.kept hg (apart_ty o2.row o1 (by decide)), o2.cells, fun j hj => (o2.ints j hj).kept hg (apart_of_ne fun p q hp hq => Ne.symm (o3 j q p hj hq hp)), o2.ord⟩, fun j p q hj hp hq => ?_⟩
  · show w'.ownsRow b _ 1 _ (d.totals ++ [y]).length ((d.totals ++ [y]).map _)
    rw [List.length_append]; exact ho
  · have hq2 := ((o2.ints j hj).lt q hq).2
    rcases hat with hat | hat
    · rw [hat] at hp; exact o3 j p q hj hp hq
    · rw [hat] at hp; cases hp; omega
/-- The first list, told openly. -/
structure Open0 (b : Nat) (w : World) (vt : Value) (gc kc : Nat) (ol : Option Addr) (kl : Nat) (L : Nat → Value) (ys : List Value) (d : StatsD) : Prop where
  tot : w.ownsRow b 3 1 vt d.totals.length (d.totals.map (Value.int .i64))
  sep : SepII b w (.slice (some ⟨gc, 0, none⟩) d.cells.length kc) L ys d.cells d.cells.length
  ne : ∀ j p q, j < d.cells.length → vt.ownBlock = some p → (L j).ownBlock = some q → p ≠ q
  fst : L 0 = .slice ol (il d.cells 0).length kl
  pos : 0 < d.cells.length
theorem OwnSt.open0 {b : Nat} {w : World} {vt : Value} {o2 : Option Addr} {k2 : Nat} {d : StatsD} (h : OwnSt b w (.agg #[vt, .slice o2 d.cells.length k2]) d) (h0 : 0 < d.cells.length) :
    ∃ gc ol kl L ys, o2 = some ⟨gc, 0, none⟩ ∧ Open0 b w vt gc k2 ol kl L ys d := by
  obtain ⟨vt', vc', L, ys, e, p1, p2, p3⟩ := h
  cases e
  obtain ⟨gc, rfl⟩ := own_some8 p2.row h0
  obtain ⟨ol, kl, hL⟩ := own_slice (p2.ints 0 h0)
  exact ⟨gc, ol, kl, L, ys, rfl, p1, p2, p3, hL, h0⟩
theorem Open0.cell {b : Nat} {w : World} {vt : Value} {gc kc : Nat} {ol : Option Addr} {kl : Nat} {L : Nat → Value} {ys : List Value} {d : StatsD} (h : Open0 b w vt gc kc ol kl L ys d) : w.cell? ⟨gc, 0, none⟩ = some (.slice ol (il d.cells 0).length kl) := by
  rw [h.sep.row.cellAt 0 (by rw [Nat.mul_one]; exact h.pos), h.sep.cells 0 h.pos, h.fst]
theorem Open0.frozen {b : Nat} {w : World} {vt : Value} {gc kc : Nat} {ol : Option Addr} {kl : Nat} {L : Nat → Value} {ys : List Value} {d : StatsD} (h : Open0 b w vt gc kc ol kl L ys d) : w.frozen? ⟨gc, 0, none⟩ = false := h.sep.row.frozenAt 0
theorem Open0.own {b : Nat} {w : World} {vt : Value} {gc kc : Nat} {ol : Option Addr} {kl : Nat} {L : Nat → Value} {ys : List Value} {d : StatsD} (h : Open0 b w vt gc kc ol kl L ys d) : OwnSt b w (.agg #[vt, .slice (some ⟨gc, 0, none⟩) d.cells.length kc]) d :=
  ⟨_, _, L, ys, rfl, h.tot, h.sep, h.ne⟩
theorem Open0.below {b : Nat} {w w' : World} {vt : Value} {gc kc : Nat} {ol : Option Addr} {kl : Nat} {L : Nat → Value} {ys : List Value} {d : StatsD} (h : Open0 b w vt gc kc ol kl L ys d) (hb : Below w.heap.size w w') : Open0 b w' vt gc kc ol kl L ys d :=
  ⟨own_below h.tot hb, h.sep.below hb, h.ne, h.fst, h.pos⟩
theorem Open0.curW {b : Nat} {w w' : World} {vt : Value} {gc kc : Nat} {ol : Option Addr} {kl g : Nat} {L : Nat → Value} {ys : List Value} {d : StatsD} (h : Open0 b w vt gc kc ol kl L ys d) (hg : g < b) (hk : w.grownBy w' (some g)) : Open0 b w' vt gc kc ol kl L ys d :=
  ⟨own_curW h.tot hg hk, h.sep.curW hg hk, h.ne, h.fst, h.pos⟩
theorem Open0.lst {b : Nat} {w : World} {vt : Value} {gc kc : Nat} {ol : Option Addr} {kl : Nat} {L : Nat → Value} {ys : List Value} {d : StatsD} (h : Open0 b w vt gc kc ol kl L ys d) : w.ownsRow b 3 1 (.slice ol (il d.cells 0).length kl) (il d.cells 0).length ((il d.cells 0).map (Value.int .i64)) := by
  have := h.sep.ints 0 h.pos
  rwa [h.fst] at this
/-- A cell of the first list is turned. -/
theorem Open0.put {b : Nat} {w : World} {vt : Value} {gc kc gl : Nat} {kl : Nat} {L : Nat → Value} {ys : List Value} {d : StatsD} (h : Open0 b w vt gc kc (some ⟨gl, 0, none⟩) kl L ys d) (k : Nat) (y : Int) :
    OwnSt b (w.setCell ⟨gl, k, none⟩ (.int .i64 y)) (.agg #[vt, .slice (some ⟨gc, 0, none⟩) d.cells.length kc]) ⟨d.totals, d.cells.set 0 ((il d.cells 0).set k y)⟩ := by
  have D : DoneII w b ys L d.cells d.cells.length := ⟨h.sep.cells, h.sep.ints, h.sep.ord⟩
  have D2 := D.put (kk := k) (u := y) h.pos h.pos h.fst
  have hb : (L 0).ownBlock = some gl := by rw [h.fst]; rfl
  refine ⟨_, _, L, ys, rfl, own_setCellN h.tot gl k _ (fun e => h.ne 0 gl gl h.pos e hb rfl), ⟨?_, ?_, ?_, ?_⟩, ?_⟩
  · show (World.setCell _ _ _).ownsRow b _ 1 _ (d.cells.set 0 _).length _
    rw [List.length_set]
    exact own_setCellN h.sep.row gl k _ (ne_of_apart (apart_ty h.sep.row (h.sep.ints 0 h.pos) (by decide)) hb)
  · intro j hj; exact D2.cells j (by simpa using hj)
  · intro j hj; exact D2.ints j (by simpa using hj)
  · intro p q a c hpq hq; exact D2.ord p q a c hpq (by simpa using hq)
  · intro j p q hj; exact h.ne j p q (by simpa using hj)
/-- A longer first list is put in the first one's place. -/
theorem Open0.snoc {b : Nat} {w w' : World} {vt v' : Value} {gc kc : Nat} {ol : Option Addr} {kl : Nat} {L : Nat → Value} {ys : List Value} {d : StatsD} {y : Int} (h : Open0 b w vt gc kc ol kl L ys d)
    (ho : w'.ownsRow b 3 1 v' ((il d.cells 0).length + 1) ((il d.cells 0 ++ [y]).map (Value.int .i64))) (hg : w.grownBy w' (Value.slice ol (il d.cells 0).length kl).ownBlock)
    (hat : v'.ownBlock = (Value.slice ol (il d.cells 0).length kl).ownBlock ∨ v'.ownBlock = some w.heap.size) :
    OwnSt b (w'.setCell ⟨gc, 0, none⟩ v') (.agg #[vt, .slice (some ⟨gc, 0, none⟩) d.cells.length kc]) ⟨d.totals, d.cells.set 0 (il d.cells 0 ++ [y])⟩ := by
  rw [← h.fst] at hg hat
  have row := h.sep.row.kept hg (apart_ty h.sep.row (h.sep.ints 0 h.pos) (by decide))
  have hst := (row.stored 0 v').1
  have htot := h.tot.kept hg (apart_of_ne fun p q hp hq => h.ne 0 p q h.pos hp hq)
  have hyl : 0 < ys.length := by have := h.sep.row.1; have := h.pos; omega
  have hlt : ∀ j, j < d.cells.length → 0 < j → ∀ p q, v'.ownBlock = some p → (L j).ownBlock = some q → p ≠ q := fun j hj h0 p q hp hq => by
    have hq2 := ((h.sep.ints j hj).lt q hq).2
    rcases hat with hat | hat
    · rw [hat] at hp; exact h.sep.ord 0 j p q h0 hj hp hq
    · rw [hat] at hp; cases hp; omega
  refine ⟨_, _, fun j => if j = 0 then v' else L j, ys.set 0 v', rfl, own_setCellN htot gc 0 _ (ne_of_apart (apart_ty htot row (by decide)) rfl), ⟨?_, ?_, ?_, ?_⟩, ?_⟩
  · show (World.setCell _ _ _).ownsRow b _ 1 _ (d.cells.set 0 _).length _
    rw [List.length_set]
    exact hst
  · intro j hj
    have hj' : j < d.cells.length := by simpa using hj
    show (ys.set 0 v')[j]? = some (if j = 0 then v' else L j)
    by_cases e : j = 0
    · subst e; rw [if_pos rfl, List.getElem?_set_self hyl]
    · rw [if_neg e, List.getElem?_set_ne (fun h => e h.symm)]; exact h.sep.cells j hj'
  · intro j hj
    have hj' : j < d.cells.length := by simpa using hj
    show (w'.setCell _ _).ownsRow b _ 1 (if j = 0 then v' else L j) (il (d.cells.set 0 _) j).length ((il (d.cells.set 0 _) j).map _)
    rw [il_set h.pos]
    by_cases e : j = 0
    · rw [if_pos e, if_pos e, List.length_append]
      exact own_setCellN ho gc 0 _ (ne_of_apart (apart_ty ho row (by decide)) rfl)
    · rw [if_neg e, if_neg e]
      have hj2 := (h.sep.ints j hj').kept hg (apart_of_ne fun p q hp hq => Ne.symm (h.sep.ord 0 j q p (by omega) hj' hq hp))
      exact own_setCellN hj2 gc 0 _ (ne_of_apart (apart_ty hj2 row (by decide)) rfl)
  · intro p q x z hpq hq hx hz
    have hq' : q < d.cells.length := by simpa using hq
    replace hx : (if p = 0 then v' else L p).ownBlock = some x := hx
    replace hz : (if q = 0 then v' else L q).ownBlock = some z := hz
    rw [if_neg (by omega)] at hz
    by_cases e : p = 0
    · rw [if_pos e] at hx; exact hlt q hq' (by omega) x z hx hz
    · rw [if_neg e] at hx; exact h.sep.ord p q x z hpq hq' hx hz
  · intro j p q hj hp hq
    have hj' : j < d.cells.length := by simpa using hj
    replace hq : (if j = 0 then v' else L j).ownBlock = some q := hq
    by_cases e : j = 0
    · rw [if_pos e] at hq
      have hp2 := (h.tot.lt p hp).2
      rcases hat with hat | hat
      · rw [hat] at hq; exact h.ne 0 p q h.pos hp hq
      · rw [hat] at hq; cases hq; omega
    · rw [if_neg e] at hq; exact h.ne j p q hj' hp hq
end Go.Proofs.Ytobimpgapfecoaa
