/- Texts of this claim, put together: part 23. -/
import Derived.Test.YteadkdllmeeocaaFnBestPack16
import Derived.Test.YteadkdllmeeocaaFnBestPack19
import Derived.Test.YteadkdllmeeocaaFnBestPack20
import Derived.Test.YteadkdllmeeocaaFnBestPack22
import Derived.Test.YteadkdllmeeocaaFnBestPack6
import Derived.Maps.AppendAt
/- Draws of chapter 8: what some examples leave. -/
namespace Go.Proofs.Yteadkdllmeeocaa
open Go.RowKit
set_option maxRecDepth 100000
set_option linter.unusedSimpArgs false
theorem tinyS.ok8 {d : SchemaD} (h : tinyS d) : okSch d := by
  have h1 := h.attrs
  have h2 := h.classes
  exact ⟨by omega, fun a ha => (h.each a ha).ok7, by omega, fun c hc => by have := h.sizes c hc; omega⟩
theorem OwnSt.form {b : Nat} {w : World} {v : Value} {d : StatsD} (h : OwnSt b w v d) : ∃ o1 k1 o2 k2, v = .agg #[.slice o1 d.totals.length k1, .slice o2 d.cells.length k2] := by
  obtain ⟨vt, vc, L, ys, rfl, h1, h2, -⟩ := h
  obtain ⟨o1, k1, rfl⟩ := own_slice h1
  obtain ⟨o2, k2, rfl⟩ := own_slice h2.row
  exact ⟨_, _, _, _, rfl⟩
set_option maxHeartbeats 6400000 in
theorem right8_any (g : Nat) (a : Option Addr) (len cap : Nat) (zs : List Int) (vs : Value) (s : SchemaD) (b : Nat) (w : World) (hc : IsCur w g a len cap) (hr : IsRow .u8 w a len cap zs) (hs : OwnS b w vs s) (hgb : g < b) (ht : tinyS s) :
    Calls Try.prog 56 #[.pointer (some ⟨g, 0, none⟩), vs] w fun e w' => ∃ v d, e = .returned v ∧ OwnSt w.heap.size w' v d ∧ tinySt 16 d ∧ IsCur w' g a len cap ∧ w.grownBy w' (some g) := by
  have hgw : g < w.heap.size := hc.lt
  have HR : Hid (∀ w', w.grownBy w' (some g) → IsRow .u8 w' a len cap zs) := fun w' h => hr.aside hc h
  have HS : Hid (∀ w', w.grownBy w' (some g) → OwnS b w' vs s) := fun w' h => hs.curW7 hgb h
  have HTN : Hid (tinyS s) := ht
  have HOK : Hid (okSch s) := ht.ok8
  obtain ⟨va, vc, rfl, ra, rc⟩ := id hs.at
  obtain ⟨oa, ka, rfl, -, -⟩ := id ra
  obtain ⟨oc, kc, rfl, -, -⟩ := id rc
  clear ra rc
  obtain ⟨K1, K2, B0⟩ := blk_2 33 36 w #[.slice oa s.attrs.length ka, .slice oc s.classes.length kc] #[.slice none 0 0, .slice none 0 0]
  have gr := grown_of_below B0 (some g)
  have cu := (hc.alloc (.cells #[.slice oa s.attrs.length ka, .slice oc s.classes.length kc] 33)).alloc (.cells #[.slice none 0 0, .slice none 0 0] 36)
  clear hc hr hs ht B0
  generalize hW : ((w.alloc (.cells #[.slice oa s.attrs.length ka, .slice oc s.classes.length kc] 33)).alloc (.cells #[.slice none 0 0, .slice none 0 0] 36)) = w0 at K1 K2 gr cu
  have hs0 : w.heap.size + 2 = w0.heap.size := by rw [← hW]; simp
  have e1 := specStatsNew_any _ s w0 (HS.out _ gr).at HOK.out
  have j0 : w0.cell? ⟨w.heap.size, 0, none⟩ = some (.slice oa s.attrs.length ka) := K1.cell 0
  have j1 : w0.cell? ⟨w.heap.size, 1, none⟩ = some (.slice oc s.classes.length kc) := K1.cell 1
  go_enter Try.func56, Try.ntmps56
  go_wp2_with fail
  refine e1.mono ?_
  clear e1 j0 j1 hW
  rintro e w1 ⟨v1, rfl, o, hb⟩
  obtain ⟨o1, k1, o2, k2, rfl⟩ := o.form
  replace o := o.base (show w.heap.size + 2 ≤ w0.heap.size by omega)
  have td : Hid (tinySt 16 (statsNew s)) := tiny_new s
  generalize statsNew s = d at o td
  replace K1 := K1.below hb
  replace K2 := K2.below hb
  replace cu := cu.kept (grown_of_below hb) (by intro e; cases e)
  replace gr := grown_trans gr (grown_of_below hb _)
  have hs1 := hb.size
  clear hb
  obtain ⟨T, BX⟩ := blk_1 36 w1 #[.slice o1 d.totals.length k1, .slice o2 d.cells.length k2]
  replace K1 := K1.below BX
  replace K2 := K2.below BX
  replace o := o.below BX
  replace cu := cu.kept (grown_of_below BX) (by intro e; cases e)
  replace gr := grown_trans gr (grown_of_below BX _)
  clear BX
  generalize hX : w1.alloc (.cells #[.slice o1 d.totals.length k1, .slice o2 d.cells.length k2] 36) = wx at T K1 K2 o cu gr
  have e1 := pickN [0, 1, 3, 12, 30, 60] g a len cap zs wx cu (HR.out _ gr) (by simp) (by simp)
  simp only [List.map_cons, List.map_nil, List.length_cons, List.length_nil, Nat.zero_add, Nat.reduceAdd] at e1
  go_wp2_with fail
  refine e1.mono ?_
  clear e1 hX
  rintro e w2 ⟨y, rfl, hy, cu2, h2⟩
  obtain ⟨n, rfl, hn⟩ : ∃ n : Nat, y = (n : Int) ∧ n ≤ 60 := by
    simp only [List.mem_cons, List.not_mem_nil, or_false] at hy
    exact ⟨y.toNat, by omega, by omega⟩
  clear hy cu
  replace K1 := K1.kept h2 (by intro e; injection e; omega)
  replace K2 := K2.kept h2 (by intro e; injection e; omega)
  replace T := T.kept h2 (by intro e; injection e; omega)
  replace o := o.curW (by omega) h2
  replace gr := grown_trans gr h2
  have htb : w.heap.size + 2 ≤ w1.heap.size := by omega
  clear h2 hs1
  obtain ⟨tb, htb'⟩ : ∃ tb, w1.heap.size = tb := ⟨_, rfl⟩
  rw [htb'] at T htb ⊢
  clear htb'
  go_wp2
  go_loopw [7, 8] (fun i _ wr => ∃ (k : Nat) (d : StatsD) (o1 : _) (k1 : _) (o2 : _) (k2 : _), i = .int .i64 k ∧ k ≤ n ∧ Blk 33 wr w.heap.size #[.slice oa s.attrs.length ka, .slice oc s.classes.length kc] ∧ Blk 36 wr (w.heap.size + 1) #[.slice none 0 0, .slice none 0 0] ∧ Blk 36 wr tb #[.slice o1 d.totals.length k1, .slice o2 d.cells.length k2] ∧ OwnSt (w.heap.size + 2) wr (.agg #[.slice o1 d.totals.length k1, .slice o2 d.cells.length k2]) d ∧ Hid (tinySt 16 d) ∧ IsCur wr g a len cap ∧ w.grownBy wr (some g)) (fun i _ _ => n - (intOf i).toNat)
  case atStart => exact ⟨0, d, _, _, _, _, rfl, by omega, K1, K2, T, o, td, cu2, gr⟩
  case round =>
    clear K1 K2 T o td cu2 gr
    obtain ⟨k, d, o1, k1, o2, k2, rfl, hk, K1, K2, T, o, td, cu, gr⟩ := hrel
    by_cases hlt : k < n
    · have j0 : wr.cell? ⟨w.heap.size, 0, none⟩ = some (.slice oa s.attrs.length ka) := K1.cell 0
      have j1 : wr.cell? ⟨w.heap.size, 1, none⟩ = some (.slice oc s.classes.length kc) := K1.cell 1
      have e1 := right7_any g a len cap zs _ s b wr cu (HR.out _ gr) (HS.out _ gr) hgb HTN.out
      go_wp2_with fail
      refine e1.mono ?_
      clear e1 j0 j1
      rintro e w3 ⟨ve, x, rfl, ⟨vb, rfl, oe⟩, hxl, -, cu3, h3⟩
      obtain ⟨ov, cv, rfl⟩ := own_slice oe
      have hxl6 : x.bins.length ≤ 1000 := by have := HTN.out.attrs; omega
      have hsw : w.heap.size + 2 ≤ wr.heap.size := by have := T.lt; omega
      replace oe := own_base oe hsw
      clear cu hxl
      replace K1 := K1.kept h3 (by intro e; injection e; omega)
      replace K2 := K2.kept h3 (by intro e; injection e; omega)
      replace T := T.kept h3 (by intro e; injection e; omega)
      replace o := o.curW (by omega) h3
      replace gr := grown_trans gr h3
      have hsw3 : tb < w3.heap.size := T.lt
      clear h3 hsw
      obtain ⟨E, BX⟩ := blk_1 101 w3 #[.slice ov x.bins.length cv, .int .i64 x.cls]
      replace K1 := K1.below BX
      replace K2 := K2.below BX
      replace T := T.below BX
      replace o := o.below BX
      replace oe := own_below oe BX
      replace cu := cu3.kept (grown_of_below BX) (by intro e; cases e)
      replace gr := grown_trans gr (grown_of_below BX _)
      clear BX cu3
      obtain ⟨eb, heb⟩ : ∃ eb, w3.heap.size = eb := ⟨_, rfl⟩
      rw [heb] at E hsw3
      generalize hE : w3.alloc (.cells #[.slice ov x.bins.length cv, .int .i64 x.cls] 101) = w4 at K1 K2 T o oe cu gr E
      go_wp2_with fail
      clear heb hE
      refine region_L (S := fun w' => Blk 33 w' w.heap.size #[.slice oa s.attrs.length ka, .slice oc s.classes.length kc] ∧ Blk 36 w' tb #[.slice o1 d.totals.length k1, .slice o2 d.cells.length k2] ∧ Blk 101 w' eb #[.slice ov x.bins.length cv, .int .i64 x.cls]) (last := 10) (by kernel_rfl) ?_
      have bd : Below w4.heap.size w4 w4.drew := below_drewN (Below.refl _ _) 1
      have hS : Blk 33 w4.drew w.heap.size #[.slice oa s.attrs.length ka, .slice oc s.classes.length kc] ∧ Blk 36 w4.drew tb #[.slice o1 d.totals.length k1, .slice o2 d.cells.length k2] ∧ Blk 101 w4.drew eb #[.slice ov x.bins.length cv, .int .i64 x.cls] := ⟨K1.below bd, T.below bd, E.below bd⟩
      clear K1 T E
      replace K2 := K2.below bd
      replace o := o.below bd
      replace oe := own_below oe bd
      replace cu := cu.kept (grown_of_below bd) (by intro e; cases e)
      replace gr := grown_trans gr (grown_of_below bd _)
      clear bd
      generalize w4.drew = w5 at *
      refine firstL 0 (.agg #[.slice oa s.attrs.length ka, .slice oc s.classes.length kc]) rfl (by kernel_rfl) (by kernel_rfl) (by kernel_rfl) (fun _ _ _ h => h) (by kernel_rfl) (yields_row Try.underlying33 (by kernel_rfl) (by rfl) _ rfl _ rfl (fun _ h => h.1)) hS ?_
      try simp only [Act.put, List.setIfInBounds_toArray, List.set_cons_zero, List.set_cons_succ]
      refine firstL 1 (.agg #[.slice o1 d.totals.length k1, .slice o2 d.cells.length k2]) rfl (by kernel_rfl) (by kernel_rfl) (by kernel_rfl) (fun _ _ _ h => h) (by kernel_rfl) (yields_row Try.underlying36 (by kernel_rfl) (by rfl) _ rfl _ rfl (fun _ h => h.2.1)) hS ?_
      try simp only [Act.put, List.setIfInBounds_toArray, List.set_cons_zero, List.set_cons_succ]
      refine firstL 2 (.agg #[.slice ov x.bins.length cv, .int .i64 x.cls]) rfl (by kernel_rfl) (by kernel_rfl) (by kernel_rfl) (fun _ _ _ h => h) (by kernel_rfl) (yields_row Try.underlying101 (by kernel_rfl) (by rfl) _ rfl _ rfl (fun _ h => h.2.2)) hS ?_
      try simp only [Act.put, List.setIfInBounds_toArray, List.set_cons_zero, List.set_cons_succ]
      refine firstL 3 (.pointer (some ⟨g, 0, none⟩)) rfl (by kernel_rfl) (by kernel_rfl) (by kernel_rfl) (fun _ _ _ h => h) (by kernel_rfl) (.inl ⟨by rfl, fun w _ => by rfl⟩) hS ?_
      try simp only [Act.put, List.setIfInBounds_toArray, List.set_cons_zero, List.set_cons_succ]
      have e1 := pickN [1, 2, 7] g a len cap zs w5 cu (HR.out _ gr) (by simp) (by simp)
      simp only [List.map_cons, List.map_nil, List.length_cons, List.length_nil, Nat.zero_add, Nat.reduceAdd] at e1
      have bn : Below w5.heap.size w5 (w5.alloc (.cells #[.int .i64 1, .int .i64 2, .int .i64 7] 3)) := (Below.refl _ _).alloc (Nat.le_refl _) _
      refine stepL 4 rfl (by kernel_rfl) (by rfl) fun K hK => ?_
      go_simp
      refine hK _ _ ⟨hS.1.below bn, hS.2.1.below bn, hS.2.2.below bn⟩ ?_
      clear hK K bn
      refine stepL 5 rfl (by kernel_rfl) (by rfl) fun K hK => ?_
      go_simp
      refine e1.mono ?_
      clear e1 cu
      rintro e w6 ⟨y, rfl, -, cu, h6⟩
      replace hS : Blk 33 w6 w.heap.size #[.slice oa s.attrs.length ka, .slice oc s.classes.length kc] ∧ Blk 36 w6 tb #[.slice o1 d.totals.length k1, .slice o2 d.cells.length k2] ∧ Blk 101 w6 eb #[.slice ov x.bins.length cv, .int .i64 x.cls] := ⟨hS.1.kept h6 (by intro e; injection e; omega), hS.2.1.kept h6 (by intro e; injection e; omega), hS.2.2.kept h6 (by intro e; injection e; omega)⟩
      refine hK _ _ hS ?_
      clear hK K
      replace K2 := K2.kept h6 (by intro e; injection e; omega)
      replace o := o.curW (by omega) h6
      replace oe := own_curW oe (by omega) h6
      replace gr := grown_trans gr h6
      clear h6
      have e1 := specStatsAdd_any _ _ (.agg #[.slice ov x.bins.length cv, .int .i64 x.cls]) s d x y w6 (HS.out _ gr).at o.at ⟨_, rfl, RowI.of_own oe rfl⟩ HOK.out (td.out.ok (by omega)) (by omega)
      clear o oe
      refine stepL 6 rfl (by kernel_rfl) (by rfl) fun K hK => ?_
      go_simp
      refine e1.mono ?_
      clear e1
      rintro e w7 ⟨v', rfl, o, hb⟩
      replace hS : Blk 33 w7 w.heap.size #[.slice oa s.attrs.length ka, .slice oc s.classes.length kc] ∧ Blk 36 w7 tb #[.slice o1 d.totals.length k1, .slice o2 d.cells.length k2] ∧ Blk 101 w7 eb #[.slice ov x.bins.length cv, .int .i64 x.cls] := ⟨hS.1.below hb, hS.2.1.below hb, hS.2.2.below hb⟩
      refine hK _ _ hS ?_
      clear hK K
      obtain ⟨o3, k3, o4, k4, rfl⟩ := o.form
      have hsz : w.heap.size + 2 ≤ w6.heap.size := by have := K2.lt; omega
      replace o := o.base hsz
      replace K2 := K2.below hb
      replace cu := cu.kept (grown_of_below hb) (by intro e; cases e)
      replace gr := grown_trans gr (grown_of_below hb _)
      clear hb hsz
      refine firstL 7 (.tuple #[.agg #[.slice o3 (statsAdd s d x y).totals.length k3, .slice o4 (statsAdd s d x y).cells.length k4], .bool (addOk s d x y)]) rfl (by kernel_rfl) (by kernel_rfl) (by kernel_rfl) (fun _ _ _ h => h) (by kernel_rfl) (.inl ⟨by rfl, fun w _ => by rfl⟩) hS ?_
      try simp only [Act.put, List.setIfInBounds_toArray, List.set_cons_zero, List.set_cons_succ]
      refine firstL 8 (.agg #[.slice o3 (statsAdd s d x y).totals.length k3, .slice o4 (statsAdd s d x y).cells.length k4]) rfl (by kernel_rfl) (by kernel_rfl) (by kernel_rfl) (fun _ _ _ h => h) (by kernel_rfl) (.inl ⟨by rfl, fun w _ => by rfl⟩) hS ?_
      try simp only [Act.put, List.setIfInBounds_toArray, List.set_cons_zero, List.set_cons_succ]
      refine pureL 9 (.bool (addOk s d x y)) rfl (by kernel_rfl) (by kernel_rfl) (by kernel_rfl) (fun _ _ _ h => h) (by decide) (.inl ⟨by rfl, fun w _ => by rfl⟩) hS ?_
      try simp only [Act.put, List.setIfInBounds_toArray, List.set_cons_zero, List.set_cons_succ]
      refine lastL rfl (by kernel_rfl) (by kernel_rfl) (by rfl) ?_
      refine wp_st_step _ _ rfl tb _ _ _ _ _ _ _ _ rfl rfl hS.2.1 ?_
      simp only [Act.put]
      have ta := tiny_add s d x y td.out
      have T2 := hS.2.1.setRow #[.slice o3 (statsAdd s d x y).totals.length k3, .slice o4 (statsAdd s d x y).cells.length k4]
      have K1 := Blk.setRow_other hS.1 #[.slice o3 (statsAdd s d x y).totals.length k3, .slice o4 (statsAdd s d x y).cells.length k4] (show w.heap.size ≠ tb by omega)
      replace K2 := Blk.setRow_other K2 #[.slice o3 (statsAdd s d x y).totals.length k3, .slice o4 (statsAdd s d x y).cells.length k4] (show w.heap.size + 1 ≠ tb by omega)
      replace o := o.rowB hS.2.1 (by decide) (by decide) #[.slice o3 (statsAdd s d x y).totals.length k3, .slice o4 (statsAdd s d x y).cells.length k4]
      replace cu := cu.rowW (p := tb) #[.slice o3 (statsAdd s d x y).totals.length k3, .slice o4 (statsAdd s d x y).cells.length k4] (by omega)
      replace gr := grown_row gr (p := tb) (by omega) #[.slice o3 (statsAdd s d x y).totals.length k3, .slice o4 (statsAdd s d x y).cells.length k4]
      clear hS td
      generalize w7.setRow tb #[.slice o3 (statsAdd s d x y).totals.length k3, .slice o4 (statsAdd s d x y).cells.length k4] = w8 at *
      generalize statsAdd s d x y = d2 at *
      generalize addOk s d x y = ok2 at *
      go_wp2
      go_roundw
      case rel => exact ⟨k + 1, d2, _, _, _, _, by go_num, by omega, K1, K2, T2, o, ta, cu, gr⟩
      case measure => simp [intOf]; omega
    · obtain rfl : k = n := by omega
      have e1 := once_any g a len cap zs 8 wr cu (HR.out _ gr) (by decide) (by decide)
      go_wp2_with fail
      refine e1.mono ?_
      clear e1 cu
      rintro e w3 ⟨bb, rfl, cu, h3⟩
      replace K1 := K1.kept h3 (by intro e; injection e; omega)
      replace K2 := K2.kept h3 (by intro e; injection e; omega)
      replace T := T.kept h3 (by intro e; injection e; omega)
      replace o := o.curW (by omega) h3
      replace gr := grown_trans gr h3
      clear h3
      have hsz : w.heap.size + 2 ≤ w3.heap.size := by have := K2.lt; omega
      cases bb with
      | true =>
        have e1 := specThin_any (.agg #[.slice o1 d.totals.length k1, .slice o2 d.cells.length k2]) d w3 o.at (td.out.ok (by omega))
        have tt := tiny_thin d td.out
        go_wp2_with (first | (with_reducible refine wp_st_load rfl _ rfl ?_; refine ⟨_, rfl, _, _, T, ?_⟩))
        refine e1.mono ?_
        clear e1 o
        rintro e w4 ⟨v', rfl, o, hb⟩
        obtain ⟨o3, k3, o4, k4, rfl⟩ := o.form
        generalize thinS d = d2 at *
        replace K2 := K2.below hb
        replace cu := cu.kept (grown_of_below hb) (by intro e; cases e)
        replace gr := grown_trans gr (grown_of_below hb _)
        go_wp2_with (first | (with_reducible refine wp_st_store rfl _ _ rfl ?_; refine ⟨_, rfl, _, _, _, _, _, _, rfl, _, _, K2, ?_⟩))
        exact bodyPost_ret (res_st rfl _ _ _ _ _ rfl (K2.setRow _)) rfl ⟨_, d2, rfl, (o.base (by omega)).rowB K2 (by decide) (by decide) _, tt, cu.rowW _ (by omega), grown_row gr (by omega) _⟩
      | false =>
        go_wp2_with (first | (with_reducible refine wp_st_load rfl _ rfl ?_; refine ⟨_, rfl, _, _, T, ?_⟩) | (with_reducible refine wp_st_store rfl _ _ rfl ?_; refine ⟨_, rfl, _, _, _, _, _, _, rfl, _, _, K2, ?_⟩))
        exact bodyPost_ret (res_st rfl _ _ _ _ _ rfl (K2.setRow _)) rfl ⟨_, d, rfl, (o.base (by omega)).rowB K2 (by decide) (by decide) _, td.out, cu.rowW _ (by omega), grown_row gr (by omega) _⟩
end Go.Proofs.Yteadkdllmeeocaa
/- Counts of the call's own, one cell or one list turned. -/
namespace Go.Proofs.Yteadkdllmeeocaa
open Go.RowKit
set_option maxRecDepth 100000
theorem own_some8 {w : World} {b e s n m c : Nat} {o : Option Addr} {xs : List Value} (h : w.ownsRow b e s (.slice o m c) n xs) (hn : 0 < n) : ∃ g, o = some ⟨g, 0, none⟩ := by
  rcases h.2 with ⟨h1, h2⟩ | ⟨g', cap', cur', hv', _⟩
  · omega
  · injection hv' with e1 e2 e3; exact ⟨g', e1⟩
theorem ne_of_apart {v v' : Value} {g : Nat} (h : v.ownBlock = none ∨ v.ownBlock ≠ v'.ownBlock) (h' : v'.ownBlock = some g) : v.ownBlock ≠ some g := by
  rcases h with h | h
  · rw [h]; intro e'; cases e'
  · rw [← h']; exact h
theorem apart_of_ne {v v' : Value} (h : ∀ a b, v.ownBlock = some a → v'.ownBlock = some b → a ≠ b) : v.ownBlock = none ∨ v.ownBlock ≠ v'.ownBlock := by
  cases e : v.ownBlock with
  | none => exact .inl rfl
  | some k => exact .inr fun e' => h k k e e'.symm rfl
theorem OwnSt.putT {w : World} {b go c : Nat} {vc : Value} {d : StatsD} (h : OwnSt b w (.agg #[.slice (some ⟨go, 0, none⟩) d.totals.length c, vc]) d) (k : Nat) (y : Int) :
    OwnSt b (w.setCell ⟨go, k, none⟩ (.int .i64 y)) (.agg #[.slice (some ⟨go, 0, none⟩) d.totals.length c, vc]) ⟨d.totals.set k y, d.cells⟩ := by
  obtain ⟨vt, vc', L, ys, e, o1, o2, o3⟩ := h
  cases e
  have hst := (o1.stored k (.int .i64 y)).1
  refine ⟨_, _, L, ys, rfl, ?_, ⟨own_setCellN o2.row go k _ (ne_of_apart (apart_ty o2.row o1 (by decide)) rfl), o2.cells, fun j hj => own_setCellN (o2.ints j hj) go k _ (fun hb => o3 j go go hj rfl hb rfl), o2.ord⟩, o3⟩
  show (World.setCell _ _ _).ownsRow b _ 1 _ (d.totals.set k y).length ((d.totals.set k y).map _)
  rw [List.length_set, List.map_set]; exact hst
theorem OwnSt.snocT {w w' : World} {b : Nat} {v v' vc : Value} {d : StatsD} {y : Int} (h : OwnSt b w (.agg #[v, vc]) d) (ho : w'.ownsRow b 3 1 v' (d.totals.length + 1) ((d.totals ++ [y]).map (Value.int .i64)))
    (hg : w.grownBy w' v.ownBlock) (hat : v'.ownBlock = v.ownBlock ∨ v'.ownBlock = some w.heap.size) : OwnSt b w' (.agg #[v', vc]) ⟨d.totals ++ [y], d.cells⟩ := by
  obtain ⟨vt, vc', L, ys, e, o1, o2, o3⟩ := h
  cases e
  refine ⟨_, _, L, ys, rfl, ?_, ⟨o2.row.kept hg (apart_ty o2.row o1 (by decide)), o2.cells, fun j hj => (o2.ints j hj).kept hg (apart_of_ne fun p q hp hq => Ne.symm (o3 j q p hj hq hp)), o2.ord⟩, fun j p q hj hp hq => ?_⟩
  · show w'.ownsRow b _ 1 _ (d.totals ++ [y]).length ((d.totals ++ [y]).map _)
    rw [List.length_append]; exact ho
  · have hq2 := ((o2.ints j hj).lt q hq).2
    rcases hat with hat | hat
    · rw [hat] at hp; exact o3 j p q hj hp hq
    · rw [hat] at hp; cases hp; omega
/-- The first list, told openly. -/
structure Open0 (b : Nat) (w : World) (vt : Value) (gc kc : Nat) (ol : Option Addr) (kl : Nat) (L : Nat → Value) (ys : List Value) (d : StatsD) : Prop where
  tot : w.ownsRow b 3 1 vt d.totals.length (d.totals.map (Value.int .i64))
  sep : SepII b w (.slice (some ⟨gc, 0, none⟩) d.cells.length kc) L ys d.cells d.cells.length
  ne : ∀ j p q, j < d.cells.length → vt.ownBlock = some p → (L j).ownBlock = some q → p ≠ q
  fst : L 0 = .slice ol (il d.cells 0).length kl
  pos : 0 < d.cells.length
theorem OwnSt.open0 {b : Nat} {w : World} {vt : Value} {o2 : Option Addr} {k2 : Nat} {d : StatsD} (h : OwnSt b w (.agg #[vt, .slice o2 d.cells.length k2]) d) (h0 : 0 < d.cells.length) :
    ∃ gc ol kl L ys, o2 = some ⟨gc, 0, none⟩ ∧ Open0 b w vt gc k2 ol kl L ys d := by
  obtain ⟨vt', vc', L, ys, e, p1, p2, p3⟩ := h
  cases e
  obtain ⟨gc, rfl⟩ := own_some8 p2.row h0
  obtain ⟨ol, kl, hL⟩ := own_slice (p2.ints 0 h0)
  exact ⟨gc, ol, kl, L, ys, rfl, p1, p2, p3, hL, h0⟩
theorem Open0.cell {b : Nat} {w : World} {vt : Value} {gc kc : Nat} {ol : Option Addr} {kl : Nat} {L : Nat → Value} {ys : List Value} {d : StatsD} (h : Open0 b w vt gc kc ol kl L ys d) : w.cell? ⟨gc, 0, none⟩ = some (.slice ol (il d.cells 0).length kl) := by
  rw [h.sep.row.cellAt 0 (by rw [Nat.mul_one]; exact h.pos), h.sep.cells 0 h.pos, h.fst]
theorem Open0.frozen {b : Nat} {w : World} {vt : Value} {gc kc : Nat} {ol : Option Addr} {kl : Nat} {L : Nat → Value} {ys : List Value} {d : StatsD} (h : Open0 b w vt gc kc ol kl L ys d) : w.frozen? ⟨gc, 0, none⟩ = false := h.sep.row.frozenAt 0
theorem Open0.own {b : Nat} {w : World} {vt : Value} {gc kc : Nat} {ol : Option Addr} {kl : Nat} {L : Nat → Value} {ys : List Value} {d : StatsD} (h : Open0 b w vt gc kc ol kl L ys d) : OwnSt b w (.agg #[vt, .slice (some ⟨gc, 0, none⟩) d.cells.length kc]) d :=
  ⟨_, _, L, ys, rfl, h.tot, h.sep, h.ne⟩
theorem Open0.below {b : Nat} {w w' : World} {vt : Value} {gc kc : Nat} {ol : Option Addr} {kl : Nat} {L : Nat → Value} {ys : List Value} {d : StatsD} (h : Open0 b w vt gc kc ol kl L ys d) (hb : Below w.heap.size w w') : Open0 b w' vt gc kc ol kl L ys d :=
  ⟨own_below h.tot hb, h.sep.below hb, h.ne, h.fst, h.pos⟩
theorem Open0.curW {b : Nat} {w w' : World} {vt : Value} {gc kc : Nat} {ol : Option Addr} {kl g : Nat} {L : Nat → Value} {ys : List Value} {d : StatsD} (h : Open0 b w vt gc kc ol kl L ys d) (hg : g < b) (hk : w.grownBy w' (some g)) : Open0 b w' vt gc kc ol kl L ys d :=
  ⟨own_curW h.tot hg hk, h.sep.curW hg hk, h.ne, h.fst, h.pos⟩
theorem Open0.lst {b : Nat} {w : World} {vt : Value} {gc kc : Nat} {ol : Option Addr} {kl : Nat} {L : Nat → Value} {ys : List Value} {d : StatsD} (h : Open0 b w vt gc kc ol kl L ys d) : w.ownsRow b 3 1 (.slice ol (il d.cells 0).length kl) (il d.cells 0).length ((il d.cells 0).map (Value.int .i64)) := by
  have := h.sep.ints 0 h.pos
  rwa [h.fst] at this
/-- A cell of the first list is turned. -/
theorem Open0.put {b : Nat} {w : World} {vt : Value} {gc kc gl : Nat} {kl : Nat} {L : Nat → Value} {ys : List Value} {d : StatsD} (h : Open0 b w vt gc kc (some ⟨gl, 0, none⟩) kl L ys d) (k : Nat) (y : Int) :
    OwnSt b (w.setCell ⟨gl, k, none⟩ (.int .i64 y)) (.agg #[vt, .slice (some ⟨gc, 0, none⟩) d.cells.length kc]) ⟨d.totals, d.cells.set 0 ((il d.cells 0).set k y)⟩ := by
  have D : DoneII w b ys L d.cells d.cells.length := ⟨h.sep.cells, h.sep.ints, h.sep.ord⟩
  have D2 := D.put (kk := k) (u := y) h.pos h.pos h.fst
  have hb : (L 0).ownBlock = some gl := by rw [h.fst]; rfl
  refine ⟨_, _, L, ys, rfl, own_setCellN h.tot gl k _ (fun e => h.ne 0 gl gl h.pos e hb rfl), ⟨?_, ?_, ?_, ?_⟩, ?_⟩
  · show (World.setCell _ _ _).ownsRow b _ 1 _ (d.cells.set 0 _).length _
    rw [List.length_set]
    exact own_setCellN h.sep.row gl k _ (ne_of_apart (apart_ty h.sep.row (h.sep.ints 0 h.pos) (by decide)) hb)
  · intro j hj; exact D2.cells j (by simpa using hj)
  · intro j hj; exact D2.ints j (by simpa using hj)
  · intro p q a c hpq hq; exact D2.ord p q a c hpq (by simpa using hq)
  · intro j p q hj; exact h.ne j p q (by simpa using hj)
/-- A longer first list is put in the first one's place. -/
theorem Open0.snoc {b : Nat} {w w' : World} {vt v' : Value} {gc kc : Nat} {ol : Option Addr} {kl : Nat} {L : Nat → Value} {ys : List Value} {d : StatsD} {y : Int} (h : Open0 b w vt gc kc ol kl L ys d)
    (ho : w'.ownsRow b 3 1 v' ((il d.cells 0).length + 1) ((il d.cells 0 ++ [y]).map (Value.int .i64))) (hg : w.grownBy w' (Value.slice ol (il d.cells 0).length kl).ownBlock)
    (hat : v'.ownBlock = (Value.slice ol (il d.cells 0).length kl).ownBlock ∨ v'.ownBlock = some w.heap.size) :
    OwnSt b (w'.setCell ⟨gc, 0, none⟩ v') (.agg #[vt, .slice (some ⟨gc, 0, none⟩) d.cells.length kc]) ⟨d.totals, d.cells.set 0 (il d.cells 0 ++ [y])⟩ := by
  rw [← h.fst] at hg hat
  have row := h.sep.row.kept hg (apart_ty h.sep.row (h.sep.ints 0 h.pos) (by decide))
  have hst := (row.stored 0 v').1
  have htot := h.tot.kept hg (apart_of_ne fun p q hp hq => h.ne 0 p q h.pos hp hq)
  have hyl : 0 < ys.length := by have := h.sep.row.1; have := h.pos; omega
  have hlt : ∀ j, j < d.cells.length → 0 < j → ∀ p q, v'.ownBlock = some p → (L j).ownBlock = some q → p ≠ q := fun j hj h0 p q hp hq => by
    have hq2 := ((h.sep.ints j hj).lt q hq).2
    rcases hat with hat | hat
    · rw [hat] at hp; exact h.sep.ord 0 j p q h0 hj hp hq
    · rw [hat] at hp; cases hp; omega
  refine ⟨_, _, fun j => if j = 0 then v' else L j, ys.set 0 v', rfl, own_setCellN htot gc 0 _ (ne_of_apart (apart_ty htot row (by decide)) rfl), ⟨?_, ?_, ?_, ?_⟩, ?_⟩
  · show (World.setCell _ _ _).ownsRow b _ 1 _ (d.cells.set 0 _).length _
    rw [List.length_set]
    exact hst
  · intro j hj
    have hj' : j < d.cells.length := by simpa using hj
    show (ys.set 0 v')[j]? = some (if j = 0 then v' else L j)
    by_cases e : j = 0
    · subst e; rw [if_pos rfl, List.getElem?_set_self hyl]
    · rw [if_neg e, List.getElem?_set_ne (fun h => e h.symm)]; exact h.sep.cells j hj'
  · intro j hj
    have hj' : j < d.cells.length := by simpa using hj
    show (w'.setCell _ _).ownsRow b _ 1 (if j = 0 then v' else L j) (il (d.cells.set 0 _) j).length ((il (d.cells.set 0 _) j).map _)
    rw [il_set h.pos]
    by_cases e : j = 0
    · rw [if_pos e, if_pos e, List.length_append]
      exact own_setCellN ho gc 0 _ (ne_of_apart (apart_ty ho row (by decide)) rfl)
    · rw [if_neg e, if_neg e]
      have hj2 := (h.sep.ints j hj').kept hg (apart_of_ne fun p q hp hq => Ne.symm (h.sep.ord 0 j q p (by omega) hj' hq hp))
      exact own_setCellN hj2 gc 0 _ (ne_of_apart (apart_ty hj2 row (by decide)) rfl)
  · intro p q x z hpq hq hx hz
    have hq' : q < d.cells.length := by simpa using hq
    replace hx : (if p = 0 then v' else L p).ownBlock = some x := hx
    replace hz : (if q = 0 then v' else L q).ownBlock = some z := hz
    rw [if_neg (by omega)] at hz
    by_cases e : p = 0
    · rw [if_pos e] at hx; exact hlt q hq' (by omega) x z hx hz
    · rw [if_neg e] at hx; exact h.sep.ord p q x z hpq hq' hx hz
  · intro j p q hj hp hq
    have hj' : j < d.cells.length := by simpa using hj
    replace hq : (if j = 0 then v' else L j).ownBlock = some q := hq
    by_cases e : j = 0
    · rw [if_pos e] at hq
      have hp2 := (h.tot.lt p hp).2
      rcases hat with hat | hat
      · rw [hat] at hq; exact h.ne 0 p q h.pos hp hq
      · rw [hat] at hq; cases hq; omega
    · rw [if_neg e] at hq; exact h.ne j p q hj' hp hq
end Go.Proofs.Yteadkdllmeeocaa
/- Draws of chapter 8: counts, right or not. -/
namespace Go.Proofs.Yteadkdllmeeocaa
open Go.RowKit
set_option maxRecDepth 100000
set_option linter.unusedSimpArgs false
theorem tiny_set {n k : Nat} {d : StatsD} (y : Int) (h : tinySt n d) : tinySt n ⟨d.totals.set k y, d.cells⟩ := ⟨by simpa using h.totals, h.cells, h.each⟩
theorem tiny_snoc {n : Nat} {d : StatsD} (y : Int) (h : tinySt n d) : tinySt (n + 1) ⟨d.totals ++ [y], d.cells⟩ := ⟨by have := h.totals; simp; omega, by have := h.cells; show d.cells.length ≤ _; omega, fun c hc => by have := h.each c hc; omega⟩
theorem tiny_cell {n m : Nat} {d : StatsD} {c : List Int} (h : tinySt n d) (hc : c.length ≤ m) (hn : n ≤ m) : tinySt m ⟨d.totals, d.cells.set 0 c⟩ :=
  ⟨by have := h.totals; show d.totals.length ≤ _; omega, by have := h.cells; simp; omega, fun x hx => by
    rcases List.mem_or_eq_of_mem_set hx with hx | rfl
    · have := h.each x hx; omega
    · exact hc⟩
section
variable {w : World}
/-- 'append' as an operation of a region that draws; the block of the answer is told. -/
theorem wp_append_at8 {o : Oper} {a : Act} {K : Act → World → Prop} {Q : Exit → Act → World → Prop} (s x : Operand) (t : TypeId)
    (ho : o.op = .call { callee := .builtin .append, args := #[s, x], argTypes := #[t, t] })
    (base : Nat) (e : TypeId) (i : TypeInfo) (z : Value) (size bytes : Nat) (ht : Try.prog.underlying t = some (.slice e)) (hi : Try.prog.info? e = some i) (hz : i.zero = some z)
    (hsize : i.size = size) (hby : i.bytes = bytes) (hzs : z.cells.size = size) (hsz : 0 < size)
    (v : Value) (n : Nat) (xs : List Value) (hs : a.eval s = v) (hown : w.ownsRow base e size v n xs)
    (ad : Addr) (m c : Nat) (news : List Value) (hx : a.eval x = .slice (some ad) m c) (hl : news.length = m * size) (hnews : ∀ j u, news[j]? = some u → w.cell? (ad.add j) = some u) (h1 : ∀ u ∈ news, u.oneCell' = true)
    (h63 : n + m ≤ maxLen) (hbytes : (n + m) * bytes ≤ 140737488355328) (hbase : base ≤ w.heap.size)
    (h : ∀ v' w', w'.ownsRow base e size v' (n + m) (xs ++ news) → w.grownBy w' v.ownBlock → (v'.ownBlock = v.ownBlock ∨ v'.ownBlock = some w.heap.size) → K (a.put o.dst v') w') :
    o.wp Try.prog a w K Q := by
  obtain ⟨v', w', hr, h2, h3, h4, h5⟩ := run_append_own_at (P := Try.prog) w base t o.type e i z size bytes ht hi hz hsize hby hzs hsz v n xs hown ad m c news hl hnews h1 h63 hbytes hbase
  unfold Oper.wp execOp
  simp only [ho, resolve, invoke, builtin, Sem.run_bind, Sem.run_pure, Result.andThen_ok, List.map_toArray, List.map_cons, List.map_nil, hs, hx, hr]
  exact h v' w' h2 h3 h5
end
set_option maxHeartbeats 6400000 in
theorem draw8_any (g : Nat) (a : Option Addr) (len cap : Nat) (zs : List Int) (vs : Value) (s : SchemaD) (b : Nat) (w : World) (hc : IsCur w g a len cap) (hr : IsRow .u8 w a len cap zs) (hs : OwnS b w vs s) (hgb : g < b) (ht : tinyS s) :
    Calls Try.prog 33 #[.pointer (some ⟨g, 0, none⟩), vs] w fun e w' => ∃ v d, e = .returned v ∧ OwnSt w.heap.size w' v d ∧ tinySt 20 d ∧ IsCur w' g a len cap ∧ w.grownBy w' (some g) := by
  have hgw : g < w.heap.size := hc.lt
  obtain ⟨i0, hi, hi0, hi1, hi2⟩ := info_parts intInfo
  have HR : Hid (∀ w', w.grownBy w' (some g) → IsRow .u8 w' a len cap zs) := fun w' h => hr.aside hc h
  have HTN : Hid (tinyS s) := ht
  obtain ⟨va, vc, rfl, ra, rc⟩ := id hs.at
  obtain ⟨oa, ka, rfl, -, -⟩ := id ra
  obtain ⟨oc, kc, rfl, -, -⟩ := id rc
  clear ra rc ht
  obtain ⟨K1, R, B0⟩ := blk_2 33 36 w #[.slice oa s.attrs.length ka, .slice oc s.classes.length kc] #[.slice none 0 0, .slice none 0 0]
  have gr := grown_of_below B0 (some g)
  have cu := (hc.alloc (.cells #[.slice oa s.attrs.length ka, .slice oc s.classes.length kc] 33)).alloc (.cells #[.slice none 0 0, .slice none 0 0] 36)
  have os := hs.below7 B0
  clear hc hr hs B0
  generalize hW : ((w.alloc (.cells #[.slice oa s.attrs.length ka, .slice oc s.classes.length kc] 33)).alloc (.cells #[.slice none 0 0, .slice none 0 0] 36)) = w0 at K1 R gr cu os
  have hs0 : w.heap.size + 2 = w0.heap.size := by rw [← hW]; simp
  have e1 := right8_any g a len cap zs _ s b w0 cu (HR.out _ gr) os hgb HTN.out
  have j0 : w0.cell? ⟨w.heap.size, 0, none⟩ = some (.slice oa s.attrs.length ka) := K1.cell 0
  have j1 : w0.cell? ⟨w.heap.size, 1, none⟩ = some (.slice oc s.classes.length kc) := K1.cell 1
  clear cu os K1
  go_enter Try.func33, Try.ntmps33
  go_wp2_with fail
  refine e1.mono ?_
  clear e1 j0 j1 hW
  rintro e w1 ⟨v1, d, rfl, o, ts, cu, h1⟩
  obtain ⟨o1, k1, o2, k2, rfl⟩ := o.form
  replace o := o.base (show w.heap.size + 2 ≤ w0.heap.size by omega)
  replace R := R.kept h1 (by intro e; injection e; omega)
  replace gr := grown_trans gr h1
  have hs1 := h1.size
  clear h1
  obtain ⟨T, BX⟩ := blk_1 36 w1 #[.slice o1 d.totals.length k1, .slice o2 d.cells.length k2]
  replace R := R.below BX
  replace o := o.below BX
  replace cu := cu.kept (grown_of_below BX) (by intro e; cases e)
  replace gr := grown_trans gr (grown_of_below BX _)
  clear BX
  generalize hX : w1.alloc (.cells #[.slice o1 d.totals.length k1, .slice o2 d.cells.length k2] 36) = wx at T R o cu gr
  have e1 := l1Below_any g a len cap zs 14 wx cu (HR.out _ gr) (by decide) (by decide)
  go_wp2_with fail
  refine e1.mono ?_
  clear e1 hX cu
  rintro e w2 ⟨t, rfl, ht14, cu, h2⟩
  replace R := R.kept h2 (by intro e; injection e; omega)
  replace T := T.kept h2 (by intro e; injection e; omega)
  replace o := o.curW (by omega) h2
  replace gr := grown_trans gr h2
  clear h2
  have htb : w.heap.size + 2 ≤ w1.heap.size := by omega
  obtain ⟨tb, htb'⟩ : ∃ tb, w1.heap.size = tb := ⟨_, rfl⟩
  rw [htb'] at T htb ⊢
  clear htb' hs1 hs0
  have lt := ts.totals
  have lc := ts.cells
  have q0 : w2.cell? ⟨tb, 0, none⟩ = some (.slice o1 d.totals.length k1) := T.cell 0
  have q1 : w2.cell? ⟨tb, 1, none⟩ = some (.slice o2 d.cells.length k2) := T.cell 1
  by_cases t0 : t = 0
  · subst t0
    by_cases hl : 0 < d.totals.length
    rotate_left
    · have hlz : ¬ (0 : Int) < (d.totals.length : Int) := by omega
      replace ts := ts.up (show 16 ≤ 20 by omega)
      go_wp2_with (first | (with_reducible refine wp_st_load rfl _ rfl ?_; refine ⟨_, rfl, _, _, T, ?_⟩) | (with_reducible refine wp_st_store rfl _ _ rfl ?_; refine ⟨_, rfl, _, _, _, _, _, _, rfl, _, _, R, ?_⟩))
      exact bodyPost_ret (res_st rfl _ _ _ _ _ rfl (R.setRow _)) rfl ⟨_, _, rfl, (o.base (by omega)).rowB R (by decide) (by decide) _, ts, cu.rowW _ (by omega), grown_row gr (by omega) _⟩
    have hlz : (0 : Int) < (d.totals.length : Int) := by omega
    obtain ⟨go, rfl⟩ : ∃ go, o1 = some ⟨go, 0, none⟩ := by
      obtain ⟨vt, vc, L, ys, e, p1, -, -⟩ := id o
      cases e
      exact own_some8 p1 hl
    go_wp2_with fail
    refine region_L (S := fun w' => Blk 36 w' tb #[.slice (some ⟨go, 0, none⟩) d.totals.length k1, .slice o2 d.cells.length k2]) (last := 6) (by kernel_rfl) ?_
    have bd : Below w2.heap.size w2 w2.drew := below_drewN (Below.refl _ _) 1
    replace T := T.below bd
    replace R := R.below bd
    replace o := o.below bd
    replace cu := cu.kept (grown_of_below bd) (by intro e; cases e)
    replace gr := grown_trans gr (grown_of_below bd _)
    clear bd q0 q1
    have hS := T
    generalize w2.drew = w3 at *
    refine firstL 0 (.pointer (some ⟨tb, 0, none⟩)) rfl (by kernel_rfl) (by kernel_rfl) (by kernel_rfl) (fun _ _ _ h => h) (by kernel_rfl) (.inl ⟨by rfl, fun w hw => by (unfold execOp; go_simp)⟩) hS ?_
    try simp only [Act.put, List.setIfInBounds_toArray, List.set_cons_zero, List.set_cons_succ]
    refine firstL 1 (.slice (some ⟨go, 0, none⟩) d.totals.length k1) rfl (by kernel_rfl) (by kernel_rfl) (by kernel_rfl) (fun _ _ _ h => h) (by kernel_rfl) (.inl ⟨by rfl, fun w hw => by have h := hw.cell 0; unfold execOp; go_simp⟩) hS ?_
    try simp only [Act.put, List.setIfInBounds_toArray, List.set_cons_zero, List.set_cons_succ]
    refine firstL 2 (.pointer (some ⟨g, 0, none⟩)) rfl (by kernel_rfl) (by kernel_rfl) (by kernel_rfl) (fun _ _ _ h => h) (by kernel_rfl) (.inl ⟨by rfl, fun w hw => by rfl⟩) hS ?_
    try simp only [Act.put, List.setIfInBounds_toArray, List.set_cons_zero, List.set_cons_succ]
    have e1 := pickN [-1, 999, 998, 1000, 9223372036854775807] g a len cap zs w3 cu (HR.out _ gr) (by simp) (by simp)
    simp only [List.map_cons, List.map_nil, List.length_cons, List.length_nil, Nat.zero_add, Nat.reduceAdd] at e1
    have bn : Below w3.heap.size w3 (w3.alloc (.cells #[.int .i64 (-1), .int .i64 999, .int .i64 998, .int .i64 1000, .int .i64 9223372036854775807] 3)) := (Below.refl _ _).alloc (Nat.le_refl _) _
    refine stepL 3 rfl (by kernel_rfl) (by rfl) fun K hK => ?_
    go_simp
    refine hK _ _ (hS.below bn) ?_
    clear hK K bn
    refine stepL 4 rfl (by kernel_rfl) (by rfl) fun K hK => ?_
    go_simp
    refine e1.mono ?_
    clear e1 cu
    rintro e w4 ⟨y, rfl, -, cu, h4⟩
    replace R := R.kept h4 (by intro e; injection e; omega)
    replace T := T.kept h4 (by intro e; injection e; omega)
    replace o := o.curW (by omega) h4
    replace gr := grown_trans gr h4
    replace hS := T
    refine hK _ _ hS ?_
    clear hK K h4
    refine firstL 5 (.pointer (some ⟨go, 0, none⟩)) rfl (by kernel_rfl) (by kernel_rfl) (by kernel_rfl) (fun _ _ _ h => h) (by kernel_rfl) (.inl ⟨by rfl, fun w hw => by (unfold execOp; go_simp; all_goals omega)⟩) hS ?_
    try simp only [Act.put, List.setIfInBounds_toArray, List.set_cons_zero, List.set_cons_succ]
    refine lastL rfl (by kernel_rfl) (by kernel_rfl) (by rfl) ?_
    obtain ⟨old, hold⟩ : ∃ old, w4.cell? ⟨go, 0, none⟩ = some old := by
      obtain ⟨vt, vc, L, ys, e, p1, -, -⟩ := id o
      cases e
      exact ⟨_, (p1.cellAt 0 (by omega)).trans (List.getElem?_eq_getElem (by simp; omega))⟩
    have f4 : w4.frozen? ⟨go, 0, none⟩ = false := by
      obtain ⟨vt, vc, L, ys, e, p1, -, -⟩ := id o
      cases e
      exact p1.frozenAt 0
    go_simp
    have hne : tb ≠ go ∧ w.heap.size + 1 ≠ go := by
      obtain ⟨vt, vc, L, ys, e, p1, -, -⟩ := id o
      cases e
      exact ⟨fun e => own_ne_blk p1 T (by decide) (by rw [e]; rfl), fun e => own_ne_blk p1 R (by decide) (by rw [e]; rfl)⟩
    have hgo : w.heap.size + 2 ≤ go := by
      obtain ⟨vt, vc, L, ys, e, p1, -, -⟩ := id o
      cases e
      exact (p1.lt go rfl).1
    replace T := T.setCell_other ⟨go, 0, none⟩ (.int .i64 y) (Ne.symm hne.1)
    replace R := R.setCell_other ⟨go, 0, none⟩ (.int .i64 y) (Ne.symm hne.2)
    replace o := o.putT 0 y
    replace cu := cu.cellW (p := go) 0 (.int .i64 y) (by omega)
    replace gr := grown_cell gr (p := go) (k := 0) (by omega) (.int .i64 y)
    replace ts := (tiny_set (k := 0) y ts).up (show 16 ≤ 20 by omega)
    clear hold f4 hne hgo hS
    generalize w4.setCell ⟨go, 0, none⟩ (.int .i64 y) = w5 at *
    go_wp2_with (first | (with_reducible refine wp_st_load rfl _ rfl ?_; refine ⟨_, rfl, _, _, T, ?_⟩) | (with_reducible refine wp_st_store rfl _ _ rfl ?_; refine ⟨_, rfl, _, _, _, _, _, _, rfl, _, _, R, ?_⟩))
    exact bodyPost_ret (res_st rfl _ _ _ _ _ rfl (R.setRow _)) rfl ⟨_, _, rfl, (o.base (by omega)).rowB R (by decide) (by decide) _, ts, cu.rowW _ (by omega), grown_row gr (by omega) _⟩
  have b0 : ((t : Int) == 0) = false := by rw [beq_eq_false_iff_ne]; omega
  by_cases t1 : t = 1
  · subst t1
    obtain ⟨vt9, vc9, L9, ys9, e9, p1, p2, p3⟩ := id o
    cases e9
    have hn4 := p1
    go_wp2_with (at_builtin; refine wpList_append_own_at _ rfl _ _ 24 rfl (w.heap.size + 2) 3 i0 (.int .i64 0) 1 8 Try.underlying24 hi hi0 hi1 hi2 rfl (by decide) _ _ _ rfl (p1.alloc _) ⟨w2.heap.size, 0, none⟩ 1 1 [_] rfl rfl (newc _ _ _) ?d2 ?d3 ?d4 ?d5 ?_)
    case d2 => intro u hu; simp at hu; subst hu; rfl
    case d3 => unfold maxLen; omega
    case d4 => omega
    case d5 => have := T.lt; simp; omega
    intro v' w5 hown' hgrow _ hat
    have bn : Below w2.heap.size w2 (w2.alloc (.cells #[.int .i64 0] 3)) := (Below.refl _ _).alloc (Nat.le_refl _) _
    have o5 := (o.below bn).snocT (by simpa using hown') hgrow (by rw [World.size_alloc]; exact hat)
    have hvo : ∀ j, (Value.slice o1 d.totals.length k1).ownBlock = some j → w.heap.size + 2 ≤ j ∧ j ≠ tb := fun j hj => ⟨(p1.lt j hj).1, fun e => own_ne_blk p1 T (by decide) (by rw [hj, e])⟩
    have T5 := (T.below bn).kept hgrow (fun e => (hvo _ e).2 rfl)
    have R5 := (R.below bn).kept hgrow (fun e => by have := (hvo _ e).1; omega)
    have cu5 := (cu.kept (grown_of_below bn) (by intro e; cases e)).kept hgrow (fun e => by have := (hvo _ e).1; omega)
    have gr5 := grown_own (grown_trans gr (grown_of_below bn _)) hgrow (fun j e => by have := (hvo _ e).1; omega)
    obtain ⟨ov, cv, rfl⟩ := own_slice hown'
    clear p1 p2 p3 hn4 hown' hgrow hat bn hvo o T R cu gr q0 q1
    have q5 : w5.cell? ⟨tb, 0, none⟩ = some (.slice o1 d.totals.length k1) := T5.cell 0
    have f5 := T5.frozen 0
    replace ts := (tiny_snoc 0 ts).up (show 16 + 1 ≤ 20 by omega)
    have T := T5.setCell 0 (.slice ov (d.totals.length + 1) cv)
    have R := R5.setCell_other ⟨tb, 0, none⟩ (.slice ov (d.totals.length + 1) cv) (show tb ≠ w.heap.size + 1 by omega)
    have o := o5.cellB T5 (by decide) (by decide) 0 (.slice ov (d.totals.length + 1) cv)
    have cu := cu5.cellW (p := tb) 0 (.slice ov (d.totals.length + 1) cv) (by omega)
    have gr := grown_cell gr5 (p := tb) (k := 0) (by omega) (.slice ov (d.totals.length + 1) cv)
    clear T5 R5 o5 cu5 gr5
    go_wp2_with (first | (with_reducible refine wp_st_load rfl _ rfl ?_; refine ⟨_, rfl, _, _, T, ?_⟩) | (with_reducible refine wp_st_store rfl _ _ rfl ?_; refine ⟨_, rfl, _, _, _, _, _, _, rfl, _, _, R, ?_⟩))
    exact bodyPost_ret (res_st rfl _ _ _ _ _ rfl (R.setRow _)) rfl ⟨_, _, rfl, (o.base (by omega)).rowB R (by decide) (by decide) _, ts, cu.rowW _ (by omega), grown_row gr (by omega) _⟩
  have b1 : ((t : Int) == 1) = false := by rw [beq_eq_false_iff_ne]; omega
  by_cases t2 : t = 2
  · subst t2
    by_cases hl : 0 < d.cells.length
    rotate_left
    · have hlz : ¬ (0 : Int) < (d.cells.length : Int) := by omega
      replace ts := ts.up (show 16 ≤ 20 by omega)
      go_wp2_with (first | (with_reducible refine wp_st_load rfl _ rfl ?_; refine ⟨_, rfl, _, _, T, ?_⟩) | (with_reducible refine wp_st_store rfl _ _ rfl ?_; refine ⟨_, rfl, _, _, _, _, _, _, rfl, _, _, R, ?_⟩))
      exact bodyPost_ret (res_st rfl _ _ _ _ _ rfl (R.setRow _)) rfl ⟨_, _, rfl, (o.base (by omega)).rowB R (by decide) (by decide) _, ts, cu.rowW _ (by omega), grown_row gr (by omega) _⟩
    have hlz : (0 : Int) < (d.cells.length : Int) := by omega
    obtain ⟨gc, ol, kl, L, ys, rfl, H⟩ := o.open0 hl
    have q2 := H.cell
    by_cases hm : 0 < (il d.cells 0).length
    rotate_left
    · have hmz : ¬ (0 : Int) < ((il d.cells 0).length : Int) := by omega
      replace ts := ts.up (show 16 ≤ 20 by omega)
      go_wp2_with (first | (with_reducible refine wp_st_load rfl _ rfl ?_; refine ⟨_, rfl, _, _, T, ?_⟩) | (with_reducible refine wp_st_store rfl _ _ rfl ?_; refine ⟨_, rfl, _, _, _, _, _, _, rfl, _, _, R, ?_⟩))
      exact bodyPost_ret (res_st rfl _ _ _ _ _ rfl (R.setRow _)) rfl ⟨_, _, rfl, (o.base (by omega)).rowB R (by decide) (by decide) _, ts, cu.rowW _ (by omega), grown_row gr (by omega) _⟩
    have hmz : (0 : Int) < ((il d.cells 0).length : Int) := by omega
    have hm20 := ts.each _ (il_mem hl)
    clear o
    obtain ⟨gl, rfl⟩ : ∃ gl, ol = some ⟨gl, 0, none⟩ := own_some8 H.lst hm
    go_wp2_with fail
    refine region_L (S := fun w' => Blk 36 w' tb #[.slice o1 d.totals.length k1, .slice (some ⟨gc, 0, none⟩) d.cells.length k2] ∧ w'.cell? ⟨gc, 0, none⟩ = some (.slice (some ⟨gl, 0, none⟩) (il d.cells 0).length kl)) (last := 8) (by kernel_rfl) ?_
    have bd : Below w2.heap.size w2 w2.drew := below_drewN (Below.refl _ _) 1
    replace T := T.below bd
    replace R := R.below bd
    replace H := H.below bd
    replace cu := cu.kept (grown_of_below bd) (by intro e; cases e)
    replace gr := grown_trans gr (grown_of_below bd _)
    clear bd q0 q1
    clear q2
    have hS : Blk 36 w2.drew tb #[.slice o1 d.totals.length k1, .slice (some ⟨gc, 0, none⟩) d.cells.length k2] ∧ w2.drew.cell? ⟨gc, 0, none⟩ = some (.slice (some ⟨gl, 0, none⟩) (il d.cells 0).length kl) := ⟨T, H.cell⟩
    generalize w2.drew = w3 at *
    refine firstL 0 (.pointer (some ⟨tb, 1, none⟩)) rfl (by kernel_rfl) (by kernel_rfl) (by kernel_rfl) (fun _ _ _ h => h) (by kernel_rfl) (.inl ⟨by rfl, fun w hw => by (unfold execOp; go_simp)⟩) hS ?_
    try simp only [Act.put, List.setIfInBounds_toArray, List.set_cons_zero, List.set_cons_succ]
    refine firstL 1 (.slice (some ⟨gc, 0, none⟩) d.cells.length k2) rfl (by kernel_rfl) (by kernel_rfl) (by kernel_rfl) (fun _ _ _ h => h) (by kernel_rfl) (.inl ⟨by rfl, fun w hw => by have h := hw.1.cell 1; unfold execOp; go_simp⟩) hS ?_
    try simp only [Act.put, List.setIfInBounds_toArray, List.set_cons_zero, List.set_cons_succ]
    refine firstL 2 (.pointer (some ⟨gc, 0, none⟩)) rfl (by kernel_rfl) (by kernel_rfl) (by kernel_rfl) (fun _ _ _ h => h) (by kernel_rfl) (.inl ⟨by rfl, fun w hw => by (unfold execOp; go_simp; all_goals omega)⟩) hS ?_
    try simp only [Act.put, List.setIfInBounds_toArray, List.set_cons_zero, List.set_cons_succ]
    refine firstL 3 (.slice (some ⟨gl, 0, none⟩) (il d.cells 0).length kl) rfl (by kernel_rfl) (by kernel_rfl) (by kernel_rfl) (fun _ _ _ h => h) (by kernel_rfl) (.inl ⟨by rfl, fun w hw => by have h := hw.2; unfold execOp; go_simp⟩) hS ?_
    try simp only [Act.put, List.setIfInBounds_toArray, List.set_cons_zero, List.set_cons_succ]
    refine firstL 4 (.pointer (some ⟨g, 0, none⟩)) rfl (by kernel_rfl) (by kernel_rfl) (by kernel_rfl) (fun _ _ _ h => h) (by kernel_rfl) (.inl ⟨by rfl, fun w hw => by rfl⟩) hS ?_
    try simp only [Act.put, List.setIfInBounds_toArray, List.set_cons_zero, List.set_cons_succ]
    have e1 := pickN [-1, 500, 1000] g a len cap zs w3 cu (HR.out _ gr) (by simp) (by simp)
    simp only [List.map_cons, List.map_nil, List.length_cons, List.length_nil, Nat.zero_add, Nat.reduceAdd] at e1
    have bn : Below w3.heap.size w3 (w3.alloc (.cells #[.int .i64 (-1), .int .i64 500, .int .i64 1000] 3)) := (Below.refl _ _).alloc (Nat.le_refl _) _
    refine stepL 5 rfl (by kernel_rfl) (by rfl) fun K hK => ?_
    go_simp
    refine hK _ _ (⟨hS.1.below bn, (H.below bn).cell⟩) ?_
    clear hK K bn
    refine stepL 6 rfl (by kernel_rfl) (by rfl) fun K hK => ?_
    go_simp
    refine e1.mono ?_
    clear e1 cu
    rintro e w4 ⟨y, rfl, -, cu, h4⟩
    replace R := R.kept h4 (by intro e; injection e; omega)
    replace T := T.kept h4 (by intro e; injection e; omega)
    replace H := H.curW (by omega) h4
    replace gr := grown_trans gr h4
    replace hS := And.intro T H.cell
    refine hK _ _ hS ?_
    clear hK K h4
    refine firstL 7 (.pointer (some ⟨gl, 0, none⟩)) rfl (by kernel_rfl) (by kernel_rfl) (by kernel_rfl) (fun _ _ _ h => h) (by kernel_rfl) (.inl ⟨by rfl, fun w hw => by (unfold execOp; go_simp; all_goals omega)⟩) hS ?_
    try simp only [Act.put, List.setIfInBounds_toArray, List.set_cons_zero, List.set_cons_succ]
    refine lastL rfl (by kernel_rfl) (by kernel_rfl) (by rfl) ?_
    obtain ⟨old, hold⟩ : ∃ old, w4.cell? ⟨gl, 0, none⟩ = some old := ⟨_, (H.lst.cellAt 0 (by omega)).trans (List.getElem?_eq_getElem (by simp; omega))⟩
    have f4 : w4.frozen? ⟨gl, 0, none⟩ = false := H.lst.frozenAt 0
    go_simp
    have hne1 : tb ≠ gl := fun e => own_ne_blk H.lst T (by decide) (by rw [e]; rfl)
    have hgo : w.heap.size + 2 ≤ gl := (H.lst.lt gl rfl).1
    replace T := T.setCell_other ⟨gl, 0, none⟩ (.int .i64 y) (Ne.symm hne1)
    replace R := R.setCell_other ⟨gl, 0, none⟩ (.int .i64 y) (show gl ≠ w.heap.size + 1 by omega)
    have o := H.put 0 y
    replace cu := cu.cellW (p := gl) 0 (.int .i64 y) (by omega)
    replace gr := grown_cell gr (p := gl) (k := 0) (by omega) (.int .i64 y)
    replace ts := tiny_cell (c := (il d.cells 0).set 0 y) (m := 20) ts (by rw [List.length_set]; omega) (by omega)
    clear hold f4 hne1 hgo hS H
    generalize w4.setCell ⟨gl, 0, none⟩ (.int .i64 y) = w5 at *
    rw [show d.cells.length = (d.cells.set 0 ((il d.cells 0).set 0 y)).length by rw [List.length_set]] at T o
    go_wp2_with (first | (with_reducible refine wp_st_load rfl _ rfl ?_; refine ⟨_, rfl, _, _, T, ?_⟩) | (with_reducible refine wp_st_store rfl _ _ rfl ?_; refine ⟨_, rfl, _, _, _, _, _, _, rfl, _, _, R, ?_⟩))
    exact bodyPost_ret (res_st rfl _ _ _ _ _ rfl (R.setRow _)) rfl ⟨_, _, rfl, (o.base (by omega)).rowB R (by decide) (by decide) _, ts, cu.rowW _ (by omega), grown_row gr (by omega) _⟩
  have b2 : ((t : Int) == 2) = false := by rw [beq_eq_false_iff_ne]; omega
  by_cases t3 : t = 3
  · subst t3
    by_cases hl : 0 < d.cells.length
    rotate_left
    · have hlz : ¬ (0 : Int) < (d.cells.length : Int) := by omega
      replace ts := ts.up (show 16 ≤ 20 by omega)
      go_wp2_with (first | (with_reducible refine wp_st_load rfl _ rfl ?_; refine ⟨_, rfl, _, _, T, ?_⟩) | (with_reducible refine wp_st_store rfl _ _ rfl ?_; refine ⟨_, rfl, _, _, _, _, _, _, rfl, _, _, R, ?_⟩))
      exact bodyPost_ret (res_st rfl _ _ _ _ _ rfl (R.setRow _)) rfl ⟨_, _, rfl, (o.base (by omega)).rowB R (by decide) (by decide) _, ts, cu.rowW _ (by omega), grown_row gr (by omega) _⟩
    have hlz : (0 : Int) < (d.cells.length : Int) := by omega
    obtain ⟨gc, ol, kl, L, ys, rfl, H⟩ := o.open0 hl
    have hm20 := ts.each _ (il_mem hl)
    clear o
    go_wp2_with fail
    refine region_L (S := fun w' => Blk 36 w' tb #[.slice o1 d.totals.length k1, .slice (some ⟨gc, 0, none⟩) d.cells.length k2] ∧ w'.cell? ⟨gc, 0, none⟩ = some (.slice ol (il d.cells 0).length kl)) (last := 9) (by kernel_rfl) ?_
    have bd : Below w2.heap.size w2 w2.drew := below_drewN (Below.refl _ _) 1
    replace T := T.below bd
    replace R := R.below bd
    replace H := H.below bd
    replace cu := cu.kept (grown_of_below bd) (by intro e; cases e)
    replace gr := grown_trans gr (grown_of_below bd _)
    clear bd q0 q1
    have hS : Blk 36 w2.drew tb #[.slice o1 d.totals.length k1, .slice (some ⟨gc, 0, none⟩) d.cells.length k2] ∧ w2.drew.cell? ⟨gc, 0, none⟩ = some (.slice ol (il d.cells 0).length kl) := ⟨T, H.cell⟩
    generalize w2.drew = w3 at *
    refine firstL 0 (.pointer (some ⟨tb, 1, none⟩)) rfl (by kernel_rfl) (by kernel_rfl) (by kernel_rfl) (fun _ _ _ h => h) (by kernel_rfl) (.inl ⟨by rfl, fun w hw => by (unfold execOp; go_simp)⟩) hS ?_
    try simp only [Act.put, List.setIfInBounds_toArray, List.set_cons_zero, List.set_cons_succ]
    refine firstL 1 (.slice (some ⟨gc, 0, none⟩) d.cells.length k2) rfl (by kernel_rfl) (by kernel_rfl) (by kernel_rfl) (fun _ _ _ h => h) (by kernel_rfl) (.inl ⟨by rfl, fun w hw => by have h := hw.1.cell 1; unfold execOp; go_simp⟩) hS ?_
    try simp only [Act.put, List.setIfInBounds_toArray, List.set_cons_zero, List.set_cons_succ]
    refine firstL 2 (.pointer (some ⟨tb, 1, none⟩)) rfl (by kernel_rfl) (by kernel_rfl) (by kernel_rfl) (fun _ _ _ h => h) (by kernel_rfl) (.inl ⟨by rfl, fun w hw => by (unfold execOp; go_simp)⟩) hS ?_
    try simp only [Act.put, List.setIfInBounds_toArray, List.set_cons_zero, List.set_cons_succ]
    refine firstL 3 (.slice (some ⟨gc, 0, none⟩) d.cells.length k2) rfl (by kernel_rfl) (by kernel_rfl) (by kernel_rfl) (fun _ _ _ h => h) (by kernel_rfl) (.inl ⟨by rfl, fun w hw => by have h := hw.1.cell 1; unfold execOp; go_simp⟩) hS ?_
    try simp only [Act.put, List.setIfInBounds_toArray, List.set_cons_zero, List.set_cons_succ]
    refine firstL 4 (.pointer (some ⟨gc, 0, none⟩)) rfl (by kernel_rfl) (by kernel_rfl) (by kernel_rfl) (fun _ _ _ h => h) (by kernel_rfl) (.inl ⟨by rfl, fun w hw => by (unfold execOp; go_simp; all_goals omega)⟩) hS ?_
    try simp only [Act.put, List.setIfInBounds_toArray, List.set_cons_zero, List.set_cons_succ]
    refine firstL 5 (.slice ol (il d.cells 0).length kl) rfl (by kernel_rfl) (by kernel_rfl) (by kernel_rfl) (fun _ _ _ h => h) (by kernel_rfl) (.inl ⟨by rfl, fun w hw => by have h := hw.2; unfold execOp; go_simp⟩) hS ?_
    try simp only [Act.put, List.setIfInBounds_toArray, List.set_cons_zero, List.set_cons_succ]
    have bn : Below w3.heap.size w3 (w3.alloc (.cells #[.int .i64 0] 3)) := (Below.refl _ _).alloc (Nat.le_refl _) _
    refine stepL 6 rfl (by kernel_rfl) (by rfl) fun K hK => ?_
    go_simp
    refine hK _ _ ⟨hS.1.below bn, (H.below bn).cell⟩ ?_
    clear hK K
    have HB := H.below bn
    refine stepL 7 rfl (by kernel_rfl) (by rfl) fun K hK => ?_
    refine wp_append_at8 _ _ 24 rfl (w.heap.size + 2) 3 i0 (.int .i64 0) 1 8 Try.underlying24 hi hi0 hi1 hi2 rfl (by decide) _ _ _ rfl HB.lst ⟨w3.heap.size, 0, none⟩ 1 1 [.int .i64 0] rfl rfl (cell_one_new _ _ _) (by intro u hu; simp at hu; subst hu; rfl) (by unfold maxLen; omega) (by omega) (by have := T.lt; simp; omega) ?_
    intro v' w5 hown' hgrow hat
    have hvo : ∀ j, (Value.slice ol (il d.cells 0).length kl).ownBlock = some j → w.heap.size + 2 ≤ j ∧ j ≠ tb := fun j hj => ⟨(H.lst.lt j hj).1, fun e => own_ne_blk H.lst T (by decide) (by rw [hj, e])⟩
    have T5 := (T.below bn).kept hgrow (fun e => (hvo _ e).2 rfl)
    have R5 := (R.below bn).kept hgrow (fun e => by have := (hvo _ e).1; omega)
    have cu5 := (cu.kept (grown_of_below bn) (by intro e; cases e)).kept hgrow (fun e => by have := (hvo _ e).1; omega)
    have gr5 := grown_own (grown_trans gr (grown_of_below bn _)) hgrow (fun j e => by have := (hvo _ e).1; omega)
    obtain ⟨ov, cv, rfl⟩ := own_slice hown'
    have row5 := HB.sep.row.kept hgrow (by have := apart_ty HB.sep.row HB.lst (by decide); exact this)
    have c5 : w5.cell? ⟨gc, 0, none⟩ = some (.slice ol (il d.cells 0).length kl) := by
      rw [row5.cellAt 0 (by omega), HB.sep.cells 0 hl, HB.fst]
    have f5 : w5.frozen? ⟨gc, 0, none⟩ = false := row5.frozenAt 0
    have hgc : w.heap.size + 2 ≤ gc ∧ gc ≠ tb := ⟨(H.sep.row.lt gc rfl).1, fun e => own_ne_blk H.sep.row T (by decide) (by rw [e]; rfl)⟩
    have o := HB.snoc (by simpa using hown') hgrow hat
    refine hK _ _ ⟨T5, c5⟩ ?_
    replace hS : Blk 36 w5 tb #[.slice o1 d.totals.length k1, .slice (some ⟨gc, 0, none⟩) d.cells.length k2] ∧ w5.cell? ⟨gc, 0, none⟩ = some (.slice ol (il d.cells 0).length kl) := ⟨T5, c5⟩
    clear hK K hvo hgrow hat hown' HB H T R cu gr bn row5
    refine firstL 8 (.pointer (some ⟨gc, 0, none⟩)) rfl (by kernel_rfl) (by kernel_rfl) (by kernel_rfl) (fun _ _ _ h => h) (by kernel_rfl) (.inl ⟨by rfl, fun w hw => by (unfold execOp; go_simp; all_goals omega)⟩) hS ?_
    try simp only [Act.put, List.setIfInBounds_toArray, List.set_cons_zero, List.set_cons_succ]
    refine lastL rfl (by kernel_rfl) (by kernel_rfl) (by rfl) ?_
    go_simp
    have T := T5.setCell_other ⟨gc, 0, none⟩ (.slice ov ((il d.cells 0).length + 1) cv) hgc.2
    have R := R5.setCell_other ⟨gc, 0, none⟩ (.slice ov ((il d.cells 0).length + 1) cv) (show gc ≠ w.heap.size + 1 by omega)
    have cu := cu5.cellW (p := gc) 0 (.slice ov ((il d.cells 0).length + 1) cv) (by omega)
    have gr := grown_cell gr5 (p := gc) (k := 0) (by omega) (.slice ov ((il d.cells 0).length + 1) cv)
    replace ts := tiny_cell (c := il d.cells 0 ++ [0]) (m := 20) ts (by rw [List.length_append]; simp; omega) (by omega)
    clear c5 f5 hgc hS T5 R5 cu5 gr5
    generalize w5.setCell ⟨gc, 0, none⟩ (.slice ov ((il d.cells 0).length + 1) cv) = w6 at *
    rw [show d.cells.length = (d.cells.set 0 (il d.cells 0 ++ [0])).length by rw [List.length_set]] at T o
    go_wp2_with (first | (with_reducible refine wp_st_load rfl _ rfl ?_; refine ⟨_, rfl, _, _, T, ?_⟩) | (with_reducible refine wp_st_store rfl _ _ rfl ?_; refine ⟨_, rfl, _, _, _, _, _, _, rfl, _, _, R, ?_⟩))
    exact bodyPost_ret (res_st rfl _ _ _ _ _ rfl (R.setRow _)) rfl ⟨_, _, rfl, (o.base (by omega)).rowB R (by decide) (by decide) _, ts, cu.rowW _ (by omega), grown_row gr (by omega) _⟩
  have b3 : ((t : Int) == 3) = false := by rw [beq_eq_false_iff_ne]; omega
  replace ts := ts.up (show 16 ≤ 20 by omega)
  clear t0 t1 t2 t3 q0 q1
  go_wp2_with (first | (with_reducible refine wp_st_load rfl _ rfl ?_; refine ⟨_, rfl, _, _, T, ?_⟩) | (with_reducible refine wp_st_store rfl _ _ rfl ?_; refine ⟨_, rfl, _, _, _, _, _, _, rfl, _, _, R, ?_⟩))
  exact bodyPost_ret (res_st rfl _ _ _ _ _ rfl (R.setRow _)) rfl ⟨_, _, rfl, (o.base (by omega)).rowB R (by decide) (by decide) _, ts, cu.rowW _ (by omega), grown_row gr (by omega) _⟩
end Go.Proofs.Yteadkdllmeeocaa
/- Beside the draws of several structs. -/
namespace Go.Proofs.Yteadkdllmeeocaa
open Go.RowKit
set_option maxRecDepth 100000
set_option linter.unusedSimpArgs false
theorem OwnS.rowX {w : World} {b k : Nat} {v : Value} {s : SchemaD} (c : Array Value) (h : OwnS b w v s) (hk : k < b) : OwnS b (w.setRow k c) v s := by
  obtain ⟨va, vc, rfl, h1, h2⟩ := h
  exact ⟨va, vc, rfl, h1.setRow k c hk, own_setRow h2 k c hk⟩
theorem OwnS.baseX {w : World} {b b' : Nat} {v : Value} {s : SchemaD} (h : OwnS b w v s) (hb : b' ≤ b) : OwnS b' w v s := by
  obtain ⟨va, vc, rfl, h1, h2⟩ := h
  exact ⟨va, vc, rfl, h1.base hb, own_base h2 hb⟩
theorem OwnE.rowX {w : World} {b k : Nat} {v : Value} {s : ExD} (c : Array Value) (h : OwnE b w v s) (hk : k < b) : OwnE b (w.setRow k c) v s := by
  obtain ⟨vb, rfl, h1⟩ := h
  exact ⟨vb, rfl, own_setRow h1 k c hk⟩
theorem OwnE.baseX {w : World} {b b' : Nat} {v : Value} {s : ExD} (h : OwnE b w v s) (hb : b' ≤ b) : OwnE b' w v s := by
  obtain ⟨vb, rfl, h1⟩ := h
  exact ⟨vb, rfl, own_base h1 hb⟩
theorem tinyS.okX {d : SchemaD} (h : tinyS d) : okSch d :=
  ⟨by have := h.attrs; omega, fun a ha => (h.each a ha).ok7, by have := h.classes; omega, fun s hs => by have := h.sizes s hs; omega⟩
theorem yields_mvX {ops : Array Oper} {S : World → Prop} {op : Oper} {a : Act} (hw : Region.wanted op (yielded ops a.tmps) = true) (x : Operand) (ho : op.op = .move x) (v : Value) (hx : a.eval x = v) : YieldsIf Try.prog ops S op v a :=
  .inl ⟨hw, fun w _ => by unfold execOp; simp only [ho, hx]; go_simp⟩
theorem res_se {fn : Func} {p q : Tmp} (h : fn.results = #[.cell p 33, .cell q 101]) (tmps : Array Value) (w : World) (g k : Nat) (c0 c1 d0 d1 : Value)
    (hp : tmps.getD p undef = .pointer (some ⟨g, 0, none⟩)) (hq : tmps.getD q undef = .pointer (some ⟨k, 0, none⟩)) (hg : Blk 33 w g #[c0, c1]) (hk : Blk 101 w k #[d0, d1]) : (results fn tmps).run Try.prog w = .ok (.tuple #[.agg #[c0, c1], .agg #[d0, d1]]) w := by
  have hp' : tmps[p]?.getD undef = .pointer (some ⟨g, 0, none⟩) := by simpa using hp
  have hq' : tmps[q]?.getD undef = .pointer (some ⟨k, 0, none⟩) := by simpa using hq
  simp [results, h, hp', hq', asAddr, run_loadVar_row w g _ 33 _ _ _ hg Try.underlying33 rfl sch_size, run_loadVar_row w k _ 101 _ _ _ hk Try.underlying101 rfl ex_size]
end Go.Proofs.Yteadkdllmeeocaa
