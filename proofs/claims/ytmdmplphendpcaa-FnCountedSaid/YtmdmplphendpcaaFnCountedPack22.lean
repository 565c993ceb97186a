/- Texts of this claim, put together: part 22. -/
import Derived.Test.YtmdmplphendpcaaFnCountedPack21
import Derived.Test.YtmdmplphendpcaaFnCountedPack5
import Derived.Test.YtmdmplphendpcaaFnCountedPack8
import Derived.Test.YtmdmplphendpcaaFnCountedPack3
import Derived.Test.YtmdmplphendpcaaFnCountedPack11
import Derived.Test.YtmdmplphendpcaaFnCountedPack16
import Derived.Test.YtmdmplphendpcaaFnCountedPack17
import Derived.Test.YtmdmplphendpcaaFnCountedPack19
/- What the laws' own helper writes over counts. -/
namespace Go.Proofs.Ytmdmplphendpcaa
open Go.RowKit
set_option maxRecDepth 100000
set_option linter.unusedSimpArgs false
theorem SepII.rowsM {base : Nat} {w : World} {v : Value} {L : Nat → Value} {ys : List Value} {cs : List (List Int)} {n : Nat} (h : SepII base w v L ys cs n) (K : Nat → Nat) : RowsM base w L (lenL cs) K n 0 :=
  ⟨fun j hj => ⟨_, h.ints j hj, fun h => by omega⟩⟩
/-- The blocks that the marks of counts may turn. -/
def InSt (vt : Value) (L : Nat → Value) (n : Nat) (k : Nat) : Prop := vt.ownBlock = some k ∨ InII L n k
set_option maxHeartbeats 800000 in
theorem markStats_any (vt vc : Value) (L : Nat → Value) (xs ys : List Value) (cs : List (List Int)) (n c base k0 : Nat) (w : World) (ht : w.ownsRow base 3 1 vt c xs) (h : SepII base w vc L ys cs n)
    (hord : ∀ j a b, j < n → vt.ownBlock = some a → (L j).ownBlock = some b → a ≠ b) (hn : n ≤ 1048576) (hcl : c ≤ 1048576) (hK : mkC (k0 + c) (lenL cs) n ≤ 35184372088832) :
    Calls Try.prog 30 #[.agg #[vt, vc], .int .i64 (k0 : Int)] w fun e w' => e = .returned (.int .i64 ((mkC (k0 + c) (lenL cs) n : Nat) : Int)) ∧ MarkSt base w' vt vc L (lenL cs) c n k0 ∧ GrownS w w' (InSt vt L n) := by
  obtain ⟨K, B0⟩ := blk_1 31 w #[vt, vc]
  have hk := mkC_mono (k0 := k0 + c) (p := lenL cs) (Nat.zero_le n)
  simp only [mkC] at hk
  have HA : Hid (∀ j, j < n → (L j).ownBlock = none ∨ (L j).ownBlock ≠ vt.ownBlock) := fun j hj => ne_of_ord fun a b ha hb => by have := hord j b a hj hb ha; omega
  have HNI : Hid (∀ k, vt.ownBlock = some k → ¬ InII L n k) := fun k hk ⟨j, hj, hin⟩ => hord j k k hj hk hin rfl
  have cI := markI_any c base vt k0 xs _ (by omega) (by omega) (by omega) (own_below ht B0)
  have HS : Hid (SepII base (w.alloc (.cells #[vt, vc] 31)) vc L ys cs n ∧ (w.alloc (.cells #[vt, vc] 31)).ownsRow base 3 1 vt c xs) := ⟨h.below B0, own_below ht B0⟩
  have HLT : Hid (∀ k, vt.ownBlock = some k → k < w.heap.size) := fun k hk => (ht.lt k hk).2
  clear h ht hord B0
  go_enter Try.func30, Try.ntmps30
  go_wp2_with fail
  refine cI.mono ?_
  rintro e w1 ⟨rfl, ⟨zs, hz, hzs⟩, hg1⟩
  clear cI
  obtain ⟨hS, ht1⟩ := HS.out
  have G1 : GrownS (w.alloc (.cells #[vt, vc] 31)) w1 (fun k => vt.ownBlock = some k) := (GrownS.refl _ _).grown hg1 (fun j hj => .inl hj)
  have K1 := G1.blk K (fun e => by have := HLT.out _ e; omega)
  have k1 : w1.cell? ⟨w.heap.size, 1, none⟩ = some vc := K1.cell 1
  have hrow := hS.row.kept hg1 (apart_ty hS.row ht1 (by decide))
  have hR := (hS.rowsM (mkC (k0 + c) (lenL cs))).kept hg1 HA.out
  have cS := markII_any vc n base (k0 + c) L (lenL cs) ys w1 hrow hS.cells hR hS.ordL hn hK
  rw [Int.natCast_add] at cS
  have HX : Hid (GrownS (w.alloc (.cells #[vt, vc] 31)) w1 (fun k => vt.ownBlock = some k) ∧ w1.ownsRow base 3 1 vt c zs ∧ (∀ t, t < c → zs[t]? = some (mkI ((k0 : Int) + t))) ∧ ∀ j, j < n → ys[j]? = some (L j)) := ⟨G1, hz, hzs, hS.cells⟩
  clear hz hzs hg1 G1 K1 K hrow hR hS ht1 HS
  go_wp2_with fail
  refine cS.mono ?_
  rintro e w2 ⟨rfl, hrow, hR, hg2⟩
  clear cS k1
  obtain ⟨G1, hz, hzs, hcells⟩ := HX.out
  have T2 := own_keptS hz hg2 HNI.out
  have G2 : GrownS w w2 (InSt vt L n) := ⟨hg2.os.trans G1.alloc.os, hg2.tape.trans G1.alloc.tape, hg2.output.trans G1.alloc.output, Nat.le_trans G1.alloc.size hg2.size, fun k hk hn => (hg2.block k (Nat.lt_of_lt_of_le hk G1.alloc.size) (fun e => hn (.inr e))).trans (G1.alloc.block k hk (fun e => hn (.inl e)))⟩
  have HY : Hid (MarkSt base w2 vt vc L (lenL cs) c n k0 ∧ GrownS w w2 (InSt vt L n)) := ⟨⟨⟨zs, T2, hzs⟩, ⟨ys, hrow, hcells⟩, hR⟩, G2⟩
  clear T2 G2 hrow hR hg2 G1 hz hzs hcells HX
  go_wp2
  go_ret
  exact ⟨rfl, HY.out⟩
end Go.Proofs.Ytmdmplphendpcaa
/- Counts of the call's own, beside what the laws' helpers turn. -/
namespace Go.Proofs.Ytmdmplphendpcaa
open Go.RowKit
set_option maxRecDepth 100000
theorem SepII.keptS {base n : Nat} {w w' : World} {v : Value} {L : Nat → Value} {ys : List Value} {cs : List (List Int)} {R : Nat → Prop} (h : SepII base w v L ys cs n) (hg : GrownS w w' R) (h1 : ∀ k, v.ownBlock = some k → ¬ R k) (h2 : ∀ k, InII L n k → ¬ R k) : SepII base w' v L ys cs n :=
  ⟨own_keptS h.row hg h1, h.cells, fun j hj => own_keptS (h.ints j hj) hg (fun k hk => h2 k ⟨j, hj, hk⟩), h.ord⟩
theorem SepII.keptG {base n : Nat} {w w' : World} {v : Value} {L : Nat → Value} {ys : List Value} {cs : List (List Int)} {r : Option Nat} (h : SepII base w v L ys cs n) (hg : w.grownBy w' r) (h1 : ∀ k, v.ownBlock = some k → r ≠ some k) (h2 : ∀ k, InII L n k → r ≠ some k) : SepII base w' v L ys cs n := by
  refine ⟨h.row.kept hg ?_, h.cells, fun j hj => (h.ints j hj).kept hg ?_, h.ord⟩
  · cases e : v.ownBlock with
    | none => exact .inl rfl
    | some k => exact .inr fun e' => h1 k e e'.symm
  · cases e : (L j).ownBlock with
    | none => exact .inl rfl
    | some k => exact .inr fun e' => h2 k ⟨j, hj, e⟩ e'.symm
/-- All blocks of counts: their totals', their row's, their lists'. -/
def AllSt (vt vc : Value) (L : Nat → Value) (n : Nat) (k : Nat) : Prop := vt.ownBlock = some k ∨ vc.ownBlock = some k ∨ InII L n k
theorem all_st {base c n : Nat} {w : World} {vt vc : Value} {L : Nat → Value} {xs ys : List Value} {cs : List (List Int)} (ht : w.ownsRow base 3 1 vt c xs) (h : SepII base w vc L ys cs n) : ∀ k, AllSt vt vc L n k → base ≤ k ∧ k < w.heap.size := by
  intro k hk
  rcases hk with hk | hk | ⟨j, hj, hk⟩
  · exact ht.lt k hk
  · exact h.row.lt k hk
  · exact (h.ints j hj).lt k hk
theorem in_all {vt vc : Value} {L : Nat → Value} {n k : Nat} (h : InSt vt L n k) : AllSt vt vc L n k := h.elim .inl (fun h => .inr (.inr h))
theorem mkC_bound {k0 M : Nat} {p : Nat → Nat} : ∀ n, (∀ j, j < n → p j ≤ M) → mkC k0 p n ≤ k0 + n * M
  | 0, _ => by simp [mkC]
  | n + 1, h => by
    have h1 := mkC_bound (k0 := k0) (M := M) (p := p) n fun j hj => h j (by omega)
    have h2 := h n (by omega)
    simp only [mkC]
    rw [Nat.succ_mul]
    omega
theorem fitSt_mark {t : StatsD} (h : fitSt t) (k0 : Nat) : mkC k0 (lenL t.cells) t.cells.length ≤ k0 + 1099511627776 := by
  have h1 := mkC_bound (k0 := k0) (M := 1048576) (p := lenL t.cells) t.cells.length fun j hj => h.each _ (il_mem hj)
  have h2 := Nat.mul_le_mul_right 1048576 h.cells
  omega
end Go.Proofs.Ytmdmplphendpcaa
/- A region's outcome by itself; counts of the call's own, beside a store into another block. -/
namespace Go.Proofs.Ytmdmplphendpcaa
open Go.RowKit
set_option maxRecDepth 100000
theorem region_then {P : Program} {id : Nat} {ops : Array Oper} {b : Bool} {a : Act} {w : World} {Q : Exit → Act → World → Prop} (R : Act → Act → World → Prop)
    (h1 : (Code.region id ops b).wp P (fun e a' w' => e = .normal ∧ R a a' w') a w) (h2 : ∀ a' w', R a a' w' → Q .normal a' w') : (Code.region id ops b).wp P Q a w :=
  Code.wp_mono (fun e a' w' h => by rw [h.1]; exact h2 a' w' h.2) h1
theorem SepII.setRowN {base n : Nat} {w : World} {v : Value} {L : Nat → Value} {ys : List Value} {cs : List (List Int)} (h : SepII base w v L ys cs n) (p : Nat) (c : Array Value) (h1 : v.ownBlock ≠ some p) (h2 : ∀ j, j < n → (L j).ownBlock ≠ some p) : SepII base (w.setRow p c) v L ys cs n :=
  ⟨own_setRowN h.row p c h1, h.cells, fun j hj => own_setRowN (h.ints j hj) p c (h2 j hj), h.ord⟩
theorem wp_st_step {o : Oper} {a : Act} {w : World} {K : Act → World → Prop} {Q : Exit → Act → World → Prop} (x y : Operand) (ho : o.op = .store 31 x y)
    (g : Nat) (c0 c1 d0 d1 d2 d3 : _) (k0 k1 : Nat) (hx : a.eval x = .pointer (some ⟨g, 0, none⟩)) (hy : a.eval y = .agg #[.slice d0 k0 d1, .slice d2 k1 d3]) (hA : Blk 31 w g #[c0, c1])
    (h : K (a.put o.dst undef) (w.setRow g #[.slice d0 k0 d1, .slice d2 k1 d3])) : o.wp Try.prog a w K Q :=
  wp_store_row 31 x y ho g _ hx hy _ _ hA st_size rfl (by simp [Value.oneCell']) h
end Go.Proofs.Ytmdmplphendpcaa
/- Draws of chapter 8: what some examples leave. -/
namespace Go.Proofs.Ytmdmplphendpcaa
open Go.RowKit
set_option maxRecDepth 100000
set_option linter.unusedSimpArgs false
theorem tinyS.ok8 {d : SchemaD} (h : tinyS d) : okSch d := by
  have h1 := h.attrs
  have h2 := h.classes
  exact ⟨by omega, fun a ha => (h.each a ha).ok7, by omega, fun c hc => by have := h.sizes c hc; omega⟩
theorem OwnSt.form {b : Nat} {w : World} {v : Value} {d : StatsD} (h : OwnSt b w v d) : ∃ o1 k1 o2 k2, v = .agg #[.slice o1 d.totals.length k1, .slice o2 d.cells.length k2] := by
  obtain ⟨vt, vc, L, ys, rfl, h1, h2, -⟩ := h
  obtain ⟨o1, k1, rfl⟩ := own_slice h1
  obtain ⟨o2, k2, rfl⟩ := own_slice h2.row
  exact ⟨_, _, _, _, rfl⟩
set_option maxHeartbeats 6400000 in
theorem right8_any (g : Nat) (a : Option Addr) (len cap : Nat) (zs : List Int) (vs : Value) (s : SchemaD) (b : Nat) (w : World) (hc : IsCur w g a len cap) (hr : IsRow .u8 w a len cap zs) (hs : OwnS b w vs s) (hgb : g < b) (ht : tinyS s) :
    Calls Try.prog 85 #[.pointer (some ⟨g, 0, none⟩), vs] w fun e w' => ∃ v d, e = .returned v ∧ OwnSt w.heap.size w' v d ∧ tinySt 16 d ∧ IsCur w' g a len cap ∧ w.grownBy w' (some g) := by
  have hgw : g < w.heap.size := hc.lt
  have HR : Hid (∀ w', w.grownBy w' (some g) → IsRow .u8 w' a len cap zs) := fun w' h => hr.aside hc h
  have HS : Hid (∀ w', w.grownBy w' (some g) → OwnS b w' vs s) := fun w' h => hs.curW7 hgb h
  have HTN : Hid (tinyS s) := ht
  have HOK : Hid (okSch s) := ht.ok8
  obtain ⟨va, vc, rfl, ra, rc⟩ := id hs.at
  obtain ⟨oa, ka, rfl, -, -⟩ := id ra
  obtain ⟨oc, kc, rfl, -, -⟩ := id rc
  clear ra rc
  obtain ⟨K1, K2, B0⟩ := blk_2 27 31 w #[.slice oa s.attrs.length ka, .slice oc s.classes.length kc] #[.slice none 0 0, .slice none 0 0]
  have gr := grown_of_below B0 (some g)
  have cu := (hc.alloc (.cells #[.slice oa s.attrs.length ka, .slice oc s.classes.length kc] 27)).alloc (.cells #[.slice none 0 0, .slice none 0 0] 31)
  clear hc hr hs ht B0
  generalize hW : ((w.alloc (.cells #[.slice oa s.attrs.length ka, .slice oc s.classes.length kc] 27)).alloc (.cells #[.slice none 0 0, .slice none 0 0] 31)) = w0 at K1 K2 gr cu
  have hs0 : w.heap.size + 2 = w0.heap.size := by rw [← hW]; simp
  have e1 := specStatsNew_any _ s w0 (HS.out _ gr).at HOK.out
  have j0 : w0.cell? ⟨w.heap.size, 0, none⟩ = some (.slice oa s.attrs.length ka) := K1.cell 0
  have j1 : w0.cell? ⟨w.heap.size, 1, none⟩ = some (.slice oc s.classes.length kc) := K1.cell 1
  go_enter Try.func85, Try.ntmps85
  go_wp2_with fail
  refine e1.mono ?_
  clear e1 j0 j1 hW
  rintro e w1 ⟨v1, rfl, o, hb⟩
  obtain ⟨o1, k1, o2, k2, rfl⟩ := o.form
  replace o := o.base (show w.heap.size + 2 ≤ w0.heap.size by omega)
  have td : Hid (tinySt 16 (statsNew s)) := tiny_new s
  generalize statsNew s = d at o td
  replace K1 := K1.below hb
  replace K2 := K2.below hb
  replace cu := cu.kept (grown_of_below hb) (by intro e; cases e)
  replace gr := grown_trans gr (grown_of_below hb _)
  have hs1 := hb.size
  clear hb
  obtain ⟨T, BX⟩ := blk_1 31 w1 #[.slice o1 d.totals.length k1, .slice o2 d.cells.length k2]
  replace K1 := K1.below BX
  replace K2 := K2.below BX
  replace o := o.below BX
  replace cu := cu.kept (grown_of_below BX) (by intro e; cases e)
  replace gr := grown_trans gr (grown_of_below BX _)
  clear BX
  generalize hX : w1.alloc (.cells #[.slice o1 d.totals.length k1, .slice o2 d.cells.length k2] 31) = wx at T K1 K2 o cu gr
  have e1 := pickN [0, 1, 3, 12, 30, 60] g a len cap zs wx cu (HR.out _ gr) (by simp) (by simp)
  simp only [List.map_cons, List.map_nil, List.length_cons, List.length_nil, Nat.zero_add, Nat.reduceAdd] at e1
  go_wp2_with fail
  refine e1.mono ?_
  clear e1 hX
  rintro e w2 ⟨y, rfl, hy, cu2, h2⟩
  obtain ⟨n, rfl, hn⟩ : ∃ n : Nat, y = (n : Int) ∧ n ≤ 60 := by
    simp only [List.mem_cons, List.not_mem_nil, or_false] at hy
    exact ⟨y.toNat, by omega, by omega⟩
  clear hy cu
  replace K1 := K1.kept h2 (by intro e; injection e; omega)
  replace K2 := K2.kept h2 (by intro e; injection e; omega)
  replace T := T.kept h2 (by intro e; injection e; omega)
  replace o := o.curW (by omega) h2
  replace gr := grown_trans gr h2
  have htb : w.heap.size + 2 ≤ w1.heap.size := by omega
  clear h2 hs1
  obtain ⟨tb, htb'⟩ : ∃ tb, w1.heap.size = tb := ⟨_, rfl⟩
  rw [htb'] at T htb ⊢
  clear htb'
  go_wp2
  go_loopw [7, 8] (fun i _ wr => ∃ (k : Nat) (d : StatsD) (o1 : _) (k1 : _) (o2 : _) (k2 : _), i = .int .i64 k ∧ k ≤ n ∧ Blk 27 wr w.heap.size #[.slice oa s.attrs.length ka, .slice oc s.classes.length kc] ∧ Blk 31 wr (w.heap.size + 1) #[.slice none 0 0, .slice none 0 0] ∧ Blk 31 wr tb #[.slice o1 d.totals.length k1, .slice o2 d.cells.length k2] ∧ OwnSt (w.heap.size + 2) wr (.agg #[.slice o1 d.totals.length k1, .slice o2 d.cells.length k2]) d ∧ Hid (tinySt 16 d) ∧ IsCur wr g a len cap ∧ w.grownBy wr (some g)) (fun i _ _ => n - (intOf i).toNat)
  case atStart => exact ⟨0, d, _, _, _, _, rfl, by omega, K1, K2, T, o, td, cu2, gr⟩
  case round =>
    clear K1 K2 T o td cu2 gr
    obtain ⟨k, d, o1, k1, o2, k2, rfl, hk, K1, K2, T, o, td, cu, gr⟩ := hrel
    by_cases hlt : k < n
    · have j0 : wr.cell? ⟨w.heap.size, 0, none⟩ = some (.slice oa s.attrs.length ka) := K1.cell 0
      have j1 : wr.cell? ⟨w.heap.size, 1, none⟩ = some (.slice oc s.classes.length kc) := K1.cell 1
      have e1 := right7_any g a len cap zs _ s b wr cu (HR.out _ gr) (HS.out _ gr) hgb HTN.out
      go_wp2_with fail
      refine e1.mono ?_
      clear e1 j0 j1
      rintro e w3 ⟨ve, x, rfl, ⟨vb, rfl, oe⟩, hxl, -, cu3, h3⟩
      obtain ⟨ov, cv, rfl⟩ := own_slice oe
      have hxl6 : x.bins.length ≤ 1000 := by have := HTN.out.attrs; omega
      have hsw : w.heap.size + 2 ≤ wr.heap.size := by have := T.lt; omega
      replace oe := own_base oe hsw
      clear cu hxl
      replace K1 := K1.kept h3 (by intro e; injection e; omega)
      replace K2 := K2.kept h3 (by intro e; injection e; omega)
      replace T := T.kept h3 (by intro e; injection e; omega)
      replace o := o.curW (by omega) h3
      replace gr := grown_trans gr h3
      have hsw3 : tb < w3.heap.size := T.lt
      clear h3 hsw
      obtain ⟨E, BX⟩ := blk_1 33 w3 #[.slice ov x.bins.length cv, .int .i64 x.cls]
      replace K1 := K1.below BX
      replace K2 := K2.below BX
      replace T := T.below BX
      replace o := o.below BX
      replace oe := own_below oe BX
      replace cu := cu3.kept (grown_of_below BX) (by intro e; cases e)
      replace gr := grown_trans gr (grown_of_below BX _)
      clear BX cu3
      obtain ⟨eb, heb⟩ : ∃ eb, w3.heap.size = eb := ⟨_, rfl⟩
      rw [heb] at E hsw3
      generalize hE : w3.alloc (.cells #[.slice ov x.bins.length cv, .int .i64 x.cls] 33) = w4 at K1 K2 T o oe cu gr E
      go_wp2_with fail
      clear heb hE
      refine region_L (S := fun w' => Blk 27 w' w.heap.size #[.slice oa s.attrs.length ka, .slice oc s.classes.length kc] ∧ Blk 31 w' tb #[.slice o1 d.totals.length k1, .slice o2 d.cells.length k2] ∧ Blk 33 w' eb #[.slice ov x.bins.length cv, .int .i64 x.cls]) (last := 10) (by kernel_rfl) ?_
      have bd : Below w4.heap.size w4 w4.drew := below_drewN (Below.refl _ _) 1
      have hS : Blk 27 w4.drew w.heap.size #[.slice oa s.attrs.length ka, .slice oc s.classes.length kc] ∧ Blk 31 w4.drew tb #[.slice o1 d.totals.length k1, .slice o2 d.cells.length k2] ∧ Blk 33 w4.drew eb #[.slice ov x.bins.length cv, .int .i64 x.cls] := ⟨K1.below bd, T.below bd, E.below bd⟩
      clear K1 T E
      replace K2 := K2.below bd
      replace o := o.below bd
      replace oe := own_below oe bd
      replace cu := cu.kept (grown_of_below bd) (by intro e; cases e)
      replace gr := grown_trans gr (grown_of_below bd _)
      clear bd
      generalize w4.drew = w5 at *
      refine firstL 0 (.agg #[.slice oa s.attrs.length ka, .slice oc s.classes.length kc]) rfl (by kernel_rfl) (by kernel_rfl) (by kernel_rfl) (fun _ _ _ h => h) (by kernel_rfl) (yields_row Try.underlying27 (by kernel_rfl) (by rfl) _ rfl _ rfl (fun _ h => h.1)) hS ?_
      try simp only [Act.put, List.setIfInBounds_toArray, List.set_cons_zero, List.set_cons_succ]
      refine firstL 1 (.agg #[.slice o1 d.totals.length k1, .slice o2 d.cells.length k2]) rfl (by kernel_rfl) (by kernel_rfl) (by kernel_rfl) (fun _ _ _ h => h) (by kernel_rfl) (yields_row Try.underlying31 (by kernel_rfl) (by rfl) _ rfl _ rfl (fun _ h => h.2.1)) hS ?_
      try simp only [Act.put, List.setIfInBounds_toArray, List.set_cons_zero, List.set_cons_succ]
      refine firstL 2 (.agg #[.slice ov x.bins.length cv, .int .i64 x.cls]) rfl (by kernel_rfl) (by kernel_rfl) (by kernel_rfl) (fun _ _ _ h => h) (by kernel_rfl) (yields_row Try.underlying33 (by kernel_rfl) (by rfl) _ rfl _ rfl (fun _ h => h.2.2)) hS ?_
      try simp only [Act.put, List.setIfInBounds_toArray, List.set_cons_zero, List.set_cons_succ]
      refine firstL 3 (.pointer (some ⟨g, 0, none⟩)) rfl (by kernel_rfl) (by kernel_rfl) (by kernel_rfl) (fun _ _ _ h => h) (by kernel_rfl) (.inl ⟨by rfl, fun w _ => by rfl⟩) hS ?_
      try simp only [Act.put, List.setIfInBounds_toArray, List.set_cons_zero, List.set_cons_succ]
      have e1 := pickN [1, 2, 7] g a len cap zs w5 cu (HR.out _ gr) (by simp) (by simp)
      simp only [List.map_cons, List.map_nil, List.length_cons, List.length_nil, Nat.zero_add, Nat.reduceAdd] at e1
      have bn : Below w5.heap.size w5 (w5.alloc (.cells #[.int .i64 1, .int .i64 2, .int .i64 7] 3)) := (Below.refl _ _).alloc (Nat.le_refl _) _
      refine stepL 4 rfl (by kernel_rfl) (by rfl) fun K hK => ?_
      go_simp
      refine hK _ _ ⟨hS.1.below bn, hS.2.1.below bn, hS.2.2.below bn⟩ ?_
      clear hK K bn
      refine stepL 5 rfl (by kernel_rfl) (by rfl) fun K hK => ?_
      go_simp
      refine e1.mono ?_
      clear e1 cu
      rintro e w6 ⟨y, rfl, -, cu, h6⟩
      replace hS : Blk 27 w6 w.heap.size #[.slice oa s.attrs.length ka, .slice oc s.classes.length kc] ∧ Blk 31 w6 tb #[.slice o1 d.totals.length k1, .slice o2 d.cells.length k2] ∧ Blk 33 w6 eb #[.slice ov x.bins.length cv, .int .i64 x.cls] := ⟨hS.1.kept h6 (by intro e; injection e; omega), hS.2.1.kept h6 (by intro e; injection e; omega), hS.2.2.kept h6 (by intro e; injection e; omega)⟩
      refine hK _ _ hS ?_
      clear hK K
      replace K2 := K2.kept h6 (by intro e; injection e; omega)
      replace o := o.curW (by omega) h6
      replace oe := own_curW oe (by omega) h6
      replace gr := grown_trans gr h6
      clear h6
      have e1 := specStatsAdd_any _ _ (.agg #[.slice ov x.bins.length cv, .int .i64 x.cls]) s d x y w6 (HS.out _ gr).at o.at ⟨_, rfl, RowI.of_own oe rfl⟩ HOK.out (td.out.ok (by omega)) (by omega)
      clear o oe
      refine stepL 6 rfl (by kernel_rfl) (by rfl) fun K hK => ?_
      go_simp
      refine e1.mono ?_
      clear e1
      rintro e w7 ⟨v', rfl, o, hb⟩
      replace hS : Blk 27 w7 w.heap.size #[.slice oa s.attrs.length ka, .slice oc s.classes.length kc] ∧ Blk 31 w7 tb #[.slice o1 d.totals.length k1, .slice o2 d.cells.length k2] ∧ Blk 33 w7 eb #[.slice ov x.bins.length cv, .int .i64 x.cls] := ⟨hS.1.below hb, hS.2.1.below hb, hS.2.2.below hb⟩
      refine hK _ _ hS ?_
      clear hK K
      obtain ⟨o3, k3, o4, k4, rfl⟩ := o.form
      have hsz : w.heap.size + 2 ≤ w6.heap.size := by have := K2.lt; omega
      replace o := o.base hsz
      replace K2 := K2.below hb
      replace cu := cu.kept (grown_of_below hb) (by intro e; cases e)
      replace gr := grown_trans gr (grown_of_below hb _)
      clear hb hsz
      refine firstL 7 (.tuple #[.agg #[.slice o3 (statsAdd s d x y).totals.length k3, .slice o4 (statsAdd s d x y).cells.length k4], .bool (addOk s d x y)]) rfl (by kernel_rfl) (by kernel_rfl) (by kernel_rfl) (fun _ _ _ h => h) (by kernel_rfl) (.inl ⟨by rfl, fun w _ => by rfl⟩) hS ?_
      try simp only [Act.put, List.setIfInBounds_toArray, List.set_cons_zero, List.set_cons_succ]
      refine firstL 8 (.agg #[.slice o3 (statsAdd s d x y).totals.length k3, .slice o4 (statsAdd s d x y).cells.length k4]) rfl (by kernel_rfl) (by kernel_rfl) (by kernel_rfl) (fun _ _ _ h => h) (by kernel_rfl) (.inl ⟨by rfl, fun w _ => by rfl⟩) hS ?_
      try simp only [Act.put, List.setIfInBounds_toArray, List.set_cons_zero, List.set_cons_succ]
      refine pureL 9 (.bool (addOk s d x y)) rfl (by kernel_rfl) (by kernel_rfl) (by kernel_rfl) (fun _ _ _ h => h) (by decide) (.inl ⟨by rfl, fun w _ => by rfl⟩) hS ?_
      try simp only [Act.put, List.setIfInBounds_toArray, List.set_cons_zero, List.set_cons_succ]
      refine lastL rfl (by kernel_rfl) (by kernel_rfl) (by rfl) ?_
      refine wp_st_step _ _ rfl tb _ _ _ _ _ _ _ _ rfl rfl hS.2.1 ?_
      simp only [Act.put]
      have ta := tiny_add s d x y td.out
      have T2 := hS.2.1.setRow #[.slice o3 (statsAdd s d x y).totals.length k3, .slice o4 (statsAdd s d x y).cells.length k4]
      have K1 := Blk.setRow_other hS.1 #[.slice o3 (statsAdd s d x y).totals.length k3, .slice o4 (statsAdd s d x y).cells.length k4] (show w.heap.size ≠ tb by omega)
      replace K2 := Blk.setRow_other K2 #[.slice o3 (statsAdd s d x y).totals.length k3, .slice o4 (statsAdd s d x y).cells.length k4] (show w.heap.size + 1 ≠ tb by omega)
      replace o := o.rowB hS.2.1 (by decide) (by decide) #[.slice o3 (statsAdd s d x y).totals.length k3, .slice o4 (statsAdd s d x y).cells.length k4]
      replace cu := cu.rowW (p := tb) #[.slice o3 (statsAdd s d x y).totals.length k3, .slice o4 (statsAdd s d x y).cells.length k4] (by omega)
      replace gr := grown_row gr (p := tb) (by omega) #[.slice o3 (statsAdd s d x y).totals.length k3, .slice o4 (statsAdd s d x y).cells.length k4]
      clear hS td
      generalize w7.setRow tb #[.slice o3 (statsAdd s d x y).totals.length k3, .slice o4 (statsAdd s d x y).cells.length k4] = w8 at *
      generalize statsAdd s d x y = d2 at *
      generalize addOk s d x y = ok2 at *
      go_wp2
      go_roundw
      case rel => exact ⟨k + 1, d2, _, _, _, _, by go_num, by omega, K1, K2, T2, o, ta, cu, gr⟩
      case measure => simp [intOf]; omega
    · obtain rfl : k = n := by omega
      have e1 := once_any g a len cap zs 8 wr cu (HR.out _ gr) (by decide) (by decide)
      go_wp2_with fail
      refine e1.mono ?_
      clear e1 cu
      rintro e w3 ⟨bb, rfl, cu, h3⟩
      replace K1 := K1.kept h3 (by intro e; injection e; omega)
      replace K2 := K2.kept h3 (by intro e; injection e; omega)
      replace T := T.kept h3 (by intro e; injection e; omega)
      replace o := o.curW (by omega) h3
      replace gr := grown_trans gr h3
      clear h3
      have hsz : w.heap.size + 2 ≤ w3.heap.size := by have := K2.lt; omega
      cases bb with
      | true =>
        have e1 := specThin_any (.agg #[.slice o1 d.totals.length k1, .slice o2 d.cells.length k2]) d w3 o.at (td.out.ok (by omega))
        have tt := tiny_thin d td.out
        go_wp2_with (first | (with_reducible refine wp_st_load rfl _ rfl ?_; refine ⟨_, rfl, _, _, T, ?_⟩))
        refine e1.mono ?_
        clear e1 o
        rintro e w4 ⟨v', rfl, o, hb⟩
        obtain ⟨o3, k3, o4, k4, rfl⟩ := o.form
        generalize thinS d = d2 at *
        replace K2 := K2.below hb
        replace cu := cu.kept (grown_of_below hb) (by intro e; cases e)
        replace gr := grown_trans gr (grown_of_below hb _)
        go_wp2_with (first | (with_reducible refine wp_st_store rfl _ _ rfl ?_; refine ⟨_, rfl, _, _, _, _, _, _, rfl, _, _, K2, ?_⟩))
        exact bodyPost_ret (res_st rfl _ _ _ _ _ rfl (K2.setRow _)) rfl ⟨_, d2, rfl, (o.base (by omega)).rowB K2 (by decide) (by decide) _, tt, cu.rowW _ (by omega), grown_row gr (by omega) _⟩
      | false =>
        go_wp2_with (first | (with_reducible refine wp_st_load rfl _ rfl ?_; refine ⟨_, rfl, _, _, T, ?_⟩) | (with_reducible refine wp_st_store rfl _ _ rfl ?_; refine ⟨_, rfl, _, _, _, _, _, _, rfl, _, _, K2, ?_⟩))
        exact bodyPost_ret (res_st rfl _ _ _ _ _ rfl (K2.setRow _)) rfl ⟨_, d, rfl, (o.base (by omega)).rowB K2 (by decide) (by decide) _, td.out, cu.rowW _ (by omega), grown_row gr (by omega) _⟩
end Go.Proofs.Ytmdmplphendpcaa
