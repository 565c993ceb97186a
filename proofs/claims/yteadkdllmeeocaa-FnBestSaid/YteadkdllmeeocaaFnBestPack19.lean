/- Texts of this claim, put together: part 19. -/
import Derived.Test.YteadkdllmeeocaaFnBestPack12
import Derived.Test.YteadkdllmeeocaaFnBestPack3
import Derived.Test.YteadkdllmeeocaaFnBestPack18
import Derived.Test.YteadkdllmeeocaaFnBestPack10
import Derived.Deep.RegionLaw
import Derived.Test.YteadkdllmeeocaaFnBestPack17
import Derived.Test.YteadkdllmeeocaaFnBestPack16
import Derived.Test.YteadkdllmeeocaaFnBestPack5
import Derived.Test.YteadkdllmeeocaaFnBestPack14
/- Chapter 7 in plain words: examples, cells, rows. -/
namespace Go.Proofs.Yteadkdllmeeocaa
open Go.RowKit
set_option maxRecDepth 100000
def askB : ByteArray := ⟨#[63]⟩
/-- What a part of a row says of an attribute. -/
def cellB (a : AttrD) (t : ByteArray) : Option Int :=
  if t = askB then some (-1)
  else if 0 < a.vals.length then (if 0 ≤ placeT a.vals t then some (placeT a.vals t) else none)
  else (sigSpec t.data.toList).map fun n => (binN a.cuts n : Int)
def cellText (a : AttrD) (b : Int) : ByteArray :=
  if attrOk a = true ∧ -1 ≤ b ∧ b ≤ bins a - 1 then
    (if b = -1 then askB else if 0 < a.vals.length then tx a.vals b.toNat
      else if b < (a.cuts.length : Int) then itB (a.cuts.getD b.toNat 0) else itB (a.cuts.getD (a.cuts.length - 1) 0 + 1))
  else ⟨#[]⟩
def classText (s : SchemaD) (c : Int) : ByteArray := if 0 ≤ c then tx s.classes c.toNat else askB
def cellsT (s : SchemaD) (e : ExD) (k : Nat) : List ByteArray := (List.range k).map fun i => cellText (ad s.attrs i) (e.bins.getD i 0)
theorem cellsT_succ (s : SchemaD) (e : ExD) (k : Nat) : cellsT s e (k + 1) = cellsT s e k ++ [cellText (ad s.attrs k) (e.bins.getD k 0)] := by simp [cellsT, List.range_succ]
theorem cellsT_len (s : SchemaD) (e : ExD) (k : Nat) : (cellsT s e k).length = k := by simp [cellsT]
def exText (s : SchemaD) (e : ExD) : ByteArray :=
  if exOk s e = true then joinT (cellsT s e e.bins.length) ⟨#[44]⟩ ++ ⟨#[124]⟩ ++ classText s e.cls else ⟨#[]⟩
/-- The bins of the first parts, as long as each says one; else the place of the first that says none. -/
def binsFrom (ls : List AttrD) (ps : List ByteArray) : Nat → Option (List Int)
  | 0 => some []
  | k + 1 => match binsFrom ls ps k, cellB (ad ls k) (tx ps k) with
    | some l, some b => some (l ++ [b])
    | _, _ => none
def firstBad (ls : List AttrD) (ps : List ByteArray) (k : Nat) : Nat → Nat
  | 0 => k
  | n + 1 => if (cellB (ad ls k) (tx ps k)).isSome then firstBad ls ps (k + 1) n else k
/-- A row: the example, the code, the place. -/
def rowOf (s : SchemaD) (row : ByteArray) : ExD × Int × Int :=
  if schemaOk s = true then
    if row.size ≤ 80 then
      let hs := pieces 124 row
      if hs.length = 2 then
        let ps := pieces 44 (tx hs 0)
        if ps.length = s.attrs.length then
          match binsFrom s.attrs ps ps.length with
          | none => (noEx, 5, (firstBad s.attrs ps 0 ps.length : Int))
          | some l => if 0 ≤ placeT s.classes (tx hs 1) ∨ tx hs 1 = askB then (⟨l, placeT s.classes (tx hs 1)⟩, 0, 0) else (noEx, 6, 0)
        else (noEx, 4, 0)
      else (noEx, 3, 0)
    else (noEx, 2, 0)
  else (noEx, 1, 0)
end Go.Proofs.Yteadkdllmeeocaa
/- An example in a block of its own: it is read and written whole, it is handed back. -/
namespace Go.Proofs.Yteadkdllmeeocaa
open Go.RowKit
set_option maxRecDepth 100000
theorem ex_size : (Try.prog.info? 101).map (·.size) = some 2 := by kernel_rfl
theorem wp_ex_load {ops : Array Oper} {rest : List Oper} {o : Oper} {a : Act} {w : World} {Q : Exit → Act → World → Prop} (hgd : o.guard = none) (x : Operand) (ho : o.op = .load 101 x)
    (h : ∃ g, a.eval x = .pointer (some ⟨g, 0, none⟩) ∧ ∃ c0 c1, Blk 101 w g #[c0, c1] ∧ wpList Try.prog ops Q rest (a.put o.dst (.agg #[c0, c1])) w) : wpList Try.prog ops Q (o :: rest) a w := by
  obtain ⟨g, hx, c0, c1, hA, hk⟩ := h
  exact wpList_load_row hgd 101 x ho g hx _ _ _ _ hA Try.underlying101 rfl ex_size hk
theorem wp_ex_store {ops : Array Oper} {rest : List Oper} {o : Oper} {a : Act} {w : World} {Q : Exit → Act → World → Prop} (hgd : o.guard = none) (x y : Operand) (ho : o.op = .store 101 x y)
    (h : ∃ g, a.eval x = .pointer (some ⟨g, 0, none⟩) ∧ ∃ o1 l1 k1 n, a.eval y = .agg #[.slice o1 l1 k1, .int .i64 n] ∧ ∃ d0 d1, Blk 101 w g #[d0, d1] ∧ wpList Try.prog ops Q rest (a.put o.dst undef) (w.setRow g #[.slice o1 l1 k1, .int .i64 n])) : wpList Try.prog ops Q (o :: rest) a w := by
  obtain ⟨g, hx, o1, l1, k1, n, hy, d0, d1, hA, hk⟩ := h
  exact wpList_store_row hgd 101 x y ho g _ hx hy _ _ hA ex_size rfl (by simp [Value.oneCell']) hk
theorem res_ex {fn : Func} {p : Tmp} (h : fn.results = #[.cell p 101]) (tmps : Array Value) (w : World) (g : Nat) (c0 c1 : Value)
    (hp : tmps.getD p undef = .pointer (some ⟨g, 0, none⟩)) (hg : Blk 101 w g #[c0, c1]) : (results fn tmps).run Try.prog w = .ok (.agg #[c0, c1]) w :=
  results_cell_row h tmps w g _ _ _ _ hp hg Try.underlying101 rfl ex_size
end Go.Proofs.Yteadkdllmeeocaa
/- How many bins, how great the cuts. -/
namespace Go.Proofs.Yteadkdllmeeocaa
open Go.RowKit
set_option maxRecDepth 100000
theorem bins_le {a : AttrD} (hn : okA a) : 0 ≤ bins a ∧ bins a ≤ 1099511627777 := by
  unfold bins
  have := hn.cuts
  have := hn.vals.1
  split
  · split <;> omega
  · omega
theorem cuts_in {a : AttrD} (hk : attrOk a = true) : ∀ j, j < a.cuts.length → -9999 ≤ a.cuts.getD j 0 ∧ a.cuts.getD j 0 ≤ 9998 := by
  intro j hj
  unfold attrOk at hk
  rw [Bool.and_eq_true] at hk
  have h2 := hk.2
  rw [if_neg (by omega), Bool.and_eq_true, Bool.and_eq_true] at h2
  have h3 := h2.2.2
  unfold cutsRise at h3
  rw [List.all_eq_true] at h3
  exact cutAt_in (h3 j (List.mem_range.2 hj))
end Go.Proofs.Yteadkdllmeeocaa
/- Draws of chapter 7: an example of a schema. -/
namespace Go.Proofs.Yteadkdllmeeocaa
open Go.RowKit
set_option maxRecDepth 100000
set_option linter.unusedSimpArgs false
theorem OwnS.curW7 {w w' : World} {b g : Nat} {v : Value} {s : SchemaD} (h : OwnS b w v s) (hg : g < b) (hk : w.grownBy w' (some g)) : OwnS b w' v s := by
  obtain ⟨va, vc, rfl, ⟨ys, h1, h2⟩, h3⟩ := h
  exact ⟨va, vc, rfl, ⟨ys, own_curW h1 hg hk, h2.curW hg hk⟩, own_curW h3 hg hk⟩
theorem OwnS.below7 {w w' : World} {b : Nat} {v : Value} {s : SchemaD} (h : OwnS b w v s) (hb : Below w.heap.size w w') : OwnS b w' v s := by
  obtain ⟨va, vc, rfl, h1, h3⟩ := h
  exact ⟨va, vc, rfl, h1.below hb, own_below h3 hb⟩
theorem tinyA.ok7 {a : AttrD} (t : tinyA a) : okA a := ⟨by have := t.name; omega, by have := t.cuts; omega, by have := t.vals; omega, fun s hs => by have := t.each s hs; omega⟩
theorem bins_tiny {a : AttrD} (t : tinyA a) : 0 ≤ bins a ∧ bins a ≤ 5 := by
  have h1 := t.cuts
  have h2 := t.vals
  unfold bins
  split
  · split <;> omega
  · omega
theorem below0_any (g : Nat) (a : Option Addr) (len cap : Nat) (zs : List Int) (n : Nat) (w : World) (hc : IsCur w g a len cap) (hr : IsRow .u8 w a len cap zs) (h2 : n ≤ 256) :
    Calls Try.prog 52 #[.pointer (some ⟨g, 0, none⟩), .int .i64 (n : Int)] w fun e w' => ∃ x : Nat, e = .returned (.int .i64 (x : Int)) ∧ (x < n ∨ n = 0 ∧ x = 0) ∧ IsCur w' g a len cap ∧ w.grownBy w' (some g) := by
  by_cases h0 : n = 0
  · subst h0
    go_enter Try.func52, Try.ntmps52
    go_wp2
    go_ret
    exact ⟨0, rfl, by simp, hc, ⟨rfl, rfl, rfl, Nat.le_refl _, fun _ _ _ => rfl⟩⟩
  · exact (l1Below_any g a len cap zs n w hc hr (by omega) h2).mono fun e w' ⟨x, h1, h3, h4, h5⟩ => ⟨x, h1, .inl h3, h4, h5⟩
/-- How far an example is drawn. -/
def Drawn (s : SchemaD) (l : List Int) (k : Nat) : Prop := l.length = k ∧ ∀ j, j < k → -1 ≤ l.getD j 0 ∧ (l.getD j 0 ≤ bins (ad s.attrs j) - 1 ∨ bins (ad s.attrs j) = 0 ∧ l.getD j 0 = 0)
theorem Drawn.snoc {s : SchemaD} {l : List Int} {k : Nat} {x : Int} (h : Drawn s l k) (h1 : -1 ≤ x) (h2 : x ≤ bins (ad s.attrs k) - 1 ∨ bins (ad s.attrs k) = 0 ∧ x = 0) : Drawn s (l ++ [x]) (k + 1) := by
  refine ⟨by simp [h.1], fun j hj => ?_⟩
  by_cases e : j = k
  · subst e
    have hl := h.1
    have : (l ++ [x]).getD j 0 = x := by simp [List.getD_eq_getElem?_getD, List.getElem?_append_right (show l.length ≤ j by omega), hl]
    rw [this]; exact ⟨h1, h2⟩
  · have hl := h.1
    have : (l ++ [x]).getD j 0 = l.getD j 0 := by simp [List.getD_eq_getElem?_getD, List.getElem?_append_left (show j < l.length by omega)]
    rw [this]; exact h.2 j (by omega)
theorem bins_pos {a : AttrD} (h : attrOk a = true) : 1 ≤ bins a := by
  unfold bins
  rw [if_pos h]
  split
  · omega
  · omega
theorem drawn_ok {s : SchemaD} {l : List Int} {c : Int} (hs : schemaOk s = true) (h : Drawn s l s.attrs.length) (hc0 : 0 ≤ c) (hc1 : c < (s.classes.length : Int)) : exOk s ⟨l, c⟩ = true := by
  have hat : attrsOk s.attrs = true := by
    unfold schemaOk at hs
    rw [Bool.and_eq_true, Bool.and_eq_true] at hs
    exact hs.2.2
  unfold exOk
  rw [hs, decide_eq_true (p := (⟨l, c⟩ : ExD).bins.length = s.attrs.length) h.1, decide_eq_true (p := -1 ≤ (⟨l, c⟩ : ExD).cls ∧ (⟨l, c⟩ : ExD).cls ≤ (s.classes.length : Int) - 1) (by simp only; omega)]
  simp only [Bool.true_and]
  refine binsRight_yes fun j hj => decide_eq_true ?_
  have hj' : j < s.attrs.length := by have := h.1; simp only at hj; omega
  have hk : attrOk (ad s.attrs j) = true := by
    unfold attrsOk at hat
    rw [List.all_eq_true] at hat
    have := hat j (List.mem_range.2 hj')
    unfold attrAt at this
    rw [Bool.and_eq_true] at this
    exact this.1
  have hp := bins_pos hk
  have := h.2 j hj'
  simp only
  omega
set_option maxHeartbeats 6400000 in
theorem right7_any (g : Nat) (a : Option Addr) (len cap : Nat) (zs : List Int) (vs : Value) (s : SchemaD) (b : Nat) (w : World) (hc : IsCur w g a len cap) (hr : IsRow .u8 w a len cap zs) (hs : OwnS b w vs s) (hgb : g < b) (ht : tinyS s) :
    Calls Try.prog 76 #[.pointer (some ⟨g, 0, none⟩), vs] w fun e w' => ∃ v d, e = .returned v ∧ OwnE w.heap.size w' v d ∧ d.bins.length = s.attrs.length ∧ (schemaOk s = true → exOk s d = true ∧ 0 ≤ d.cls) ∧ IsCur w' g a len cap ∧ w.grownBy w' (some g) := by
  have hgw : g < w.heap.size := hc.lt
  obtain ⟨i0, hi, hi0, hi1, hi2⟩ := info_parts intInfo
  have HR : Hid (∀ w', w.grownBy w' (some g) → IsRow .u8 w' a len cap zs) := fun w' h => hr.aside hc h
  have HS : Hid (∀ w', w.grownBy w' (some g) → SchemaAt w' vs s) := fun w' h => (hs.curW7 hgb h).at
  have HTN : Hid (tinyS s) := ht
  obtain ⟨va, vc, rfl, ra, rc⟩ := id hs.at
  obtain ⟨oa, ka, rfl, -, -⟩ := id ra
  obtain ⟨oc, kc, rfl, -, -⟩ := id rc
  have la := ht.attrs
  have lc := ht.classes
  clear ra rc
  have g0 : w.grownBy (((w.alloc (.cells #[.slice oa s.attrs.length ka, .slice oc s.classes.length kc] 33)).alloc (.cells #[.slice none 0 0, .int .i64 0] 101)).alloc (.cells #[.slice none 0 0, .int .i64 0] 101)) (some g) := grown_trans (grown_trans (grown_alloc w _ _) (grown_alloc _ _ _)) (grown_alloc _ _ _)
  have c0 := ((hc.alloc (.cells #[.slice oa s.attrs.length ka, .slice oc s.classes.length kc] 33)).alloc (.cells #[.slice none 0 0, .int .i64 0] 101)).alloc (.cells #[.slice none 0 0, .int .i64 0] 101)
  obtain ⟨K1, K2, K3, B0⟩ := blk_3 33 101 101 w #[.slice oa s.attrs.length ka, .slice oc s.classes.length kc] #[.slice none 0 0, .int .i64 0] #[.slice none 0 0, .int .i64 0]
  clear hc hr hs ht B0
  go_enter Try.func76, Try.ntmps76
  go_wp2
  go_loopw [6, 7] (fun i _ wr => ∃ (k : Nat) (vb : Value) (l : List Int), i = .int .i64 k ∧ k ≤ s.attrs.length ∧ Hid (Drawn s l k) ∧ Blk 33 wr w.heap.size #[.slice oa s.attrs.length ka, .slice oc s.classes.length kc] ∧ Blk 101 wr (w.heap.size + 1) #[.slice none 0 0, .int .i64 0] ∧ Blk 101 wr (w.heap.size + 1 + 1) #[vb, .int .i64 0] ∧ wr.ownsRow (w.heap.size + 3) 3 1 vb k (l.map (Value.int .i64)) ∧ IsCur wr g a len cap ∧ w.grownBy wr (some g)) (fun i _ _ => s.attrs.length - (intOf i).toNat)
  case atStart => exact ⟨0, .slice none 0 0, [], rfl, by omega, ⟨rfl, fun j hj => by omega⟩, K1, K2, K3, ⟨by simp, .inl ⟨rfl, rfl⟩⟩, c0, g0⟩
  case round =>
    obtain ⟨k, vb, l, rfl, hk, HD, A1, A2, A3, own, cu, gr⟩ := hrel
    clear K1 K2 K3 c0 g0
    by_cases hlt : k < s.attrs.length
    · obtain ⟨va', vc', e', rA, -⟩ := HS.out wr gr
      cases e'
      obtain ⟨oa', ka', e', -, hrA⟩ := rA
      cases e'
      obtain ⟨ga, fa, rfl, hga, hjA⟩ := hrA (by omega)
      obtain ⟨x1, x2, p0, p1, p2, r1, r2⟩ := hjA k hlt
      obtain ⟨y1, z1, rfl, -, -⟩ := id r1
      obtain ⟨y2, z2, rfl, -, -⟩ := id r2
      have htA := HTN.out.each _ (ad_mem hlt)
      have q0 : wr.cell? ⟨w.heap.size, 0, none⟩ = some (.slice (some ⟨ga, fa, none⟩) s.attrs.length ka) := A1.cell 0
      have eB := specBins_any (.agg #[.string (ad s.attrs k).name, .slice y1 (ad s.attrs k).cuts.length z1, .slice y2 (ad s.attrs k).vals.length z2]) (ad s.attrs k) wr ⟨_, _, rfl, r1, r2⟩ htA.ok7
      obtain ⟨hb0, hb5⟩ := bins_tiny htA
      obtain ⟨n, hn⟩ := Int.eq_ofNat_of_zero_le hb0
      have HN : Hid (bins (ad s.attrs k) = (n : Int)) := hn
      rw [hn] at eB hb5
      obtain ⟨ov, cv, rfl⟩ := own_slice own
      clear hjA hrA r1 r2 htA hb0 hn hga
      go_wp2_with fail
      refine eB.mono ?_
      clear eB
      rintro e w1 ⟨rfl, hb1⟩
      have gb1 := grown_of_below hb1 (some g)
      have gr1 := grown_trans gr gb1
      have cu1 := cu.kept (grown_of_below hb1 none) (by intro e; cases e)
      have D1 := A1.below hb1
      have D2 := A2.below hb1
      have D3 := A3.below hb1
      have ow1 := own_below own hb1
      clear hb1 gb1 A1 A2 A3 own cu gr p0 p1 p2 q0
      have e1 := below0_any g a len cap zs n w1 cu1 (HR.out _ gr1) (by omega)
      go_wp2_with fail
      refine e1.mono ?_
      clear e1
      rintro e w2 ⟨x, rfl, hx, cu2, h2⟩
      have gr2 := grown_trans gr1 h2
      have E1 := D1.kept h2 (by intro e; injection e; omega)
      have E2 := D2.kept h2 (by intro e; injection e; omega)
      have E3 := D3.kept h2 (by intro e; injection e; omega)
      have ow2 := own_curW ow1 (by omega) h2
      clear h2 gr1 cu1 D1 D2 D3 ow1
      have e1 := once_any g a len cap zs 9 w2 cu2 (HR.out _ gr2) (by decide) (by decide)
      go_wp2_with fail
      refine e1.mono ?_
      clear e1
      rintro e w3 ⟨bb, rfl, cu3, h3⟩
      have gr3 := grown_trans gr2 h3
      have F1 := E1.kept h3 (by intro e; injection e; omega)
      have F2 := E2.kept h3 (by intro e; injection e; omega)
      have F3 := E3.kept h3 (by intro e; injection e; omega)
      have ow3 := own_curW ow2 (by omega) h3
      have q3 : w3.cell? ⟨w.heap.size + 1 + 1, 0, none⟩ = some (.slice ov k cv) := F3.cell 0
      have hl3 := F3.lt
      clear h3 gr2 cu2 E1 E2 E3 ow2
      cases bb with
      | true =>
        have HN2 : Hid (Drawn s (l ++ [(-1)]) (k + 1)) := HD.out.snoc (by omega) (.inl (by rw [HN.out]; omega))
        go_wp2_with (at_builtin; refine wpList_append_own _ rfl _ _ 24 rfl (w.heap.size + 3) 3 i0 (.int .i64 0) 1 8 Try.underlying24 hi hi0 hi1 hi2 rfl (by decide) _ _ _ rfl (ow3.alloc _) ⟨w3.heap.size, 0, none⟩ 1 1 [_] rfl rfl (newc _ _ _) ?d2 ?d3 ?d4 ?d5 ?_)
        case d2 => intro u hu; simp at hu; subst hu; rfl
        case d3 => unfold maxLen; omega
        case d4 => omega
        case d5 => simp; omega
        intro v' w5 hown' hgrow _
        obtain ⟨ov', cv', rfl⟩ := own_slice hown'
        have hne : ∀ j, (Value.slice ov k cv).ownBlock = some j → w.heap.size + 3 ≤ j := fun j hj => (ow3.lt j hj).1
        have G1 := (F1.alloc (.cells #[.int .i64 (-1)] 3)).kept hgrow (fun e => by have := hne _ e; omega)
        have G2 := (F2.alloc (.cells #[.int .i64 (-1)] 3)).kept hgrow (fun e => by have := hne _ e; omega)
        have G3 := (F3.alloc (.cells #[.int .i64 (-1)] 3)).kept hgrow (fun e => by have := hne _ e; omega)
        have cu5 := (cu3.alloc (.cells #[.int .i64 (-1)] 3)).kept hgrow (fun e => by have := hne _ e; omega)
        have gr5 := grown_own (grown_trans gr3 (grown_alloc w3 (.cells #[.int .i64 (-1)] 3) _)) hgrow (fun j e => by have := hne _ e; omega)
        have R : w5.ownsRow (w.heap.size + 3) 3 1 (.slice ov' (k + 1) cv') (k + 1) ((l ++ [(-1)]).map (Value.int .i64)) := by simpa using hown'
        have f5 := G3.frozen 0
        have q5 : w5.cell? ⟨w.heap.size + 1 + 1, 0, none⟩ = some (.slice ov k cv) := G3.cell 0
        have HFIN : Hid (Blk 33 (w5.setCell ⟨w.heap.size + 1 + 1, 0, none⟩ (.slice ov' (k + 1) cv')) w.heap.size #[.slice (some ⟨ga, fa, none⟩) s.attrs.length ka, .slice oc s.classes.length kc] ∧ Blk 101 (w5.setCell ⟨w.heap.size + 1 + 1, 0, none⟩ (.slice ov' (k + 1) cv')) (w.heap.size + 1) #[.slice none 0 0, .int .i64 0] ∧ Blk 101 (w5.setCell ⟨w.heap.size + 1 + 1, 0, none⟩ (.slice ov' (k + 1) cv')) (w.heap.size + 1 + 1) #[.slice ov' (k + 1) cv', .int .i64 0] ∧ (w5.setCell ⟨w.heap.size + 1 + 1, 0, none⟩ (.slice ov' (k + 1) cv')).ownsRow (w.heap.size + 3) 3 1 (.slice ov' (k + 1) cv') (k + 1) ((l ++ [(-1)]).map (Value.int .i64)) ∧ IsCur (w5.setCell ⟨w.heap.size + 1 + 1, 0, none⟩ (.slice ov' (k + 1) cv')) g a len cap ∧ w.grownBy (w5.setCell ⟨w.heap.size + 1 + 1, 0, none⟩ (.slice ov' (k + 1) cv')) (some g)) :=
          ⟨G1.setCell_other _ _ (by simp; omega), G2.setCell_other _ _ (by simp), G3.setCell 0 _, own_setCell R _ _ (by simp), cu5.cellW 0 _ (by omega), grown_cell gr5 (by omega) _⟩
        clear hown' hgrow ow3 F1 F2 F3 G1 G2 G3 cu3 cu5 gr3 gr5 R q3 hne
        go_wp2
        go_roundw
        case rel => exact ⟨k + 1, _, _, by go_num, by omega, HN2, HFIN.out.1, HFIN.out.2.1, HFIN.out.2.2.1, HFIN.out.2.2.2.1, HFIN.out.2.2.2.2.1, HFIN.out.2.2.2.2.2⟩
        case measure => simp [intOf]; omega
      | false =>
        have HN2 : Hid (Drawn s (l ++ [(x : Int)]) (k + 1)) := HD.out.snoc (show -1 ≤ ((x : Int) : Int) by omega) (by rw [HN.out]; omega)
        go_wp2_with (at_builtin; refine wpList_append_own _ rfl _ _ 24 rfl (w.heap.size + 3) 3 i0 (.int .i64 0) 1 8 Try.underlying24 hi hi0 hi1 hi2 rfl (by decide) _ _ _ rfl (ow3.alloc _) ⟨w3.heap.size, 0, none⟩ 1 1 [_] rfl rfl (newc _ _ _) ?d2 ?d3 ?d4 ?d5 ?_)
        case d2 => intro u hu; simp at hu; subst hu; rfl
        case d3 => unfold maxLen; omega
        case d4 => omega
        case d5 => simp; omega
        intro v' w5 hown' hgrow _
        obtain ⟨ov', cv', rfl⟩ := own_slice hown'
        have hne : ∀ j, (Value.slice ov k cv).ownBlock = some j → w.heap.size + 3 ≤ j := fun j hj => (ow3.lt j hj).1
        have G1 := (F1.alloc (.cells #[.int .i64 (x : Int)] 3)).kept hgrow (fun e => by have := hne _ e; omega)
        have G2 := (F2.alloc (.cells #[.int .i64 (x : Int)] 3)).kept hgrow (fun e => by have := hne _ e; omega)
        have G3 := (F3.alloc (.cells #[.int .i64 (x : Int)] 3)).kept hgrow (fun e => by have := hne _ e; omega)
        have cu5 := (cu3.alloc (.cells #[.int .i64 (x : Int)] 3)).kept hgrow (fun e => by have := hne _ e; omega)
        have gr5 := grown_own (grown_trans gr3 (grown_alloc w3 (.cells #[.int .i64 (x : Int)] 3) _)) hgrow (fun j e => by have := hne _ e; omega)
        have R : w5.ownsRow (w.heap.size + 3) 3 1 (.slice ov' (k + 1) cv') (k + 1) ((l ++ [(x : Int)]).map (Value.int .i64)) := by simpa using hown'
        have f5 := G3.frozen 0
        have q5 : w5.cell? ⟨w.heap.size + 1 + 1, 0, none⟩ = some (.slice ov k cv) := G3.cell 0
        have HFIN : Hid (Blk 33 (w5.setCell ⟨w.heap.size + 1 + 1, 0, none⟩ (.slice ov' (k + 1) cv')) w.heap.size #[.slice (some ⟨ga, fa, none⟩) s.attrs.length ka, .slice oc s.classes.length kc] ∧ Blk 101 (w5.setCell ⟨w.heap.size + 1 + 1, 0, none⟩ (.slice ov' (k + 1) cv')) (w.heap.size + 1) #[.slice none 0 0, .int .i64 0] ∧ Blk 101 (w5.setCell ⟨w.heap.size + 1 + 1, 0, none⟩ (.slice ov' (k + 1) cv')) (w.heap.size + 1 + 1) #[.slice ov' (k + 1) cv', .int .i64 0] ∧ (w5.setCell ⟨w.heap.size + 1 + 1, 0, none⟩ (.slice ov' (k + 1) cv')).ownsRow (w.heap.size + 3) 3 1 (.slice ov' (k + 1) cv') (k + 1) ((l ++ [(x : Int)]).map (Value.int .i64)) ∧ IsCur (w5.setCell ⟨w.heap.size + 1 + 1, 0, none⟩ (.slice ov' (k + 1) cv')) g a len cap ∧ w.grownBy (w5.setCell ⟨w.heap.size + 1 + 1, 0, none⟩ (.slice ov' (k + 1) cv')) (some g)) :=
          ⟨G1.setCell_other _ _ (by simp; omega), G2.setCell_other _ _ (by simp), G3.setCell 0 _, own_setCell R _ _ (by simp), cu5.cellW 0 _ (by omega), grown_cell gr5 (by omega) _⟩
        clear hown' hgrow ow3 F1 F2 F3 G1 G2 G3 cu3 cu5 gr3 gr5 R q3 hne
        go_wp2
        go_roundw
        case rel => exact ⟨k + 1, _, _, by go_num, by omega, HN2, HFIN.out.1, HFIN.out.2.1, HFIN.out.2.2.1, HFIN.out.2.2.2.1, HFIN.out.2.2.2.2.1, HFIN.out.2.2.2.2.2⟩
        case measure => simp [intOf]; omega
    · obtain rfl : k = s.attrs.length := by omega
      have q0 : wr.cell? ⟨w.heap.size, 0, none⟩ = some (.slice oa s.attrs.length ka) := A1.cell 0
      have q1 : wr.cell? ⟨w.heap.size, 1, none⟩ = some (.slice oc s.classes.length kc) := A1.cell 1
      have e1 := below0_any g a len cap zs s.classes.length wr cu (HR.out _ gr) (by omega)
      obtain ⟨ov, cv, rfl⟩ := own_slice own
      go_wp2_with fail
      refine e1.mono ?_
      clear e1
      rintro e w1 ⟨x, rfl, hx, cu1, h1⟩
      have gr1 := grown_trans gr h1
      have D1 := A1.kept h1 (by intro e; injection e; omega)
      have D2 := A2.kept h1 (by intro e; injection e; omega)
      have D3 := A3.kept h1 (by intro e; injection e; omega)
      have ow1 := own_curW own (by omega) h1
      clear h1 gr cu A1 A2 A3 own q0 q1
      have q1 : w1.cell? ⟨w.heap.size + 1 + 1, 1, none⟩ = some (.int .i64 0) := D3.cell 1
      have f1 := D3.frozen 1
      have E1 := D1.setCell_other ⟨w.heap.size + 1 + 1, 1, none⟩ (.int .i64 (x : Int)) (by simp; omega)
      have E2 := D2.setCell_other ⟨w.heap.size + 1 + 1, 1, none⟩ (.int .i64 (x : Int)) (by simp)
      have E3 := D3.setCell 1 (.int .i64 (x : Int))
      have ow2 := own_setCell ow1 ⟨w.heap.size + 1 + 1, 1, none⟩ (.int .i64 (x : Int)) (by simp)
      have cu2 := cu1.cellW (p := w.heap.size + 1 + 1) 1 (.int .i64 (x : Int)) (by omega)
      have gr2 := grown_cell gr1 (p := w.heap.size + 1 + 1) (k := 1) (by omega) (.int .i64 (x : Int))
      clear D1 D2 D3 ow1 cu1 gr1
      have q2 : (w1.setCell ⟨w.heap.size + 1 + 1, 1, none⟩ (.int .i64 (x : Int))).cell? ⟨w.heap.size + 1 + 1, 0, none⟩ = some (.slice ov s.attrs.length cv) := E3.cell 0
      have hDL := HD.out.1
      have HDL : Hid (l.length = s.attrs.length) := hDL
      clear hDL
      have HX : Hid (∀ y : Int, (y = x ∨ 0 ≤ y ∧ y < (s.classes.length : Int)) → schemaOk s = true → exOk s ⟨l, y⟩ = true ∧ 0 ≤ y) := fun y hy hs => by
        have h2 : 2 ≤ s.classes.length := by
          unfold schemaOk choices at hs
          rw [Bool.and_eq_true, Bool.and_eq_true, Bool.and_eq_true] at hs
          have := of_decide_eq_true hs.2.1.1
          omega
        have h1 : 0 ≤ y ∧ y < (s.classes.length : Int) := by
          rcases hy with rfl | hy
          · omega
          · exact hy
        exact ⟨drawn_ok hs HD.out h1.1 h1.2, h1.1⟩
      by_cases h0 : 0 < s.attrs.length
      rotate_left
      · have hz : ¬ (0 : Int) < (s.attrs.length : Int) := by omega
        go_wp2_with (first | (with_reducible refine wp_ex_load rfl _ rfl ?_; refine ⟨_, rfl, _, _, E3, ?_⟩) | (with_reducible refine wp_ex_store rfl _ _ rfl ?_; refine ⟨_, rfl, _, _, _, _, rfl, _, _, E2, ?_⟩))
        exact bodyPost_ret (res_ex rfl _ _ _ _ _ rfl (E2.setRow _)) rfl ⟨_, ⟨l, (x : Int)⟩, rfl, ⟨_, rfl, show (_ : World).ownsRow _ _ _ _ l.length _ by rw [HDL.out]; exact own_base (own_setRow ow2 _ _ (by omega)) (by omega)⟩, HDL.out, HX.out _ (.inl rfl), cu2.rowW _ (by omega), grown_row gr2 (by omega) _⟩
      have hz : (0 : Int) < (s.attrs.length : Int) := by omega
      have e1 := once_any g a len cap zs 5 (w1.setCell ⟨w.heap.size + 1 + 1, 1, none⟩ (.int .i64 (x : Int))) cu2 (HR.out _ gr2) (by decide) (by decide)
      go_wp2_with fail
      refine e1.mono ?_
      clear e1
      rintro e w3 ⟨bb, rfl, cu3, h3⟩
      have gr3 := grown_trans gr2 h3
      have F1 := E1.kept h3 (by intro e; injection e; omega)
      have F2 := E2.kept h3 (by intro e; injection e; omega)
      have F3 := E3.kept h3 (by intro e; injection e; omega)
      have ow3 := own_curW ow2 (by omega) h3
      clear h3 gr2 cu2 E1 E2 E3 ow2 q1 q2 f1
      cases bb with
      | true =>
        go_wp2_with (first | (with_reducible refine wp_ex_load rfl _ rfl ?_; refine ⟨_, rfl, _, _, F3, ?_⟩) | (with_reducible refine wp_ex_store rfl _ _ rfl ?_; refine ⟨_, rfl, _, _, _, _, rfl, _, _, F2, ?_⟩))
        exact bodyPost_ret (res_ex rfl _ _ _ _ _ rfl (F2.setRow _)) rfl ⟨_, ⟨l, (x : Int)⟩, rfl, ⟨_, rfl, show (_ : World).ownsRow _ _ _ _ l.length _ by rw [HDL.out]; exact own_base (own_setRow ow3 _ _ (by omega)) (by omega)⟩, HDL.out, HX.out _ (.inl rfl), cu3.rowW _ (by omega), grown_row gr3 (by omega) _⟩
      | false =>
        have q3 : w3.cell? ⟨w.heap.size, 1, none⟩ = some (.slice oc s.classes.length kc) := F1.cell 1
        by_cases hcl : 0 < s.classes.length
        rotate_left
        · have hcz : ¬ (0 : Int) < (s.classes.length : Int) := by omega
          go_wp2_with (first | (with_reducible refine wp_ex_load rfl _ rfl ?_; refine ⟨_, rfl, _, _, F3, ?_⟩) | (with_reducible refine wp_ex_store rfl _ _ rfl ?_; refine ⟨_, rfl, _, _, _, _, rfl, _, _, F2, ?_⟩))
          exact bodyPost_ret (res_ex rfl _ _ _ _ _ rfl (F2.setRow _)) rfl ⟨_, ⟨l, (x : Int)⟩, rfl, ⟨_, rfl, show (_ : World).ownsRow _ _ _ _ l.length _ by rw [HDL.out]; exact own_base (own_setRow ow3 _ _ (by omega)) (by omega)⟩, HDL.out, HX.out _ (.inl rfl), cu3.rowW _ (by omega), grown_row gr3 (by omega) _⟩
        have hcz : (0 : Int) < (s.classes.length : Int) := by omega
        have hb := HD.out.2 0 h0
        obtain ⟨m, hm⟩ : ∃ m : Nat, l.getD 0 0 = (m : Int) - 1 := ⟨(l.getD 0 0 + 1).toNat, by omega⟩
        have hm6 : m ≤ 6 := by
          have := (bins_tiny (HTN.out.each _ (ad_mem h0))).2
          omega
        obtain ⟨go, fo, hov, hcell0⟩ : ∃ go fo, ov = some ⟨go, fo, none⟩ ∧ w3.cell? ⟨go, fo, none⟩ = some (.int .i64 ((m : Int) - 1)) := by
          have hrow := RowI.of_own ow3 HDL.out
          obtain ⟨o', c', e', -, hr'⟩ := hrow
          injection e' with e1 e2 e3
          obtain ⟨go, fo, e4, -, hj⟩ := hr' (by have := HDL.out; omega)
          have := hj 0 (by have := HDL.out; omega)
          rw [hm, Nat.add_zero] at this
          exact ⟨go, fo, by rw [e1, e4], this⟩
        subst hov
        clear hb hm
        have d0 : w3.drew.cell? ⟨go, fo, none⟩ = some (.int .i64 ((m : Int) - 1)) := hcell0
        have d1 : w3.drew.cell? ⟨w.heap.size, 1, none⟩ = some (.slice oc s.classes.length kc) := q3
        have d2 : w3.drew.cell? ⟨w.heap.size + 1 + 1, 0, none⟩ = some (.slice (some ⟨go, fo, none⟩) s.attrs.length cv) := F3.cell 0
        have d3 : w3.drew.cell? ⟨w.heap.size + 1 + 1, 1, none⟩ = some (.int .i64 (x : Int)) := F3.cell 1
        have f3 : w3.drew.frozen? ⟨w.heap.size + 1 + 1, 1, none⟩ = false := F3.frozen 1
        have q4 : w3.cell? ⟨w.heap.size + 1 + 1, 0, none⟩ = some (.slice (some ⟨go, fo, none⟩) s.attrs.length cv) := F3.cell 0
        have hcn : ¬ s.classes = [] := fun e => by rw [e] at hcl; simp at hcl
        have hwm : IntKind.i64.wrap (m : Int) = (m : Int) := by rw [IntKind.wrap_i64]; omega
        have htm : (m : Int).tmod (s.classes.length : Int) = ((m % s.classes.length : Nat) : Int) := by rfl
        have hyl := Nat.mod_lt m hcl
        generalize m % s.classes.length = y at htm hyl
        have L2 : Blk 101 (w3.setCell ⟨w.heap.size + 1 + 1, 1, none⟩ (.int .i64 (y : Int))).drew (w.heap.size + 1) #[.slice none 0 0, .int .i64 0] := F2.setCell_other ⟨w.heap.size + 1 + 1, 1, none⟩ (.int .i64 (y : Int)) (by simp)
        have L3 : Blk 101 (w3.setCell ⟨w.heap.size + 1 + 1, 1, none⟩ (.int .i64 (y : Int))).drew (w.heap.size + 1 + 1) #[.slice (some ⟨go, fo, none⟩) s.attrs.length cv, .int .i64 (y : Int)] := F3.setCell 1 (.int .i64 (y : Int))
        have ow5 : (w3.setCell ⟨w.heap.size + 1 + 1, 1, none⟩ (.int .i64 (y : Int))).drew.ownsRow (w.heap.size + 3) 3 1 (.slice (some ⟨go, fo, none⟩) s.attrs.length cv) s.attrs.length (l.map (Value.int .i64)) := own_setCell ow3 ⟨w.heap.size + 1 + 1, 1, none⟩ (.int .i64 (y : Int)) (by simp)
        have cu5 : IsCur (w3.setCell ⟨w.heap.size + 1 + 1, 1, none⟩ (.int .i64 (y : Int))).drew g a len cap := cu3.cellW (p := w.heap.size + 1 + 1) 1 (.int .i64 (y : Int)) (by omega)
        have gr4 := grown_cell gr3 (p := w.heap.size + 1 + 1) (k := 1) (by omega) (.int .i64 (y : Int))
        have gr5 : w.grownBy (w3.setCell ⟨w.heap.size + 1 + 1, 1, none⟩ (.int .i64 (y : Int))).drew (some g) := ⟨gr4.os, gr4.tape, gr4.output, gr4.size, gr4.block⟩
        clear gr4 F1 F2 F3 ow3 cu3 gr3 hcell0
        go_wp2
        go_region_law (fail)
        all_goals
          clear d0 d1 d2 d3 f3 q4 q3
          go_wp2_with (first | (with_reducible refine wp_ex_load rfl _ rfl ?_; refine ⟨_, rfl, _, _, L3, ?_⟩) | (with_reducible refine wp_ex_store rfl _ _ rfl ?_; refine ⟨_, rfl, _, _, _, _, rfl, _, _, L2, ?_⟩))
          exact bodyPost_ret (res_ex rfl _ _ _ _ _ rfl (L2.setRow _)) rfl ⟨_, ⟨l, (y : Int)⟩, rfl, ⟨_, rfl, show (_ : World).ownsRow _ _ _ _ l.length _ by rw [HDL.out]; exact own_base (own_setRow ow5 _ _ (by omega)) (by omega)⟩, HDL.out, HX.out _ (.inr ⟨by omega, by omega⟩), cu5.rowW _ (by omega), grown_row gr5 (by omega) _⟩
end Go.Proofs.Yteadkdllmeeocaa
