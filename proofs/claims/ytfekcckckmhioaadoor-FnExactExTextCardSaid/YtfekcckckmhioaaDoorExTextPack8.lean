/- Texts of this claim, put together: part 8. -/
import Derived.Test.YtfekcckckmhioaaDoorExTextPack4
import Derived.Test.YtfekcckckmhioaaDoorExTextPack6
import Derived.Test.YtfekcckckmhioaaDoorExTextPack7
import Derived.Test.YtfekcckckmhioaaDoorExTextPack3
import Derived.Test.YtfekcckckmhioaaDoorExTextPack5
/- Chapter 7 in plain words: examples, cells, rows. -/
namespace Go.Proofs.YtfekcckckmhioaaDoor
open Go.RowKit
set_option maxRecDepth 100000
structure ExD where
  bins : List Int
  cls : Int
/-- What a function knows of an example that it is handed. -/
def ExAt (w : World) (v : Value) (e : ExD) : Prop := ∃ vb, v = .agg #[vb, .int .i64 e.cls] ∧ RowI w vb e.bins
theorem ExAt.later {w w' : World} {v : Value} {e : ExD} (h : ExAt w v e) (hb : Below w.heap.size w w') : ExAt w' v e := by
  obtain ⟨vb, rfl, h1⟩ := h
  exact ⟨vb, rfl, h1.later hb⟩
/-- An example whose list is the call's own. -/
def OwnE (base : Nat) (w : World) (v : Value) (e : ExD) : Prop := ∃ vb, v = .agg #[vb, .int .i64 e.cls] ∧ w.ownsRow base 3 1 vb e.bins.length (e.bins.map (Value.int .i64))
theorem OwnE.at {base : Nat} {w : World} {v : Value} {e : ExD} (h : OwnE base w v e) : ExAt w v e := by
  obtain ⟨vb, rfl, h1⟩ := h
  exact ⟨vb, rfl, RowI.of_own h1 rfl⟩
theorem OwnE.below {base : Nat} {w w' : World} {v : Value} {e : ExD} (h : OwnE base w v e) (hb : Below w.heap.size w w') : OwnE base w' v e := by
  obtain ⟨vb, rfl, h1⟩ := h
  exact ⟨vb, rfl, own_below h1 hb⟩
def noEx : ExD := ⟨[], 0⟩
def exSame (a b : ExD) : Bool := decide (a.cls = b.cls) && decide (a.bins = b.bins)

/-- The first place of a text in a list, -1 where there is none. -/
def placeFrom (ss : List ByteArray) (t : ByteArray) (k : Nat) : Nat → Int
  | 0 => -1
  | n + 1 => if tx ss k = t then k else placeFrom ss t (k + 1) n
def placeT (ss : List ByteArray) (t : ByteArray) : Int := placeFrom ss t 0 ss.length
theorem placeFrom_step {ss : List ByteArray} {t : ByteArray} {k n : Nat} (h : k < n) : placeFrom ss t k (n - k) = if tx ss k = t then (k : Int) else placeFrom ss t (k + 1) (n - (k + 1)) := by
  rw [show n - k = (n - (k + 1)) + 1 by omega]; rfl
theorem placeFrom_end (ss : List ByteArray) (t : ByteArray) (k : Nat) : placeFrom ss t k 0 = -1 := rfl
theorem placeFrom_le {ss : List ByteArray} {t : ByteArray} : ∀ (n k : Nat), -1 ≤ placeFrom ss t k n ∧ (placeFrom ss t k n < (k : Int) + n ∨ placeFrom ss t k n = -1)
  | 0, k => ⟨by simp [placeFrom], .inr rfl⟩
  | n + 1, k => by
    unfold placeFrom
    split
    · exact ⟨by omega, .inl (by omega)⟩
    · have := placeFrom_le (ss := ss) (t := t) n (k + 1)
      exact ⟨this.1, this.2.elim (fun h => .inl (by omega)) .inr⟩
theorem placeT_bounds (ss : List ByteArray) (t : ByteArray) : -1 ≤ placeT ss t ∧ placeT ss t < (ss.length : Int) + 1 := by
  have := placeFrom_le (ss := ss) (t := t) ss.length 0
  unfold placeT
  omega
def askB : ByteArray := ⟨#[63]⟩
/-- What a part of a row says of an attribute. -/
def cellB (a : AttrD) (t : ByteArray) : Option Int :=
  if t = askB then some (-1)
  else if 0 < a.vals.length then (if 0 ≤ placeT a.vals t then some (placeT a.vals t) else none)
  else (sigSpec t.data.toList).map fun n => (binN a.cuts n : Int)
def binRight (s : SchemaD) (e : ExD) (i : Nat) : Bool := decide (-1 ≤ e.bins.getD i 0 ∧ e.bins.getD i 0 ≤ bins (ad s.attrs i) - 1)
def binsRight (s : SchemaD) (e : ExD) : Bool := (List.range e.bins.length).all (binRight s e)
theorem binsRight_yes {s : SchemaD} {e : ExD} (h : ∀ j, j < e.bins.length → binRight s e j = true) : binsRight s e = true := by
  unfold binsRight
  rw [List.all_eq_true]
  intro j hj
  exact h j (List.mem_range.1 hj)
theorem binsRight_no {s : SchemaD} {e : ExD} (j : Nat) (hj : j < e.bins.length) (h : binRight s e j = false) : binsRight s e = false := by
  cases e' : binsRight s e with
  | false => rfl
  | true =>
    unfold binsRight at e'
    rw [List.all_eq_true] at e'
    have := e' j (List.mem_range.2 hj)
    rw [h] at this; cases this
def exOk (s : SchemaD) (e : ExD) : Bool :=
  schemaOk s && (decide (e.bins.length = s.attrs.length) && (decide (-1 ≤ e.cls ∧ e.cls ≤ (s.classes.length : Int) - 1) && binsRight s e))
def cellText (a : AttrD) (b : Int) : ByteArray :=
  if attrOk a = true ∧ -1 ≤ b ∧ b ≤ bins a - 1 then
    (if b = -1 then askB else if 0 < a.vals.length then tx a.vals b.toNat
      else if b < (a.cuts.length : Int) then itB (a.cuts.getD b.toNat 0) else itB (a.cuts.getD (a.cuts.length - 1) 0 + 1))
  else ⟨#[]⟩
def classText (s : SchemaD) (c : Int) : ByteArray := if 0 ≤ c then tx s.classes c.toNat else askB
def cellsT (s : SchemaD) (e : ExD) (k : Nat) : List ByteArray := (List.range k).map fun i => cellText (ad s.attrs i) (e.bins.getD i 0)
theorem cellsT_succ (s : SchemaD) (e : ExD) (k : Nat) : cellsT s e (k + 1) = cellsT s e k ++ [cellText (ad s.attrs k) (e.bins.getD k 0)] := by simp [cellsT, List.range_succ]
theorem cellsT_len (s : SchemaD) (e : ExD) (k : Nat) : (cellsT s e k).length = k := by simp [cellsT]
def exText (s : SchemaD) (e : ExD) : ByteArray :=
  if exOk s e = true then joinT (cellsT s e e.bins.length) ⟨#[44]⟩ ++ ⟨#[124]⟩ ++ classText s e.cls else ⟨#[]⟩
/-- The bins of the first parts, as long as each says one; else the place of the first that says none. -/
def binsFrom (ls : List AttrD) (ps : List ByteArray) : Nat → Option (List Int)
  | 0 => some []
  | k + 1 => match binsFrom ls ps k, cellB (ad ls k) (tx ps k) with
    | some l, some b => some (l ++ [b])
    | _, _ => none
def firstBad (ls : List AttrD) (ps : List ByteArray) (k : Nat) : Nat → Nat
  | 0 => k
  | n + 1 => if (cellB (ad ls k) (tx ps k)).isSome then firstBad ls ps (k + 1) n else k
/-- A row: the example, the code, the place. -/
def rowOf (s : SchemaD) (row : ByteArray) : ExD × Int × Int :=
  if schemaOk s = true then
    if row.size ≤ 80 then
      let hs := pieces 124 row
      if hs.length = 2 then
        let ps := pieces 44 (tx hs 0)
        if ps.length = s.attrs.length then
          match binsFrom s.attrs ps ps.length with
          | none => (noEx, 5, (firstBad s.attrs ps 0 ps.length : Int))
          | some l => if 0 ≤ placeT s.classes (tx hs 1) ∨ tx hs 1 = askB then (⟨l, placeT s.classes (tx hs 1)⟩, 0, 0) else (noEx, 6, 0)
        else (noEx, 4, 0)
      else (noEx, 3, 0)
    else (noEx, 2, 0)
  else (noEx, 1, 0)
end Go.Proofs.YtfekcckckmhioaaDoor
/- An example in a block of its own: it is read and written whole, it is handed back. -/
namespace Go.Proofs.YtfekcckckmhioaaDoor
open Go.RowKit
set_option maxRecDepth 100000
theorem ex_size : (Tryd.prog.info? 44).map (·.size) = some 2 := by kernel_rfl
theorem wp_ex_load {ops : Array Oper} {rest : List Oper} {o : Oper} {a : Act} {w : World} {Q : Exit → Act → World → Prop} (hgd : o.guard = none) (x : Operand) (ho : o.op = .load 44 x)
    (h : ∃ g, a.eval x = .pointer (some ⟨g, 0, none⟩) ∧ ∃ c0 c1, Blk 44 w g #[c0, c1] ∧ wpList Tryd.prog ops Q rest (a.put o.dst (.agg #[c0, c1])) w) : wpList Tryd.prog ops Q (o :: rest) a w := by
  obtain ⟨g, hx, c0, c1, hA, hk⟩ := h
  exact wpList_load_row hgd 44 x ho g hx _ _ _ _ hA Tryd.underlying44 rfl ex_size hk
theorem wp_ex_store {ops : Array Oper} {rest : List Oper} {o : Oper} {a : Act} {w : World} {Q : Exit → Act → World → Prop} (hgd : o.guard = none) (x y : Operand) (ho : o.op = .store 44 x y)
    (h : ∃ g, a.eval x = .pointer (some ⟨g, 0, none⟩) ∧ ∃ o1 l1 k1 n, a.eval y = .agg #[.slice o1 l1 k1, .int .i64 n] ∧ ∃ d0 d1, Blk 44 w g #[d0, d1] ∧ wpList Tryd.prog ops Q rest (a.put o.dst undef) (w.setRow g #[.slice o1 l1 k1, .int .i64 n])) : wpList Tryd.prog ops Q (o :: rest) a w := by
  obtain ⟨g, hx, o1, l1, k1, n, hy, d0, d1, hA, hk⟩ := h
  exact wpList_store_row hgd 44 x y ho g _ hx hy _ _ hA ex_size rfl (by simp [Value.oneCell']) hk
theorem res_ex {fn : Func} {p : Tmp} (h : fn.results = #[.cell p 44]) (tmps : Array Value) (w : World) (g : Nat) (c0 c1 : Value)
    (hp : tmps.getD p undef = .pointer (some ⟨g, 0, none⟩)) (hg : Blk 44 w g #[c0, c1]) : (results fn tmps).run Tryd.prog w = .ok (.agg #[c0, c1]) w :=
  results_cell_row h tmps w g _ _ _ _ hp hg Tryd.underlying44 rfl ex_size
end Go.Proofs.YtfekcckckmhioaaDoor
/- What the laws' own helpers do with an example that came in: its size, a copy of it, two held against each other. -/
namespace Go.Proofs.YtfekcckckmhioaaDoor
open Go.RowKit
set_option maxRecDepth 100000
structure inE (e : ExD) : Prop where
  bins : e.bins.length ≤ 9223372036854775807
structure fitE (e : ExD) : Prop where
  bins : e.bins.length ≤ 1048576
set_option maxHeartbeats 800000 in
theorem toEx_row (v : Value) (a : ExD) (w : World) (h : ExAt w v a) (hn : a.bins.length ≤ 1048576) :
    Calls Tryd.prog 14 #[v] w fun e w' => ∃ v', e = .returned v' ∧ OwnE w.heap.size w' v' a ∧ Below w.heap.size w w' := by
  obtain ⟨vc, rfl, hc⟩ := h
  have HC : Hid (RowI w vc a.bins) := hc
  clear hc
  go_enter Tryd.func14, Tryd.ntmps14
  go_wp2_with fail
  obtain ⟨K1, K2, K3, B0⟩ := blk_3 36 44 44 w #[vc, .int .i64 a.cls] #[.slice none 0 0, .int .i64 0] #[.slice none 0 0, .int .i64 0]
  refine (toI_row vc a.bins _ (HC.out.later B0) hn).mono ?_
  rintro e w1 ⟨g1, rfl, ho1, hb1⟩
  replace K1 := K1.below hb1
  replace K2 := K2.below hb1
  replace K3 := K3.below hb1
  have hsz := hb1.size
  simp at hsz
  have ho1 := own_base ho1 (b' := w.heap.size + 3) (by simp)
  have B1 : Below w.heap.size w w1 := B0.trans (hb1.mono (by simp; omega))
  clear hb1 B0
  have c3 : w1.cell? ⟨w.heap.size + 1 + 1, 0, none⟩ = some (.slice none 0 0) := K3.cell 0
  have c31 : w1.cell? ⟨w.heap.size + 1 + 1, 1, none⟩ = some (.int .i64 0) := K3.cell 1
  have f3 := K3.frozen 0
  have f31 := K3.frozen 1
  have S1 := K1.setCell_other ⟨w.heap.size + 1 + 1, 0, none⟩ (.slice (some ⟨g1, 0, none⟩) a.bins.length a.bins.length) (by simp; omega)
  have S2 := K2.setCell_other ⟨w.heap.size + 1 + 1, 0, none⟩ (.slice (some ⟨g1, 0, none⟩) a.bins.length a.bins.length) (by simp)
  have S3 := K3.setCell 0 (.slice (some ⟨g1, 0, none⟩) a.bins.length a.bins.length)
  have B2 : Below w.heap.size w (w1.setCell ⟨w.heap.size + 1 + 1, 0, none⟩ (.slice (some ⟨g1, 0, none⟩) a.bins.length a.bins.length)) := B1.setCell (p := ⟨w.heap.size + 1 + 1, 0, none⟩) (by simp; omega) _
  have O1 := own_setCell ho1 ⟨w.heap.size + 1 + 1, 0, none⟩ (.slice (some ⟨g1, 0, none⟩) a.bins.length a.bins.length) (by simp)
  have cS : (w1.setCell ⟨w.heap.size + 1 + 1, 0, none⟩ (.slice (some ⟨g1, 0, none⟩) a.bins.length a.bins.length)).cell? ⟨w.heap.size, 1, none⟩ = some (.int .i64 a.cls) := S1.cell 1
  have cT : (w1.setCell ⟨w.heap.size + 1 + 1, 0, none⟩ (.slice (some ⟨g1, 0, none⟩) a.bins.length a.bins.length)).cell? ⟨w.heap.size + 1 + 1, 1, none⟩ = some (.int .i64 0) := S3.cell 1
  have fT := S3.frozen 1
  have T2 := S2.setCell_other ⟨w.heap.size + 1 + 1, 1, none⟩ (.int .i64 a.cls) (by simp)
  have T3 := S3.setCell 1 (.int .i64 a.cls)
  have B3 := B2.setCell (p := ⟨w.heap.size + 1 + 1, 1, none⟩) (by simp; omega) (.int .i64 a.cls)
  have O2 := own_setCell O1 ⟨w.heap.size + 1 + 1, 1, none⟩ (.int .i64 a.cls) (by simp)
  have HT : Hid (Below w.heap.size w ((w1.setCell ⟨w.heap.size + 1 + 1, 0, none⟩ (.slice (some ⟨g1, 0, none⟩) a.bins.length a.bins.length)).setCell ⟨w.heap.size + 1 + 1, 1, none⟩ (.int .i64 a.cls)) ∧ ((w1.setCell ⟨w.heap.size + 1 + 1, 0, none⟩ (.slice (some ⟨g1, 0, none⟩) a.bins.length a.bins.length)).setCell ⟨w.heap.size + 1 + 1, 1, none⟩ (.int .i64 a.cls)).ownsRow (w.heap.size + 3) 3 1 (.slice (some ⟨g1, 0, none⟩) a.bins.length a.bins.length) a.bins.length (a.bins.map (Value.int .i64))) := ⟨B3, O2⟩
  have HT2 : Hid (Blk 44 ((w1.setCell ⟨w.heap.size + 1 + 1, 0, none⟩ (.slice (some ⟨g1, 0, none⟩) a.bins.length a.bins.length)).setCell ⟨w.heap.size + 1 + 1, 1, none⟩ (.int .i64 a.cls)) (w.heap.size + 1) #[.slice none 0 0, .int .i64 0] ∧ Blk 44 ((w1.setCell ⟨w.heap.size + 1 + 1, 0, none⟩ (.slice (some ⟨g1, 0, none⟩) a.bins.length a.bins.length)).setCell ⟨w.heap.size + 1 + 1, 1, none⟩ (.int .i64 a.cls)) (w.heap.size + 1 + 1) #[.slice (some ⟨g1, 0, none⟩) a.bins.length a.bins.length, .int .i64 a.cls]) := ⟨T2, T3⟩
  clear K1 K2 K3 S1 S2 S3 B2 O1 ho1 B1 T2 T3 B3 O2
  go_wp2_with (first | (with_reducible refine wp_ex_load rfl _ rfl ?_; refine ⟨_, rfl, _, _, HT2.out.2, ?_⟩) | (with_reducible refine wp_ex_store rfl _ _ rfl ?_; refine ⟨_, rfl, _, _, _, _, rfl, _, _, HT2.out.1, ?_⟩))
  refine bodyPost_ret (res_ex Tryd.results14 _ _ _ _ _ rfl (HT2.out.1.setRow _)) rfl ⟨_, rfl, ⟨_, rfl, ?_⟩, ?_⟩
  · exact own_base (own_setRow HT.out.2 _ _ (by omega)) (by omega)
  · exact below_row HT.out.1 (by omega) _

theorem eqEx_row (va vb : Value) (a : ExD) (w : World) (ha : ExAt w va a) (hb : ExAt w vb a) (hn : a.bins.length ≤ 1099511627776) :
    Calls Tryd.prog 17 #[va, vb] w fun e w' => e = .returned (.bool true) ∧ Below w.heap.size w w' := by
  obtain ⟨ca, rfl, ha1⟩ := ha
  obtain ⟨cb, rfl, hb1⟩ := hb
  have HA : Hid (RowI w ca a.bins ∧ RowI w cb a.bins) := ⟨ha1, hb1⟩
  clear ha1 hb1
  go_enter Tryd.func17, Tryd.ntmps17
  go_wp2_with fail
  obtain ⟨K1, K2, B0⟩ := blk_2 44 44 w #[ca, .int .i64 a.cls] #[cb, .int .i64 a.cls]
  obtain ⟨h1, h2⟩ := HA.out
  refine (eqI_row ca cb a.bins _ (h1.later B0) (h2.later B0) hn).mono ?_
  rintro e w1 ⟨rfl, hb1⟩
  have B1 := B0.trans (hb1.mono (by simp; omega))
  have k1 : w1.cell? ⟨w.heap.size, 1, none⟩ = some (.int .i64 a.cls) := (K1.below hb1).cell 1
  have k2 : w1.cell? ⟨w.heap.size + 1, 1, none⟩ = some (.int .i64 a.cls) := (K2.below hb1).cell 1
  clear HA h1 h2 K1 K2 B0 hb1
  go_wp2
  go_ret
  exact ⟨rfl, B1⟩

set_option maxHeartbeats 400000 in
theorem szEx_row (v : Value) (a : ExD) (left : Int) (w : World) (h : ExAt w v a) (hn : inE a) (h0 : 0 ≤ left) (h1 : left ≤ 1048576) :
    Calls Tryd.prog 11 #[v, .int .i64 left] w fun e w' => ∃ r : Int, e = .returned (.int .i64 r) ∧ ((0 ≤ r ∧ r ≤ left ∧ fitE a) ∨ r = -1) ∧ Below w.heap.size w w' := by
  obtain ⟨vc, rfl, hc⟩ := h
  obtain ⟨oc, cc, rfl, hcc, hcr⟩ := hc
  have HO : Hid (inE a) := hn
  clear hcr hn
  go_enter Tryd.func11, Tryd.ntmps11
  go_wp2_with fail
  obtain ⟨K, B0⟩ := blk_1 36 w #[.slice oc a.bins.length cc, .int .i64 a.cls]
  refine (szI_any oc a.bins.length cc _ _ HO.out.bins h0 h1).mono ?_
  rintro e w1 ⟨r, rfl, hr, hb1⟩
  have B1 := B0.trans (hb1.mono (by simp))
  clear K B0 hb1
  rcases hr with ⟨r0, r1, r2⟩ | rfl
  · go_wp2
    go_ret
    exact ⟨_, rfl, .inl ⟨r0, r1, ⟨by omega⟩⟩, B1⟩
  · go_wp2
    go_ret
    exact ⟨_, rfl, .inr rfl, B1⟩
end Go.Proofs.YtfekcckckmhioaaDoor
/- An example that comes in to a law: what its reading says of its cells. -/
namespace Go.Proofs.YtfekcckckmhioaaDoor
open Go.ChangeShapes Go.WideShapes Go.ChangeAt Go.RowKit Go.Deep
set_option maxRecDepth 100000
theorem ex_cells : Tryd.prog.cellsOf 36 = 2 := by kernel_rfl
theorem open_ex {H : Type} {enc : TypeId × Value → H} {W : World} {r : Reach} {b0 base : Nat} {hd : Bool} {v : Value} {d : DataW H} {ps : List MemPlace}
    (hval : Value.okWide Tryd.prog W r b0 36 v) (h : DataW.Trod enc Tryd.prog W base (fun _ => true) hd 36 v d ps) : ∃ a : ExD, ExAt W v a ∧ inE a := by
  obtain ⟨cs, rfl, hs⟩ := okWide_struct Tryd.underlying36 hval
  obtain ⟨fuel, hf⟩ := h
  obtain ⟨y0, y1, n, -, hl, t0, t1⟩ := trod_struct2 Tryd.underlying36 hf
  rw [ex_cells] at hl
  obtain ⟨l⟩ := cs
  simp [Value.cells] at hl t0 t1
  match l, hl with
  | [c0, c1], _ =>
    obtain ⟨vb, zs, hb, rb, lb⟩ := row_ints t0
    obtain ⟨m, hm, -⟩ := DataW.trod_int Tryd.underlying3 t1
    simp [cells1_ints, cells1_int] at hb hm
    exact ⟨⟨zs, m⟩, ⟨vb, by rw [hb, hm], rb⟩, ⟨lb⟩⟩
end Go.Proofs.YtfekcckckmhioaaDoor
