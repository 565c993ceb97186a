/- Chapter 7 in plain words: examples, cells, rows. -/
import Derived.Test.YtfekcckckmhioaaVc
import Derived.Test.YtfekcckckmhioaaVn0
import Derived.Test.YtfekcckckmhioaaCup
import Derived.Test.YtfekcckckmhioaaVkp
import Derived.Test.YtfekcckckmhioaaPc
import Derived.Test.YtfekcckckmhioaaVsp
namespace Go.Proofs.Ytfekcckckmhioaa
open Go.RowKit
set_option maxRecDepth 100000
structure ExD where
  bins : List Int
  cls : Int
/-- What a function knows of an example that it is handed. -/
def ExAt (w : World) (v : Value) (e : ExD) : Prop := ∃ vb, v = .agg #[vb, .int .i64 e.cls] ∧ RowI w vb e.bins
theorem ExAt.later {w w' : World} {v : Value} {e : ExD} (h : ExAt w v e) (hb : Below w.heap.size w w') : ExAt w' v e := by
  obtain ⟨vb, rfl, h1⟩ := h
  exact ⟨vb, rfl, h1.later hb⟩
/-- An example whose list is the call's own. -/
def OwnE (base : Nat) (w : World) (v : Value) (e : ExD) : Prop := ∃ vb, v = .agg #[vb, .int .i64 e.cls] ∧ w.ownsRow base 3 1 vb e.bins.length (e.bins.map (Value.int .i64))
theorem OwnE.at {base : Nat} {w : World} {v : Value} {e : ExD} (h : OwnE base w v e) : ExAt w v e := by
  obtain ⟨vb, rfl, h1⟩ := h
  exact ⟨vb, rfl, RowI.of_own h1 rfl⟩
theorem OwnE.below {base : Nat} {w w' : World} {v : Value} {e : ExD} (h : OwnE base w v e) (hb : Below w.heap.size w w') : OwnE base w' v e := by
  obtain ⟨vb, rfl, h1⟩ := h
  exact ⟨vb, rfl, own_below h1 hb⟩
def noEx : ExD := ⟨[], 0⟩
def exSame (a b : ExD) : Bool := decide (a.cls = b.cls) && decide (a.bins = b.bins)

/-- The first place of a text in a list, -1 where there is none. -/
def placeFrom (ss : List ByteArray) (t : ByteArray) (k : Nat) : Nat → Int
  | 0 => -1
  | n + 1 => if tx ss k = t then k else placeFrom ss t (k + 1) n
def placeT (ss : List ByteArray) (t : ByteArray) : Int := placeFrom ss t 0 ss.length
theorem placeFrom_step {ss : List ByteArray} {t : ByteArray} {k n : Nat} (h : k < n) : placeFrom ss t k (n - k) = if tx ss k = t then (k : Int) else placeFrom ss t (k + 1) (n - (k + 1)) := by
  rw [show n - k = (n - (k + 1)) + 1 by omega]; rfl
theorem placeFrom_end (ss : List ByteArray) (t : ByteArray) (k : Nat) : placeFrom ss t k 0 = -1 := rfl
theorem placeFrom_le {ss : List ByteArray} {t : ByteArray} : ∀ (n k : Nat), -1 ≤ placeFrom ss t k n ∧ (placeFrom ss t k n < (k : Int) + n ∨ placeFrom ss t k n = -1)
  | 0, k => ⟨by simp [placeFrom], .inr rfl⟩
  | n + 1, k => by
    unfold placeFrom
    split
    · exact ⟨by omega, .inl (by omega)⟩
    · have := placeFrom_le (ss := ss) (t := t) n (k + 1)
      exact ⟨this.1, this.2.elim (fun h => .inl (by omega)) .inr⟩
theorem placeT_bounds (ss : List ByteArray) (t : ByteArray) : -1 ≤ placeT ss t ∧ placeT ss t < (ss.length : Int) + 1 := by
  have := placeFrom_le (ss := ss) (t := t) ss.length 0
  unfold placeT
  omega
def askB : ByteArray := ⟨#[63]⟩
/-- What a part of a row says of an attribute. -/
def cellB (a : AttrD) (t : ByteArray) : Option Int :=
  if t = askB then some (-1)
  else if 0 < a.vals.length then (if 0 ≤ placeT a.vals t then some (placeT a.vals t) else none)
  else (sigSpec t.data.toList).map fun n => (binN a.cuts n : Int)
def binRight (s : SchemaD) (e : ExD) (i : Nat) : Bool := decide (-1 ≤ e.bins.getD i 0 ∧ e.bins.getD i 0 ≤ bins (ad s.attrs i) - 1)
def binsRight (s : SchemaD) (e : ExD) : Bool := (List.range e.bins.length).all (binRight s e)
theorem binsRight_yes {s : SchemaD} {e : ExD} (h : ∀ j, j < e.bins.length → binRight s e j = true) : binsRight s e = true := by
  unfold binsRight
  rw [List.all_eq_true]
  intro j hj
  exact h j (List.mem_range.1 hj)
theorem binsRight_no {s : SchemaD} {e : ExD} (j : Nat) (hj : j < e.bins.length) (h : binRight s e j = false) : binsRight s e = false := by
  cases e' : binsRight s e with
  | false => rfl
  | true =>
    unfold binsRight at e'
    rw [List.all_eq_true] at e'
    have := e' j (List.mem_range.2 hj)
    rw [h] at this; cases this
def exOk (s : SchemaD) (e : ExD) : Bool :=
  schemaOk s && (decide (e.bins.length = s.attrs.length) && (decide (-1 ≤ e.cls ∧ e.cls ≤ (s.classes.length : Int) - 1) && binsRight s e))
def cellText (a : AttrD) (b : Int) : ByteArray :=
  if attrOk a = true ∧ -1 ≤ b ∧ b ≤ bins a - 1 then
    (if b = -1 then askB else if 0 < a.vals.length then tx a.vals b.toNat
      else if b < (a.cuts.length : Int) then itB (a.cuts.getD b.toNat 0) else itB (a.cuts.getD (a.cuts.length - 1) 0 + 1))
  else ⟨#[]⟩
def classText (s : SchemaD) (c : Int) : ByteArray := if 0 ≤ c then tx s.classes c.toNat else askB
def cellsT (s : SchemaD) (e : ExD) (k : Nat) : List ByteArray := (List.range k).map fun i => cellText (ad s.attrs i) (e.bins.getD i 0)
theorem cellsT_succ (s : SchemaD) (e : ExD) (k : Nat) : cellsT s e (k + 1) = cellsT s e k ++ [cellText (ad s.attrs k) (e.bins.getD k 0)] := by simp [cellsT, List.range_succ]
theorem cellsT_len (s : SchemaD) (e : ExD) (k : Nat) : (cellsT s e k).length = k := by simp [cellsT]
def exText (s : SchemaD) (e : ExD) : ByteArray :=
  if exOk s e = true then joinT (cellsT s e e.bins.length) ⟨#[44]⟩ ++ ⟨#[124]⟩ ++ classText s e.cls else ⟨#[]⟩
/-- The bins of the first parts, as long as each says one; else the place of the first that says none. -/
def binsFrom (ls : List AttrD) (ps : List ByteArray) : Nat → Option (List Int)
  | 0 => some []
  | k + 1 => match binsFrom ls ps k, cellB (ad ls k) (tx ps k) with
    | some l, some b => some (l ++ [b])
    | _, _ => none
def firstBad (ls : List AttrD) (ps : List ByteArray) (k : Nat) : Nat → Nat
  | 0 => k
  | n + 1 => if (cellB (ad ls k) (tx ps k)).isSome then firstBad ls ps (k + 1) n else k
/-- A row: the example, the code, the place. -/
def rowOf (s : SchemaD) (row : ByteArray) : ExD × Int × Int :=
  if schemaOk s = true then
    if row.size ≤ 80 then
      let hs := pieces 124 row
      if hs.length = 2 then
        let ps := pieces 44 (tx hs 0)
        if ps.length = s.attrs.length then
          match binsFrom s.attrs ps ps.length with
          | none => (noEx, 5, (firstBad s.attrs ps 0 ps.length : Int))
          | some l => if 0 ≤ placeT s.classes (tx hs 1) ∨ tx hs 1 = askB then (⟨l, placeT s.classes (tx hs 1)⟩, 0, 0) else (noEx, 6, 0)
        else (noEx, 4, 0)
      else (noEx, 3, 0)
    else (noEx, 2, 0)
  else (noEx, 1, 0)
end Go.Proofs.Ytfekcckckmhioaa
