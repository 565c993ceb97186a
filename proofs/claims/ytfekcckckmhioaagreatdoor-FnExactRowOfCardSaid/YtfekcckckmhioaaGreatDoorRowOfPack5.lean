/- Texts of this claim, put together: part 5. -/
import Derived.Test.YtfekcckckmhioaaGreatDoorRowOfPack1
import Derived.Test.YtfekcckckmhioaaGreatDoorRowOfPack2
import Derived.Test.YtfekcckckmhioaaGreatDoorRowOfPack3
import Derived.Test.YtfekcckckmhioaaGreatDoorRowOfPack4
import Derived.Test.YtfekcckckmhioaaGreatDoorRows
import Derived.WalkKit
import Derived.ProofKit
import Derived.OpenShut
import Derived.Laws.BytesArg
import Derived.Lib.ItoaNum
/- What the laws' own helpers do with lists of texts and of integers that came in: their sizes, copies of them, held against each other. (What is plain.) -/
namespace Go.Proofs.YtfekcckckmhioaaGreatDoor
open Go.RowKit
set_option maxRecDepth 100000
theorem strInfo : (Tryz.prog.info? 9).map (fun i => (i.zero, i.size, i.bytes)) = some (some (.string ⟨#[]⟩), 1, 16) := by kernel_rfl
end Go.Proofs.YtfekcckckmhioaaGreatDoor
/- Chapter 7 in plain words: examples, cells, rows. -/
namespace Go.Proofs.YtfekcckckmhioaaGreatDoor
open Go.RowKit
set_option maxRecDepth 100000
structure ExD where
  bins : List Int
  cls : Int
/-- What a function knows of an example that it is handed. -/
def ExAt (w : World) (v : Value) (e : ExD) : Prop := ∃ vb, v = .agg #[vb, .int .i64 e.cls] ∧ RowI w vb e.bins
theorem ExAt.later {w w' : World} {v : Value} {e : ExD} (h : ExAt w v e) (hb : Below w.heap.size w w') : ExAt w' v e := by
  obtain ⟨vb, rfl, h1⟩ := h
  exact ⟨vb, rfl, h1.later hb⟩
/-- An example whose list is the call's own. -/
def OwnE (base : Nat) (w : World) (v : Value) (e : ExD) : Prop := ∃ vb, v = .agg #[vb, .int .i64 e.cls] ∧ w.ownsRow base 3 1 vb e.bins.length (e.bins.map (Value.int .i64))
theorem OwnE.at {base : Nat} {w : World} {v : Value} {e : ExD} (h : OwnE base w v e) : ExAt w v e := by
  obtain ⟨vb, rfl, h1⟩ := h
  exact ⟨vb, rfl, RowI.of_own h1 rfl⟩
theorem OwnE.below {base : Nat} {w w' : World} {v : Value} {e : ExD} (h : OwnE base w v e) (hb : Below w.heap.size w w') : OwnE base w' v e := by
  obtain ⟨vb, rfl, h1⟩ := h
  exact ⟨vb, rfl, own_below h1 hb⟩
def noEx : ExD := ⟨[], 0⟩
def exSame (a b : ExD) : Bool := decide (a.cls = b.cls) && decide (a.bins = b.bins)

/-- The first place of a text in a list, -1 where there is none. -/
def placeFrom (ss : List ByteArray) (t : ByteArray) (k : Nat) : Nat → Int
  | 0 => -1
  | n + 1 => if tx ss k = t then k else placeFrom ss t (k + 1) n
def placeT (ss : List ByteArray) (t : ByteArray) : Int := placeFrom ss t 0 ss.length
theorem placeFrom_step {ss : List ByteArray} {t : ByteArray} {k n : Nat} (h : k < n) : placeFrom ss t k (n - k) = if tx ss k = t then (k : Int) else placeFrom ss t (k + 1) (n - (k + 1)) := by
  rw [show n - k = (n - (k + 1)) + 1 by omega]; rfl
theorem placeFrom_end (ss : List ByteArray) (t : ByteArray) (k : Nat) : placeFrom ss t k 0 = -1 := rfl
theorem placeFrom_le {ss : List ByteArray} {t : ByteArray} : ∀ (n k : Nat), -1 ≤ placeFrom ss t k n ∧ (placeFrom ss t k n < (k : Int) + n ∨ placeFrom ss t k n = -1)
  | 0, k => ⟨by simp [placeFrom], .inr rfl⟩
  | n + 1, k => by
    unfold placeFrom
    split
    · exact ⟨by omega, .inl (by omega)⟩
    · have := placeFrom_le (ss := ss) (t := t) n (k + 1)
      exact ⟨this.1, this.2.elim (fun h => .inl (by omega)) .inr⟩
theorem placeT_bounds (ss : List ByteArray) (t : ByteArray) : -1 ≤ placeT ss t ∧ placeT ss t < (ss.length : Int) + 1 := by
  have := placeFrom_le (ss := ss) (t := t) ss.length 0
  unfold placeT
  omega
def askB : ByteArray := ⟨#[63]⟩
/-- What a part of a row says of an attribute. -/
def cellB (a : AttrD) (t : ByteArray) : Option Int :=
  if t = askB then some (-1)
  else if 0 < a.vals.length then (if 0 ≤ placeT a.vals t then some (placeT a.vals t) else none)
  else (sigSpec t.data.toList).map fun n => (binN a.cuts n : Int)
def binRight (s : SchemaD) (e : ExD) (i : Nat) : Bool := decide (-1 ≤ e.bins.getD i 0 ∧ e.bins.getD i 0 ≤ bins (ad s.attrs i) - 1)
def binsRight (s : SchemaD) (e : ExD) : Bool := (List.range e.bins.length).all (binRight s e)
theorem binsRight_yes {s : SchemaD} {e : ExD} (h : ∀ j, j < e.bins.length → binRight s e j = true) : binsRight s e = true := by
  unfold binsRight
  rw [List.all_eq_true]
  intro j hj
  exact h j (List.mem_range.1 hj)
theorem binsRight_no {s : SchemaD} {e : ExD} (j : Nat) (hj : j < e.bins.length) (h : binRight s e j = false) : binsRight s e = false := by
  cases e' : binsRight s e with
  | false => rfl
  | true =>
    unfold binsRight at e'
    rw [List.all_eq_true] at e'
    have := e' j (List.mem_range.2 hj)
    rw [h] at this; cases this
def exOk (s : SchemaD) (e : ExD) : Bool :=
  schemaOk s && (decide (e.bins.length = s.attrs.length) && (decide (-1 ≤ e.cls ∧ e.cls ≤ (s.classes.length : Int) - 1) && binsRight s e))
def cellText (a : AttrD) (b : Int) : ByteArray :=
  if attrOk a = true ∧ -1 ≤ b ∧ b ≤ bins a - 1 then
    (if b = -1 then askB else if 0 < a.vals.length then tx a.vals b.toNat
      else if b < (a.cuts.length : Int) then itB (a.cuts.getD b.toNat 0) else itB (a.cuts.getD (a.cuts.length - 1) 0 + 1))
  else ⟨#[]⟩
def classText (s : SchemaD) (c : Int) : ByteArray := if 0 ≤ c then tx s.classes c.toNat else askB
def cellsT (s : SchemaD) (e : ExD) (k : Nat) : List ByteArray := (List.range k).map fun i => cellText (ad s.attrs i) (e.bins.getD i 0)
theorem cellsT_succ (s : SchemaD) (e : ExD) (k : Nat) : cellsT s e (k + 1) = cellsT s e k ++ [cellText (ad s.attrs k) (e.bins.getD k 0)] := by simp [cellsT, List.range_succ]
theorem cellsT_len (s : SchemaD) (e : ExD) (k : Nat) : (cellsT s e k).length = k := by simp [cellsT]
def exText (s : SchemaD) (e : ExD) : ByteArray :=
  if exOk s e = true then joinT (cellsT s e e.bins.length) ⟨#[44]⟩ ++ ⟨#[124]⟩ ++ classText s e.cls else ⟨#[]⟩
/-- The bins of the first parts, as long as each says one; else the place of the first that says none. -/
def binsFrom (ls : List AttrD) (ps : List ByteArray) : Nat → Option (List Int)
  | 0 => some []
  | k + 1 => match binsFrom ls ps k, cellB (ad ls k) (tx ps k) with
    | some l, some b => some (l ++ [b])
    | _, _ => none
def firstBad (ls : List AttrD) (ps : List ByteArray) (k : Nat) : Nat → Nat
  | 0 => k
  | n + 1 => if (cellB (ad ls k) (tx ps k)).isSome then firstBad ls ps (k + 1) n else k
/-- A row: the example, the code, the place. -/
def rowOf (s : SchemaD) (row : ByteArray) : ExD × Int × Int :=
  if schemaOk s = true then
    if row.size ≤ 80 then
      let hs := pieces 124 row
      if hs.length = 2 then
        let ps := pieces 44 (tx hs 0)
        if ps.length = s.attrs.length then
          match binsFrom s.attrs ps ps.length with
          | none => (noEx, 5, (firstBad s.attrs ps 0 ps.length : Int))
          | some l => if 0 ≤ placeT s.classes (tx hs 1) ∨ tx hs 1 = askB then (⟨l, placeT s.classes (tx hs 1)⟩, 0, 0) else (noEx, 6, 0)
        else (noEx, 4, 0)
      else (noEx, 3, 0)
    else (noEx, 2, 0)
  else (noEx, 1, 0)
end Go.Proofs.YtfekcckckmhioaaGreatDoor
/- The decimal digits of a number, one by one. -/
namespace Go.Proofs.YtfekcckckmhioaaGreatDoor
open Go.RowKit
set_option maxRecDepth 100000

def ds (u : Nat) : List UInt8 := if u = 0 then [] else Lib.decDigits u
theorem ds_pos (u : Nat) (h : 0 < u) : ds u = ds (u / 10) ++ [UInt8.ofNat (48 + u % 10)] := by
  unfold ds
  rw [if_neg (by omega), Lib.decDigits]
  by_cases h10 : u < 10
  · rw [dif_pos h10, if_pos (by omega), Nat.mod_eq_of_lt h10]; rfl
  · rw [dif_neg h10, if_neg (by omega)]
theorem ds_zero : ds 0 = [] := rfl
theorem ds_of (u : Nat) (h : 0 < u) : ds u = Lib.decDigits u := if_neg (by omega)

theorem one_text (wx : World) (b : Int) : (convert 26 9 (.slice (some ⟨wx.heap.size, 0, none⟩) 1 1)).run Tryz.prog (wx.alloc (.cells #[.int .u8 b] 5)) = .ok (.string ⟨#[UInt8.ofNat b.toNat]⟩) (wx.alloc (.cells #[.int .u8 b] 5)) :=
  run_convert_bytes_arg (P := Tryz.prog) _ 26 5 Tryz.underlying26 Tryz.underlying5 wx.heap.size 0 1 1 [b] rfl (fun i hi => by
    obtain rfl : i = 0 := by omega
    simp) _ Tryz.underlying9

theorem one_text_drew (wx : World) (b : Int) : (convert 26 9 (.slice (some ⟨wx.heap.size, 0, none⟩) 1 1)).run Tryz.prog (wx.alloc (.cells #[.int .u8 b] 5)).drew = .ok (.string ⟨#[UInt8.ofNat b.toNat]⟩) (wx.alloc (.cells #[.int .u8 b] 5)).drew :=
  run_convert_bytes_arg (P := Tryz.prog) _ 26 5 Tryz.underlying26 Tryz.underlying5 wx.heap.size 0 1 1 [b] rfl (fun i hi => by
    obtain rfl : i = 0 := by omega
    show (wx.alloc (.cells #[.int .u8 b] 5)).cell? _ = _
    simp) _ Tryz.underlying9

theorem pow_step (u k : Nat) (h0 : 0 < u) (h : u < 10 ^ (19 - k)) : k < 19 ∧ u / 10 < 10 ^ (19 - (k + 1)) := by
  have hk : k < 19 := by
    rcases Nat.lt_or_ge k 19 with h1 | h1
    · exact h1
    · rw [show 19 - k = 0 by omega] at h; simp at h; omega
  refine ⟨hk, Nat.div_lt_of_lt_mul ?_⟩
  rw [show 19 - k = 19 - (k + 1) + 1 by omega, Nat.pow_succ, Nat.mul_comm] at h
  exact h

theorem cat1 (b c : UInt8) (done : List UInt8) (h : b = c) : Value.string ((⟨#[b]⟩ : ByteArray) ++ ⟨done.toArray⟩) = .string ⟨(c :: done).toArray⟩ := by
  subst h
  congr 1

end Go.Proofs.YtfekcckckmhioaaGreatDoor
/- The decimal digits of a number, by the specification's own loop. -/
namespace Go.Proofs.YtfekcckckmhioaaGreatDoor
open Go.RowKit
set_option maxRecDepth 100000

set_option maxHeartbeats 800000 in
theorem digits_neg (u0 : Nat) (w : World) (h0 : 0 < u0) (h1 : u0 ≤ 9223372036854775808) :
    Calls Tryz.prog 99 #[.int .i64 (-(u0 : Int))] w fun e w' => e = .returned (.string ⟨(45 :: ds u0).toArray⟩) ∧ Below w.heap.size w w' := by
  have ot := one_text
  have hz0 : (-(u0 : Int) == 0) = false := by simp; omega
  have hn0 : decide (-(u0 : Int) < 0) = true := by simp; omega
  go_enter Tryz.func99, Tryz.ntmps99
  go_wp2
  go_loopw [0, 4, 5] (fun n v _ wr => ∃ (u : Nat) (done : List UInt8), n = .int .i64 (-(u : Int)) ∧ u ≤ 9223372036854775808 ∧ v = .string ⟨done.toArray⟩ ∧ done.length ≤ 19 ∧ u < 10 ^ (19 - done.length) ∧ ds u ++ done = ds u0 ∧ Below w.heap.size w wr) (fun n _ _ _ => (-(intOf n)).toNat)
  case atStart => exact ⟨u0, [], rfl, h1, rfl, by simp, by simp; omega, by simp, Below.refl _ _⟩
  case round =>
    obtain ⟨u, done, rfl, hu, rfl, hlen, hdn, hE, hb⟩ := hrel
    have HE : Hid (ds u ++ done = ds u0) := hE
    have HD : Hid (u < 10 ^ (19 - done.length)) := hdn
    clear hE hdn
    by_cases hz : 0 < u
    · have hm : (-(u : Int)).tmod 10 = -((u % 10 : Nat) : Int) := by rw [Int.neg_tmod, Int.tmod_eq_emod_of_nonneg (by omega)]; omega
      have hq : (-(u : Int)).tdiv 10 = -((u / 10 : Nat) : Int) := by rw [Int.neg_tdiv, Int.tdiv_eq_ediv_of_nonneg (by omega)]; omega
      have hne : (-(u : Int) != 0) = true := by simp; omega
      by_cases hr : 0 < u % 10
      all_goals
        go_wp2
        go_roundw
        case rel =>
          obtain ⟨p1, p2⟩ := pow_step u done.length hz HD.out
          refine ⟨u / 10, UInt8.ofNat (48 + u % 10) :: done, by go_num, by omega, ?_, by simp; omega, by simpa using p2, ?_, ?_⟩
          · exact cat1 _ _ _ (by first | (simp; done) | (congr 1; omega))
          · rw [← HE.out, ds_pos u hz]; simp
          · exact hb.alloc hb.size _
        case measure => simp [intOf]; omega
    · obtain rfl : u = 0 := by omega
      go_wp2
      go_ret
      refine ⟨?_, hb⟩
      have hE := HE.out
      rw [ds_zero, List.nil_append] at hE
      rw [← hE]
      exact congrArg Ending.returned (cat1 45 45 done rfl)

set_option maxHeartbeats 800000 in
theorem digits_pos (u0 : Nat) (w : World) (h0 : 0 < u0) (h1 : u0 ≤ 9223372036854775807) :
    Calls Tryz.prog 99 #[.int .i64 ((u0 : Int))] w fun e w' => e = .returned (.string ⟨(ds u0).toArray⟩) ∧ Below w.heap.size w w' := by
  have ot := one_text
  have hz0 : ((u0 : Int) == 0) = false := by simp; omega
  have hn0 : decide ((u0 : Int) < 0) = false := by simp
  go_enter Tryz.func99, Tryz.ntmps99
  go_wp2
  go_loopw [0, 4, 5] (fun n v _ wr => ∃ (u : Nat) (done : List UInt8), n = .int .i64 (u : Int) ∧ u ≤ 9223372036854775807 ∧ v = .string ⟨done.toArray⟩ ∧ done.length ≤ 19 ∧ u < 10 ^ (19 - done.length) ∧ ds u ++ done = ds u0 ∧ Below w.heap.size w wr) (fun n _ _ _ => (intOf n).toNat)
  case atStart => exact ⟨u0, [], rfl, h1, rfl, by simp, by simp; omega, by simp, Below.refl _ _⟩
  case round =>
    obtain ⟨u, done, rfl, hu, rfl, hlen, hdn, hE, hb⟩ := hrel
    have HE : Hid (ds u ++ done = ds u0) := hE
    have HD : Hid (u < 10 ^ (19 - done.length)) := hdn
    clear hE hdn
    by_cases hz : 0 < u
    · have hne : ((u : Int) != 0) = true := by simp; omega
      all_goals
        go_wp2
        go_roundw
        case rel =>
          obtain ⟨p1, p2⟩ := pow_step u done.length hz HD.out
          refine ⟨u / 10, UInt8.ofNat (48 + u % 10) :: done, by go_num, by omega, ?_, by simp; omega, by simpa using p2, ?_, ?_⟩
          · exact cat1 _ _ _ (by first | (simp; done) | (congr 1; omega))
          · rw [← HE.out, ds_pos u hz]; simp
          · exact hb.alloc hb.size _
        case measure => simp [intOf]; omega
    · obtain rfl : u = 0 := by omega
      go_wp2
      go_ret
      refine ⟨?_, hb⟩
      have hE := HE.out
      rw [ds_zero, List.nil_append] at hE
      rw [← hE]
      rfl

/-- Whatever the number. -/
theorem digits_any (n : Int) (w : World) (h0 : -9223372036854775808 ≤ n) (h1 : n ≤ 9223372036854775807) :
    Calls Tryz.prog 99 #[.int .i64 n] w fun e w' => e = .returned (.string ⟨(Lib.itoa n).toArray⟩) ∧ Below w.heap.size w w' := by
  by_cases hn : n < 0
  · obtain ⟨u, rfl⟩ : ∃ u : Nat, n = -(u : Int) := ⟨n.natAbs, by omega⟩
    have e : Lib.itoa (-(u : Int)) = 45 :: ds u := by rw [Lib.itoa, if_pos hn, ds_of u (by omega)]; simp
    rw [e]
    exact digits_neg u w (by omega) (by omega)
  · obtain ⟨u, rfl⟩ := Int.eq_ofNat_of_zero_le (show 0 ≤ n by omega)
    by_cases hu : u = 0
    · subst hu
      have e : Lib.itoa ((0 : Nat) : Int) = [48] := by rw [Lib.itoa, if_neg hn]; rw [Lib.decDigits]; rfl
      rw [e]
      go_enter Tryz.func99, Tryz.ntmps99
      go_wp2
      go_ret
      exact ⟨rfl, Below.refl _ _⟩
    · have e : Lib.itoa (u : Int) = ds u := by rw [Lib.itoa, if_neg hn, ds_of u (by omega)]; simp
      rw [e]
      exact digits_pos u w (by omega) (by omega)
end Go.Proofs.YtfekcckckmhioaaGreatDoor
