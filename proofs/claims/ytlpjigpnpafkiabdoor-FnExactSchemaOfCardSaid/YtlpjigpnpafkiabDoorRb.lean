/- An attribute's text taken apart at its first sign, by the program. -/
import Derived.Test.YtlpjigpnpafkiabDoorRa
import Derived.Test.YtlpjigpnpafkiabDoorVt
import Derived.Test.YtlpjigpnpafkiabDoorTk
import Derived.WalkSpells
namespace Go.Proofs.YtlpjigpnpafkiabDoor
open Go.RowKit
set_option maxRecDepth 100000

theorem cont_high {s : ByteArray} {p : Nat} (h : (decide (p < s.size) && (s.get! p).toNat / 64 == 2) = true) : ∃ hk : p < s.size, 128 ≤ (s[p]'hk).toNat := by
  rw [Bool.and_eq_true, decide_eq_true_eq, beq_iff_eq] at h
  refine ⟨h.1, ?_⟩
  have e : s.get! p = s[p]'h.1 := get_at s p h.1
  have h2 := h.2
  rw [e] at h2
  omega
/-- A character of several bytes: none of them is a sign of ASCII. -/
def Skips (s : ByteArray) (pos n : Nat) : Prop := pos + n ≤ s.size ∧ ∀ j (hj : j < s.size), pos ≤ j → j < pos + n → 128 ≤ (s[j]'hj).toNat
theorem skips_one {s : ByteArray} {pos : Nat} (h : pos < s.size) (ha : 128 ≤ (s[pos]'h).toNat) : Skips s pos 1 := by
  refine ⟨by omega, fun j hj h1 h2 => ?_⟩
  obtain rfl : j = pos := by omega
  exact ha
theorem skips_more {s : ByteArray} {pos n : Nat} (h : Skips s pos n) (hc : (decide (pos + n < s.size) && (s.get! (pos + n)).toNat / 64 == 2) = true) : Skips s pos (n + 1) := by
  obtain ⟨hk, hb⟩ := cont_high hc
  refine ⟨by omega, fun j hj h1 h2 => ?_⟩
  by_cases e : j = pos + n
  · subst e; exact hb
  · exact h.2 j hj h1 (by omega)
theorem decode_skip (s : ByteArray) (pos : Nat) (h : pos < s.size) (ha : 128 ≤ (s[pos]'h).toNat) : Skips s pos (Utf8.decode s pos).2 := by
  have hn : ¬ (s[pos]'h).toNat < 128 := by omega
  have one := skips_one h ha
  simp only [Utf8.decode, get_at s pos h, hn, if_false]
  repeat' split
  all_goals first | exact one | skip
  · rename_i c _
    rw [Bool.and_eq_true] at c
    exact skips_more one c.2
  · rename_i c _
    rw [Bool.and_eq_true, Bool.and_eq_true] at c
    exact skips_more (skips_more one c.1.2) c.2
  · rename_i c _
    rw [Bool.and_eq_true, Bool.and_eq_true, Bool.and_eq_true] at c
    exact skips_more (skips_more (skips_more one c.1.1.2) c.1.2) c.2

theorem get_list (s : ByteArray) (k : Nat) (h : k < s.size) : s.data.toList[k]? = some (s[k]'h) := by
  have h2 : k < s.data.toList.length := by simpa using h
  rw [List.getElem?_eq_getElem h2]; rfl
theorem sign_none {s : ByteArray} (h : ∀ j (hj : j < s.size), isSign (s[j]'hj) = false) : s.data.toList.findIdx? isSign = none := by
  rw [List.findIdx?_eq_none_iff]
  intro c hc
  obtain ⟨j, hj, rfl⟩ := List.mem_iff_getElem.1 hc
  exact h j (by simpa using hj)
theorem sign_some {s : ByteArray} {k : Nat} (hk : k < s.size) (h : ∀ j (hj : j < s.size), j < k → isSign (s[j]'hj) = false) (hs : isSign (s[k]'hk) = true) : s.data.toList.findIdx? isSign = some k := by
  rw [List.findIdx?_eq_some_iff_getElem]
  refine ⟨by simpa using hk, hs, fun j hj => ?_⟩
  have := h j (by omega) hj
  rw [Bool.not_eq_true]
  exact this
theorem read_sign {s : ByteArray} {k : Nat} (hk : k < s.size) (h : ∀ j (hj : j < s.size), j < k → isSign (s[j]'hj) = false) (hs : isSign (s[k]'hk) = true) : attrReadI s = readI s k := by
  unfold attrReadI; rw [sign_some hk h hs]
theorem read_eq {s : ByteArray} {k : Nat} (hk : k < s.size) (hs : s[k]'hk = 61) : readI s k = (⟨s.extract 0 k, [], pieces 44 (s.extract (k + 1) s.size)⟩, true) := by
  unfold readI
  rw [if_pos (by rw [List.getD_eq_getElem?_getD, get_list s k hk, hs]; rfl)]
theorem read_col0 {s : ByteArray} {k : Nat} (hk : k < s.size) (hs : s[k]'hk = 58) (hn : numsOf (pieces 44 (s.extract (k + 1) s.size)) = none) : readI s k = (⟨s.extract 0 k, [], []⟩, false) := by
  unfold readI
  rw [if_neg (by rw [List.getD_eq_getElem?_getD, get_list s k hk, hs]; decide), hn]
theorem read_col1 {s : ByteArray} {k : Nat} {zs : List Int} (hk : k < s.size) (hs : s[k]'hk = 58) (hn : numsOf (pieces 44 (s.extract (k + 1) s.size)) = some zs) : readI s k = (⟨s.extract 0 k, zs, []⟩, true) := by
  unfold readI
  rw [if_neg (by rw [List.getD_eq_getElem?_getD, get_list s k hk, hs]; decide), hn]
theorem read_none {s : ByteArray} (h : ∀ j (hj : j < s.size), isSign (s[j]'hj) = false) : attrReadI s = (⟨⟨#[]⟩, [], []⟩, false) := by
  unfold attrReadI; rw [sign_none h]

section
variable {ops : Array Oper} {S : World → Prop} {op : Oper} {a : Act}
theorem yields_move (hw : Region.wanted op (yielded ops a.tmps) = true) (x : Operand) (ho : op.op = .move x) (v : Value) (hx : a.eval x = v) : YieldsIf Tryd.prog ops S op v a :=
  .inl ⟨hw, fun w _ => by unfold execOp; simp only [ho, hx]; go_simp⟩
theorem yields_to (hw : Region.wanted op (yielded ops a.tmps) = true) (x y : Operand) (ho : op.op = .slice 9 x none (some y) none) (s : ByteArray) (k : Nat) (hx : a.eval x = .string s) (hy : a.eval y = .int .i64 k) (hk : k ≤ s.size) :
    YieldsIf Tryd.prog ops S op (.string (s.extract 0 k)) a :=
  .inl ⟨hw, fun w _ => by unfold execOp; simp only [ho, Option.map, hx, hy]; go_simp⟩
theorem yields_from (hw : Region.wanted op (yielded ops a.tmps) = true) (x y : Operand) (ho : op.op = .slice 9 x (some y) none none) (s : ByteArray) (k : Nat) (n : Int) (hn : n = (k : Int)) (hx : a.eval x = .string s) (hy : a.eval y = .int .i64 n) (hk : k ≤ s.size) :
    YieldsIf Tryd.prog ops S op (.string (s.extract k s.size)) a :=
  .inl ⟨hw, fun w _ => by subst hn; unfold execOp; simp only [ho, Option.map, hx, hy]; go_simp⟩
theorem yields_inc (hw : Region.wanted op (yielded ops a.tmps) = true) (x y : Operand) (ho : op.op = .binOp .add 3 x y 3) (m : Int) (hx : a.eval x = .int .i64 m) (hy : a.eval y = .int .i64 1) (h0 : 0 ≤ m) (h1 : m ≤ 1048576) :
    YieldsIf Tryd.prog ops S op (.int .i64 (m + 1)) a :=
  .inl ⟨hw, fun w _ => by
    unfold execOp
    simp only [ho, hx, hy]
    go_simp
    rw [IntKind.wrap_i64]; omega⟩
end
end Go.Proofs.YtlpjigpnpafkiabDoor
