/- Texts of this claim, put together: part 1. -/
import Derived.Test.YtobimpgapfecoaaRows
import Derived.WalkKit
import Derived.ProofKit
import Derived.OpenShut
/- Small facts on worlds and on rows of the call's own. -/
namespace Go.Proofs.Ytobimpgapfecoaa
open Go.RowKit
set_option maxRecDepth 100000

theorem ret_int {k : IntKind} {a b : Int} (h : a = b) : Ending.returned (.int k a) = .returned (.int k b) := by rw [h]
theorem grownBy_trans {a b c : World} {r : Option Nat} (h : a.grownBy b r) (k : b.grownBy c r) : a.grownBy c r :=
  ⟨k.os.trans h.os, k.tape.trans h.tape, k.output.trans h.output, Nat.le_trans h.size k.size, fun j hj hr => (k.block j (Nat.lt_of_lt_of_le hj h.size) hr).trans (h.block j hj hr)⟩

theorem own_below {w w' : World} {base e size n : Nat} {v : Value} {xs : List Value} (h : w.ownsRow base e size v n xs) (hb : Below w.heap.size w w') : w'.ownsRow base e size v n xs := by
  refine ⟨h.1, ?_⟩
  rcases h.2 with h' | ⟨g, cap, cur, hv, hg, hc, r⟩
  · exact .inl h'
  · refine .inr ⟨g, cap, cur, hv, hg, ?_, r⟩
    have hlt : g < w.heap.size := by
      rcases Nat.lt_or_ge g w.heap.size with h1 | h1
      · exact h1
      · rw [Array.getElem?_eq_none h1] at hc; cases hc
    rw [hb.block g hlt]; exact hc

theorem getD_map (zs : List Int) (j : Nat) (h : j < zs.length) : (zs.map (Value.int .u8))[j]? = some (.int .u8 (zs.getD j 0)) := by simp [h]

theorem apart {w : World} {v v' : Value} {b b' n n' e e' : Nat} {xs xs' : List Value} (_h : w.ownsRow b e 1 v n xs) (h' : w.ownsRow b' e' 1 v' n' xs') (hb : ∀ k, v.ownBlock = some k → k < b') : v.ownBlock = none ∨ v.ownBlock ≠ v'.ownBlock := by
  cases e : v.ownBlock with
  | none => exact .inl rfl
  | some k =>
    refine .inr fun e' => ?_
    have h1 := hb k e
    have h2 := (h'.lt k e'.symm).1
    omega

theorem newc (w : World) (u : Value) (e : TypeId) : ∀ (j : Nat) (x : Value), [u][j]? = some x → (w.alloc (.cells #[u] e)).cell? ((⟨w.heap.size, 0, none⟩ : Addr).add j) = some x := by
  intro j x hj
  match j, hj with
  | 0, hj => simp at hj; subst hj; simp [Addr.add]
theorem newc2 (w : World) (o : Obj) (u : Value) (e : TypeId) : ∀ (j : Nat) (x : Value), [u][j]? = some x → ((w.alloc o).alloc (.cells #[u] e)).cell? ((⟨w.heap.size + 1, 0, none⟩ : Addr).add j) = some x := by
  have := newc (w.alloc o) u e
  rw [World.size_alloc] at this
  exact this
end Go.Proofs.Ytobimpgapfecoaa
/- What is known of a list of bytes that came in. -/
namespace Go.Proofs.Ytobimpgapfecoaa
open Go.RowKit
set_option maxRecDepth 100000

/-- What is known of a slice of integers that came in: it is nil; or it leads to a row of cells. -/
def IsRow (k : IntKind) (w : World) (a : Option Addr) (len cap : Nat) (zs : List Int) : Prop :=
  (a = none ∧ len = 0 ∧ cap = 0 ∧ zs = []) ∨
  ∃ x, a = some x ∧ len ≤ cap ∧ cap ≤ maxLen ∧ zs.length = cap ∧ (∀ i, i < zs.length → w.cell? (x.add i) = some (.int k (zs.getD i 0))) ∧ ∀ n ∈ zs, (Lit.int k n).wf = true

theorem IsRow.len {k : IntKind} {w : World} {a : Option Addr} {len cap : Nat} {zs : List Int} (h : IsRow k w a len cap zs) : (zs.take len).length = len := by
  rcases h with ⟨_, rfl, _, rfl⟩ | ⟨_, _, h1, _, h2, _⟩
  · rfl
  · simp; omega
theorem IsRow.bytes {w : World} {a : Option Addr} {len cap : Nat} {zs : List Int} (h : IsRow .u8 w a len cap zs) : ∀ j : Nat, 0 ≤ (zs.take len).getD j 0 ∧ (zs.take len).getD j 0 ≤ 255 := by
  intro j
  rcases h with ⟨_, rfl, _, rfl⟩ | ⟨_, _, h1, _, h2, _, hw⟩
  · simp
  · by_cases hj : j < (zs.take len).length
    · have hm : (zs.take len).getD j 0 ∈ zs := by
        rw [List.getD_eq_getElem?_getD, List.getElem?_eq_getElem hj]; exact List.mem_of_mem_take (List.getElem_mem hj)
      exact bounds_u8 (hw _ hm)
    · rw [List.getD_eq_getElem?_getD, List.getElem?_eq_none (by omega)]; simp
/-- Its cells, at the address spelt out. -/
theorem IsRow.at {k : IntKind} {w : World} {a : Option Addr} {len cap : Nat} {zs : List Int} (h : IsRow k w a len cap zs) (h0 : 0 < len) :
    ∃ b o, a = some ⟨b, o, none⟩ ∧ b < w.heap.size ∧ ∀ j, j < len → w.cell? ⟨b, o + j, none⟩ = some (.int k ((zs.take len).getD j 0)) := by
  rcases h with ⟨_, rfl, _, _⟩ | ⟨⟨b, o, sp⟩, rfl, h1, _, h2, hc, _⟩
  · omega
  · have hc0 := hc 0 (by omega)
    have hsp : sp = none := by simpa [Addr.add] using World.cell?_spot hc0
    subst hsp
    refine ⟨b, o, rfl, ?_, fun j hj => ?_⟩
    · rcases Nat.lt_or_ge b w.heap.size with h3 | h3
      · exact h3
      · have e : w.heap[b]? = none := Array.getElem?_eq_none h3
        simp [Addr.add, World.cell?, e] at hc0
    · have := hc j (by omega)
      have e : (⟨b, o, none⟩ : Addr).add j = ⟨b, o + j, none⟩ := by cases j <;> simp [Addr.add]
      rw [e] at this
      rw [this]
      simp [hj]

theorem IsRow.le {k : IntKind} {w : World} {a : Option Addr} {len cap : Nat} {zs : List Int} (h : IsRow k w a len cap zs) : len ≤ 9223372036854775807 := by
  rcases h with ⟨_, rfl, _, _⟩ | ⟨_, _, h1, h2, _⟩
  · omega
  · unfold maxLen at h2; omega
theorem lt_of_cell {w : World} {a : Addr} {v : Value} (h : w.cell? a = some v) : a.block < w.heap.size := by
  rcases Nat.lt_or_ge a.block w.heap.size with h3 | h3
  · exact h3
  · have e : w.heap[a.block]? = none := Array.getElem?_eq_none h3
    simp [World.cell?, e] at h
theorem IsRow.later {k : IntKind} {w w' : World} {a : Option Addr} {len cap : Nat} {zs : List Int} (h : IsRow k w a len cap zs) (hb : Below w.heap.size w w') : IsRow k w' a len cap zs := by
  rcases h with h | ⟨x, rfl, h1, h2, h3, hc, hw⟩
  · exact .inl h
  · exact .inr ⟨x, rfl, h1, h2, h3, fun i hi => (hb.cell (lt_of_cell (hc i hi))).trans (hc i hi), hw⟩
end Go.Proofs.Ytobimpgapfecoaa
/- A list of texts that a function is handed; whether it holds a text. (What is plain.) -/
namespace Go.Proofs.Ytobimpgapfecoaa
open Go.RowKit
set_option maxRecDepth 100000
def tx (ss : List ByteArray) (j : Nat) : ByteArray := ss.getD j ByteArray.empty
theorem tx_eq {ss : List ByteArray} {j : Nat} (h : j < ss.length) : tx ss j = ss[j] := by simp [tx, h]
theorem tx_mem {ss : List ByteArray} {j : Nat} (h : j < ss.length) : tx ss j ∈ ss := by rw [tx_eq h]; exact List.getElem_mem h
theorem tx_map {ss : List ByteArray} {j : Nat} (h : j < ss.length) : (ss.map Value.string)[j]? = some (.string (tx ss j)) := by simp [tx, h]

/-- What a function knows of a list of texts that it is handed. -/
def RowS (w : World) (v : Value) (ss : List ByteArray) : Prop :=
  ∃ oa cap, v = .slice oa ss.length cap ∧ ss.length ≤ cap ∧ (0 < ss.length → ∃ g o, oa = some ⟨g, o, none⟩ ∧ g < w.heap.size ∧ ∀ j, j < ss.length → w.cell? ⟨g, o + j, none⟩ = some (.string (tx ss j)))
theorem RowS.later {w w' : World} {v : Value} {ss : List ByteArray} (h : RowS w v ss) (hb : Below w.heap.size w w') : RowS w' v ss := by
  obtain ⟨oa, cap, rfl, hc, hr⟩ := h
  refine ⟨oa, cap, rfl, hc, fun h0 => ?_⟩
  obtain ⟨g, o, rfl, hg, hj⟩ := hr h0
  exact ⟨g, o, rfl, Nat.lt_of_lt_of_le hg hb.size, fun j hlt => (hb.cell (p := ⟨g, o + j, none⟩) hg).trans (hj j hlt)⟩
theorem RowS.of_own {w : World} {base n : Nat} {v : Value} {ss : List ByteArray} (h : w.ownsRow base 9 1 v n (ss.map Value.string)) (hn : ss.length = n) : RowS w v ss := by
  subst hn
  rcases h.2 with ⟨rfl, h0⟩ | ⟨g, cap, cur, rfl, hg, hcur, hcap, r⟩
  · exact ⟨none, 0, by rw [h0], by omega, fun h1 => by omega⟩
  · refine ⟨some ⟨g, 0, none⟩, cap, rfl, hcap, fun h1 => ⟨g, 0, rfl, (Array.getElem?_eq_some_iff.1 hcur).1, fun j hj => ?_⟩⟩
    rw [Nat.zero_add, h.cellAt j (by omega)]; exact tx_map hj
theorem RowS.take {w : World} {oa : Option Addr} {n cap : Nat} {ss : List ByteArray} (h : RowS w (.slice oa n cap) ss) {i : Nat} (hi : i ≤ n) : RowS w (.slice oa i cap) (ss.take i) := by
  obtain ⟨oa', cap', e, hc, hr⟩ := h
  injection e with e1 e2 e3
  subst e1 e2 e3
  have hl : (ss.take i).length = i := by simp; omega
  refine ⟨oa, cap, by rw [hl], by omega, fun h0 => ?_⟩
  obtain ⟨g, o, rfl, hg, hj⟩ := hr (by omega)
  refine ⟨g, o, rfl, hg, fun j hlt => ?_⟩
  rw [hj j (by omega)]
  have : j < i := by omega
  simp [tx, this]

theorem bytes_eq_iff {a b : ByteArray} : a.toList = b.toList ↔ a = b := by
  constructor
  · intro h
    have h2 : a.data.toList = b.data.toList := by rw [← ByteArray.toList_eq, ← ByteArray.toList_eq]; exact h
    exact ByteArray.ext (Array.toList_inj.1 h2)
  · rintro rfl; rfl

/-- Whether a text is among others. -/
def hasT (ss : List ByteArray) (t : ByteArray) : Bool := ss.any fun u => t.toList == u.toList
theorem hasT_yes {ss : List ByteArray} {t : ByteArray} {k : Nat} (h : k < ss.length) (e : t = tx ss k) : hasT ss t = true := by
  unfold hasT
  rw [List.any_eq_true]
  exact ⟨tx ss k, tx_mem h, by rw [e]; simp⟩
theorem hasT_no {ss : List ByteArray} {t : ByteArray} (h : ∀ j, j < ss.length → t ≠ tx ss j) : hasT ss t = false := by
  unfold hasT
  rw [List.any_eq_false]
  intro u hu he
  obtain ⟨j, hj, e⟩ := List.mem_iff_getElem.1 hu
  exact h j hj (by rw [tx_eq hj, e]; exact bytes_eq_iff.1 (by simpa using he))
end Go.Proofs.Ytobimpgapfecoaa
/- WordOk: the program's answer and the specification's, for every text. (What is plain.) -/

namespace Go.Proofs.Ytobimpgapfecoaa
open Go.RowKit
set_option maxRecDepth 100000
def lowB (c : UInt8) : Bool := decide (97 ≤ c.toNat) && decide (c.toNat ≤ 122)
/-- A word: 1 to 8 bytes from a to z. -/
def wordOk (s : ByteArray) : Bool := decide (1 ≤ s.size ∧ s.size ≤ 8) && s.data.toList.all lowB

theorem word_yes {s : ByteArray} (h : 1 ≤ s.size ∧ s.size ≤ 8) (ha : ∀ j (hj : j < s.size), lowB s[j] = true) : wordOk s = true := by
  unfold wordOk
  rw [Bool.and_eq_true]
  refine ⟨by simpa using h, ?_⟩
  rw [List.all_eq_true]
  intro c hc
  obtain ⟨j, hj, rfl⟩ := List.mem_iff_getElem.1 hc
  exact ha j (by simpa using hj)
theorem word_no {s : ByteArray} (j : Nat) (hj : j < s.size) (h : lowB s[j] = false) : wordOk s = false := by
  unfold wordOk
  rw [Bool.and_eq_false_iff]
  refine .inr ?_
  cases e : s.data.toList.all lowB with
  | false => rfl
  | true =>
    rw [List.all_eq_true] at e
    have := e s[j] (by
      have h2 : j < s.data.toList.length := by simpa using hj
      exact (List.getElem_mem h2 : s.data.toList[j] ∈ s.data.toList))
    rw [h] at this; cases this
theorem word_len {s : ByteArray} (h : ¬ (1 ≤ s.size ∧ s.size ≤ 8)) : wordOk s = false := by
  unfold wordOk
  rw [decide_eq_false h]; rfl
theorem word_size {s : ByteArray} (h : wordOk s = true) : 1 ≤ s.size ∧ s.size ≤ 8 := by
  unfold wordOk at h
  rw [Bool.and_eq_true] at h
  simpa using h.1
theorem low_no1 {c : UInt8} (h : (c.toNat : Int) < 97) : lowB c = false := by unfold lowB; simp; omega
theorem low_no2 {c : UInt8} (h : ¬ (c.toNat : Int) ≤ 122) : lowB c = false := by unfold lowB; simp; omega
theorem low_yes {c : UInt8} (h : ¬ (c.toNat : Int) < 97) (k : (c.toNat : Int) ≤ 122) : lowB c = true := by unfold lowB; simp; omega

theorem below_iter (w : World) (s : ByteArray) (p : Nat) : Below w.heap.size w (w.iter s p) := (Below.refl _ _).alloc (Nat.le_refl _) _
end Go.Proofs.Ytobimpgapfecoaa
