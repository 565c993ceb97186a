/- Texts of this claim, put together: part 2. -/
import Derived.Test.YtfflodcapcamcaaDoorFnCandidatesPack1
/- What lies below is left: a world is grown. -/
namespace Go.Proofs.YtfflodcapcamcaaDoor
open Go.RowKit
set_option maxRecDepth 100000
theorem grown_of_below {w w' : World} (h : Below w.heap.size w w') (r : Option Nat := none) : w.grownBy w' r := ⟨h.os, h.tape, h.output, h.size, fun k hk _ => h.block k hk⟩
end Go.Proofs.YtfflodcapcamcaaDoor
/- Draws beside rows of the call's own. -/
namespace Go.Proofs.YtfflodcapcamcaaDoor
open Go.RowKit
set_option maxRecDepth 100000

theorem own_cur {w w' : World} {base n g : Nat} {v : Value} {xs : List Value} (h : w.ownsRow base 3 1 v n xs) (hg : g < base) (hk : w.grownBy w' (some g)) : w'.ownsRow base 3 1 v n xs := by
  refine h.kept hk ?_
  cases e : v.ownBlock with
  | none => exact .inl rfl
  | some k =>
    refine .inr fun e' => ?_
    have := (h.lt k e).1
    injection e'
    omega
theorem grown_alloc (w : World) (o : Obj) (r : Option Nat) : w.grownBy (w.alloc o) r := ⟨rfl, rfl, rfl, by simp, fun k hk _ => Below.heap_alloc w o k hk⟩
theorem grown_own {w wq w4 : World} {r : Option Nat} {g : Nat} (h : w.grownBy wq (some g)) (k : wq.grownBy w4 r) (hr : ∀ j, r = some j → w.heap.size ≤ j) : w.grownBy w4 (some g) :=
  ⟨k.os.trans h.os, k.tape.trans h.tape, k.output.trans h.output, Nat.le_trans h.size k.size, fun j hj hne => (k.block j (Nat.lt_of_lt_of_le hj h.size) (fun e => by have := hr j e.symm; omega)).trans (h.block j hj hne)⟩
/-- The cursor's own things, behind whatever leaves its block. -/
theorem IsCur.kept {w w' : World} {g : Nat} {a : Option Addr} {len cap : Nat} {r : Option Nat} (h : IsCur w g a len cap) (hk : w.grownBy w' r) (hr : r ≠ some g) : IsCur w' g a len cap := by
  have hlt := h.lt
  obtain ⟨i, y, hi, hb⟩ := h
  exact ⟨i, y, hi, (hk.block g hlt (fun e => hr e.symm)).trans hb⟩

/-- One of a few numbers, picked out of a list that was just laid. -/
theorem pickN (xs : List Int) (g : Nat) (a : Option Addr) (len cap : Nat) (zs : List Int) (w : World) (hc : IsCur w g a len cap) (hr : IsRow .u8 w a len cap zs) (h1 : 1 ≤ xs.length) (h2 : xs.length ≤ 256) :
    Calls Tryd.prog 39 #[.pointer (some ⟨g, 0, none⟩), .slice (some ⟨w.heap.size, 0, none⟩) xs.length xs.length] (w.alloc (.cells (xs.map (Value.int .i64)).toArray 3)) fun e w' =>
      ∃ x : Int, e = .returned (.int .i64 x) ∧ x ∈ xs ∧ IsCur w' g a len cap ∧ w.grownBy w' (some g) := by
  have hlt := hc.lt
  have hb : Below w.heap.size w (w.alloc (.cells (xs.map (Value.int .i64)).toArray 3)) := (Below.refl _ _).alloc (Nat.le_refl _) _
  refine (l1PickInt_any g a len cap zs w.heap.size xs _ (hc.alloc _) (hr.later hb) h1 h2 (by omega) (new_ints w xs 3)).mono ?_
  rintro e w' ⟨x, rfl, hx, hc', hg⟩
  exact ⟨x, rfl, hx, hc', grown_trans (grown_alloc w _ _) hg⟩
end Go.Proofs.YtfflodcapcamcaaDoor
/- Draws of stage 2: one of a number of ways. -/
namespace Go.Proofs.YtfflodcapcamcaaDoor
open Go.RowKit
set_option maxRecDepth 100000

theorem once_any (g : Nat) (a : Option Addr) (len cap : Nat) (zs : List Int) (n : Nat) (w : World) (hc : IsCur w g a len cap) (hr : IsRow .u8 w a len cap zs) (h1 : 1 ≤ n) (h2 : n ≤ 256) :
    Calls Tryd.prog 14 #[.pointer (some ⟨g, 0, none⟩), .int .i64 (n : Int)] w fun e w' => ∃ b : Bool, e = .returned (.bool b) ∧ IsCur w' g a len cap ∧ w.grownBy w' (some g) := by
  go_enter Tryd.func14, Tryd.ntmps14
  go_wp2_with fail
  refine (l1Below_any g a len cap zs n w hc hr h1 h2).mono ?_
  rintro e w1 ⟨x, rfl, hx, hc1, hg1⟩
  clear hc hr
  go_wp2
  go_ret
  exact ⟨_, rfl, hc1, hg1⟩
end Go.Proofs.YtfflodcapcamcaaDoor
/- A list of texts that a function is handed; whether it holds a text. (What is plain.) -/
namespace Go.Proofs.YtfflodcapcamcaaDoor
open Go.RowKit
set_option maxRecDepth 100000
def tx (ss : List ByteArray) (j : Nat) : ByteArray := ss.getD j ByteArray.empty
theorem tx_eq {ss : List ByteArray} {j : Nat} (h : j < ss.length) : tx ss j = ss[j] := by simp [tx, h]
theorem tx_mem {ss : List ByteArray} {j : Nat} (h : j < ss.length) : tx ss j ∈ ss := by rw [tx_eq h]; exact List.getElem_mem h
theorem tx_map {ss : List ByteArray} {j : Nat} (h : j < ss.length) : (ss.map Value.string)[j]? = some (.string (tx ss j)) := by simp [tx, h]

/-- What a function knows of a list of texts that it is handed. -/
def RowS (w : World) (v : Value) (ss : List ByteArray) : Prop :=
  ∃ oa cap, v = .slice oa ss.length cap ∧ ss.length ≤ cap ∧ (0 < ss.length → ∃ g o, oa = some ⟨g, o, none⟩ ∧ g < w.heap.size ∧ ∀ j, j < ss.length → w.cell? ⟨g, o + j, none⟩ = some (.string (tx ss j)))
theorem RowS.later {w w' : World} {v : Value} {ss : List ByteArray} (h : RowS w v ss) (hb : Below w.heap.size w w') : RowS w' v ss := by
  obtain ⟨oa, cap, rfl, hc, hr⟩ := h
  refine ⟨oa, cap, rfl, hc, fun h0 => ?_⟩
  obtain ⟨g, o, rfl, hg, hj⟩ := hr h0
  exact ⟨g, o, rfl, Nat.lt_of_lt_of_le hg hb.size, fun j hlt => (hb.cell (p := ⟨g, o + j, none⟩) hg).trans (hj j hlt)⟩
theorem RowS.of_own {w : World} {base n : Nat} {v : Value} {ss : List ByteArray} (h : w.ownsRow base 9 1 v n (ss.map Value.string)) (hn : ss.length = n) : RowS w v ss := by
  subst hn
  rcases h.2 with ⟨rfl, h0⟩ | ⟨g, cap, cur, rfl, hg, hcur, hcap, r⟩
  · exact ⟨none, 0, by rw [h0], by omega, fun h1 => by omega⟩
  · refine ⟨some ⟨g, 0, none⟩, cap, rfl, hcap, fun h1 => ⟨g, 0, rfl, (Array.getElem?_eq_some_iff.1 hcur).1, fun j hj => ?_⟩⟩
    rw [Nat.zero_add, h.cellAt j (by omega)]; exact tx_map hj
theorem RowS.take {w : World} {oa : Option Addr} {n cap : Nat} {ss : List ByteArray} (h : RowS w (.slice oa n cap) ss) {i : Nat} (hi : i ≤ n) : RowS w (.slice oa i cap) (ss.take i) := by
  obtain ⟨oa', cap', e, hc, hr⟩ := h
  injection e with e1 e2 e3
  subst e1 e2 e3
  have hl : (ss.take i).length = i := by simp; omega
  refine ⟨oa, cap, by rw [hl], by omega, fun h0 => ?_⟩
  obtain ⟨g, o, rfl, hg, hj⟩ := hr (by omega)
  refine ⟨g, o, rfl, hg, fun j hlt => ?_⟩
  rw [hj j (by omega)]
  have : j < i := by omega
  simp [tx, this]

theorem bytes_eq_iff {a b : ByteArray} : a.toList = b.toList ↔ a = b := by
  constructor
  · intro h
    have h2 : a.data.toList = b.data.toList := by rw [← ByteArray.toList_eq, ← ByteArray.toList_eq]; exact h
    exact ByteArray.ext (Array.toList_inj.1 h2)
  · rintro rfl; rfl

/-- Whether a text is among others. -/
def hasT (ss : List ByteArray) (t : ByteArray) : Bool := ss.any fun u => t.toList == u.toList
theorem hasT_yes {ss : List ByteArray} {t : ByteArray} {k : Nat} (h : k < ss.length) (e : t = tx ss k) : hasT ss t = true := by
  unfold hasT
  rw [List.any_eq_true]
  exact ⟨tx ss k, tx_mem h, by rw [e]; simp⟩
theorem hasT_no {ss : List ByteArray} {t : ByteArray} (h : ∀ j, j < ss.length → t ≠ tx ss j) : hasT ss t = false := by
  unfold hasT
  rw [List.any_eq_false]
  intro u hu he
  obtain ⟨j, hj, e⟩ := List.mem_iff_getElem.1 hu
  exact h j hj (by rw [tx_eq hj, e]; exact bytes_eq_iff.1 (by simpa using he))
end Go.Proofs.YtfflodcapcamcaaDoor
