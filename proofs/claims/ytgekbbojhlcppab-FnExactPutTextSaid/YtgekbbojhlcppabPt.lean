/- The bytes of a text: its length as a number, and its own. -/
import Derived.Test.YtgekbbojhlcppabPn
import Derived.Lib.AppendStr
import Derived.Laws.IdiomStrings
namespace Go.Proofs.Ytgekbbojhlcppab
open Go.RowKit

def textOf (s : ByteArray) : List Int := bytesOf s.size ++ s.data.toList.map fun b => (b.toNat : Int)
theorem textOf_len (s : ByteArray) : (textOf s).length = (bytesOf s.size).length + s.size := by simp [textOf]
theorem textOf_map (s : ByteArray) : (textOf s).map (Value.int .u8) = (bytesOf s.size).map (Value.int .u8) ++ Lib.strCells s := by
  simp [textOf, Lib.strCells, Function.comp_def]

theorem hown_mark {w : World} {base e n : Nat} {v : Value} {xs : List Value} (h : w.ownsRow base e 1 v n xs) (o : Obj) : (w.alloc o).drew.ownsRow base e 1 v n xs := (h.alloc o).drew

theorem mark_cells (w : World) (s : ByteArray) (c lo hi : Nat) (t : TypeId) : ∀ (j : Nat) (u : Value), (Lib.strCells s)[j]? = some u → (w.alloc (.cells (bytesRow s c) t (lo, hi))).drew.cell? ((⟨w.heap.size, 0, none⟩ : Addr).add j) = some u := by
  intro j u hj
  have hlt : j < s.data.size := by
    have := (List.getElem?_eq_some_iff.1 hj).1
    rw [Lib.strCells_length] at this; exact this
  have h1 : (w.alloc (.cells (bytesRow s c) t (lo, hi))).cell? ⟨w.heap.size, j, none⟩ = (bytesRow s c)[j]? := World.cell?_alloc_mark _ _ _ _ _
  have h2 : (Lib.strCells s)[j]? = some (.int .u8 (s.data[j].toNat : Int)) := by
    rw [Lib.strCells, List.getElem?_map, Array.getElem?_toList, Array.getElem?_eq_getElem hlt]; rfl
  rw [h2] at hj
  show (w.alloc (.cells (bytesRow s c) t (lo, hi))).cell? ((⟨w.heap.size, 0, none⟩ : Addr).add j) = some u
  have e : (⟨w.heap.size, 0, none⟩ : Addr).add j = ⟨w.heap.size, j, none⟩ := by cases j <;> simp [Addr.add]
  rw [e, ← hj, ← bytesRow_at s c j hlt]
  exact h1

set_option maxHeartbeats 400000 in
theorem specText_any (s : ByteArray) (w : World) (h : s.size ≤ 1048576) :
    Calls Try.prog 4 #[.string s] w fun e w' => ∃ v, e = .returned v ∧ w'.ownsRow w.heap.size 5 1 v (textOf s).length ((textOf s).map (Value.int .u8)) ∧ Below w.heap.size w w' := by
  obtain ⟨i0, hi, hz0, hz1, hz2⟩ := info_parts t5info
  have kc := fun wx => run_bytes_of_string (P := Try.prog) wx 9 22 5 s Try.underlying9 Try.underlying22 Try.underlying5
  have hl := bytesOf_len (s.size : Int)
  rw [textOf_len, textOf_map]
  go_enter Try.func4, Try.ntmps4
  go_wp2_with fail
  refine (spec_any _ _).mono ?_
  rintro e w1 ⟨v0, rfl, ho, hb⟩
  have hs1 := hb.size
  go_wp2_with (at_builtin; refine wpList_append_own _ rfl _ _ 22 rfl w.heap.size 5 i0 (.int .u8 0) 1 1 Try.underlying22 hi hz0 hz1 hz2 rfl (by decide) _ _ _ rfl (hown_mark ho _) _ _ _ (Lib.strCells s) rfl ?c0 ?c1 ?c2 ?c3 ?c4 ?c5 ?_)
  case c0 => rw [Lib.strCells_length]; omega
  case c1 => exact mark_cells w1 s _ _ _ _
  case c2 => intro u hu; simp only [Lib.strCells, List.mem_map] at hu; obtain ⟨b, _, rfl⟩ := hu; rfl
  case c3 => unfold maxLen; omega
  case c4 => omega
  case c5 => simp; omega
  intro v1 w2 ho2 hg _
  clear kc
  go_wp2
  go_ret
  refine ⟨_, rfl, ho2, ?_⟩
  exact ((hb.alloc hs1 _).drew).grown hg (by simp; omega) fun k hk => (ho.lt k hk).1
set_option maxHeartbeats 400000 in
theorem implText_any (s : ByteArray) (w : World) (h : s.size ≤ 1048576) :
    Calls Try.prog 5 #[.string s] w fun e w' => ∃ v, e = .returned v ∧ w'.ownsRow w.heap.size 5 1 v (textOf s).length ((textOf s).map (Value.int .u8)) ∧ Below w.heap.size w w' := by
  obtain ⟨i0, hi, hz0, hz1, hz2⟩ := info_parts t5info
  have hl := bytesOf_len (s.size : Int)
  rw [textOf_len, textOf_map]
  go_enter Try.func5, Try.ntmps5
  go_wp2_with fail
  refine (impl_any _ _).mono ?_
  rintro e w1 ⟨v0, rfl, ho, hb⟩
  have hs1 := hb.size
  go_wp2_with (at_builtin; refine Lib.wpList_append_own_string _ rfl _ _ 22 9 rfl w.heap.size 5 i0 Try.underlying22 Try.underlying9 hi hz0 hz1 hz2 _ _ _ rfl ho s rfl ?c1 ?c2 ?c3 ?_)
  case c1 => unfold maxLen; omega
  case c2 => omega
  case c3 => omega
  intro v1 w2 ho2 hg _
  go_wp2
  go_ret
  exact ⟨_, rfl, ho2, hb.grown hg hs1 fun k hk => (ho.lt k hk).1⟩
end Go.Proofs.Ytgekbbojhlcppab
