/- The bytes of a text, by the program: its length as a number, and its own. -/
import Derived.Test.YtgekbbojhlcppaaDoorPn
import Derived.Lib.AppendStr
namespace Go.Proofs.YtgekbbojhlcppaaDoor
open Go.RowKit
set_option maxRecDepth 100000

def textOf (s : ByteArray) : List Int := bytesOf s.size ++ s.data.toList.map fun b => (b.toNat : Int)
theorem textOf_len (s : ByteArray) : (textOf s).length = (bytesOf s.size).length + s.size := by simp [textOf]
theorem textOf_map (s : ByteArray) : (textOf s).map (Value.int .u8) = (bytesOf s.size).map (Value.int .u8) ++ Lib.strCells s := by
  simp [textOf, Lib.strCells, Function.comp_def]

set_option maxHeartbeats 400000 in
theorem putTextImpl_any (s : ByteArray) (w : World) (h : s.size ≤ 1048576) :
    Calls Tryd.prog 11 #[.string s] w fun e w' => ∃ v, e = .returned v ∧ w'.ownsRow w.heap.size 5 1 v (textOf s).length ((textOf s).map (Value.int .u8)) ∧ Below w.heap.size w w' := by
  obtain ⟨i0, hi, hz0, hz1, hz2⟩ := info_parts t5info
  have hl := bytesOf_len (s.size : Int)
  rw [textOf_len, textOf_map]
  go_enter Tryd.func11, Tryd.ntmps11
  go_wp2_with fail
  refine (impl_any _ _).mono ?_
  rintro e w1 ⟨v0, rfl, ho, hb⟩
  have hs1 := hb.size
  go_wp2_with (at_builtin; refine Lib.wpList_append_own_string _ rfl _ _ 22 9 rfl w.heap.size 5 i0 Tryd.underlying22 Tryd.underlying9 hi hz0 hz1 hz2 _ _ _ rfl ho s rfl ?c1 ?c2 ?c3 ?_)
  case c1 => unfold maxLen; omega
  case c2 => omega
  case c3 => omega
  intro v1 w2 ho2 hg _
  go_wp2
  go_ret
  exact ⟨_, rfl, ho2, hb.grown hg hs1 fun k hk => (ho.lt k hk).1⟩
end Go.Proofs.YtgekbbojhlcppaaDoor
