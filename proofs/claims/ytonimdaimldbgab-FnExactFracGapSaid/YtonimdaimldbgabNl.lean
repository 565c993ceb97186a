/- Lists that are told as plain numbers. -/
import Derived.Test.YtonimdaimldbgabOa
namespace Go.Proofs.Ytonimdaimldbgab
open Go.RowKit

theorem ok_nl {n : Nat} (h : n < top) : okL (ans (some n)) := okL_of _ (digs_norm n) ((digs_len 16 n).2 h)
theorem num_nl (n : Nat) : num (ans (some n)) = n := by
  show val (nats (up (digs n))) = n
  rw [nats_up, val_digs]
theorem nl_of {xs : List Int} (h : okL xs) : xs = ans (some (num xs)) := okL_digs xs h
theorem len_nl {n : Nat} (h : n < top) : (ans (some n)).length ≤ 140737488351232 := by have := (ok_nl h).1; omega
theorem addO_nl {m n : Nat} (hm : m < top) (hn : n < top) : addO (ans (some m)) (ans (some n)) = if m + n < top then some (m + n) else none := by
  unfold addO
  rw [num_nl, num_nl]
  by_cases h : m + n < top
  · rw [if_pos ⟨ok_nl hm, ok_nl hn, h⟩, if_pos h]
  · rw [if_neg (fun k => h k.2.2), if_neg h]
theorem mulO_nl {m n : Nat} (hm : m < top) (hn : n < top) : mulO (ans (some m)) (ans (some n)) = if m * n < top then some (m * n) else none := by
  unfold mulO
  rw [num_nl, num_nl]
  by_cases h : m * n < top
  · rw [if_pos ⟨ok_nl hm, ok_nl hn, h⟩, if_pos h]
  · rw [if_neg (fun k => h k.2.2), if_neg h]
theorem subO_nl {m n : Nat} (hm : m < top) (hn : n < top) (h : n ≤ m) : subO (ans (some m)) (ans (some n)) = some (m - n) := by
  unfold subO
  rw [num_nl, num_nl, if_pos ⟨ok_nl hm, ok_nl hn, h⟩]
theorem cmpL_nl {m n : Nat} (hm : m < top) (hn : n < top) : cmpL (ans (some m)) (ans (some n)) = cmpN m n := by
  unfold cmpL
  rw [num_nl, num_nl, if_pos ⟨ok_nl hm, ok_nl hn⟩]
end Go.Proofs.Ytonimdaimldbgab
