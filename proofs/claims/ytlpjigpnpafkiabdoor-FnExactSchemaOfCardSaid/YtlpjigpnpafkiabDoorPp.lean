/- Parts: the specification's loop answers the same pieces. -/
import Derived.Test.YtlpjigpnpafkiabDoorPq
namespace Go.Proofs.YtlpjigpnpafkiabDoor
open Go.RowKit
set_option maxRecDepth 100000

/-- The piece from f on, ahead of place k. -/
def cur (l : List UInt8) (f k : Nat) : List UInt8 := (l.drop f).take (k - f)
theorem cur_step (l : List UInt8) (f k : Nat) (c : UInt8) (h : f ≤ k) (hc : l[k]? = some c) : cur l f (k + 1) = cur l f k ++ [c] := by
  unfold cur
  rw [show k + 1 - f = (k - f) + 1 by omega]
  have hk : k < l.length := (List.getElem?_eq_some_iff.1 hc).1
  have h2 : k - f < (l.drop f).length := by simp; omega
  rw [List.take_succ_eq_append_getElem h2]
  congr 2
  rw [List.getElem_drop]
  have := (List.getElem?_eq_some_iff.1 hc).2
  rw [← this]
  congr 1; omega
theorem cur_self (l : List UInt8) (k : Nat) : cur l k k = [] := by simp [cur]
theorem cur_extract (s : ByteArray) (f k : Nat) : s.extract f k = mkB (cur s.data.toList f k) := by
  apply ByteArray.ext
  apply Array.toList_inj.1
  rw [Lib.extract_data]; simp [mkB, cur]
theorem cuts_at {b c : UInt8} {l : List UInt8} {k : Nat} (x : List UInt8) (hc : l[k]? = some c) : cuts b x (l.drop k) = if c = b then x :: cuts b [] (l.drop (k + 1)) else cuts b (x ++ [c]) (l.drop (k + 1)) := by
  have hk : k < l.length := (List.getElem?_eq_some_iff.1 hc).1
  have e := (List.getElem?_eq_some_iff.1 hc).2
  rw [List.drop_eq_getElem_cons hk, e, cuts]
theorem cuts_end {b : UInt8} {l : List UInt8} (x : List UInt8) : cuts b x (l.drop l.length) = [x] := by simp [cuts]

set_option maxHeartbeats 1600000 in
theorem specParts_any (s : ByteArray) (b : UInt8) (w : World) (hs : s.size ≤ 1048576) :
    Calls Tryd.prog 38 #[.string s, .int .u8 (b.toNat : Int)] w fun e w' => ∃ v, e = .returned v ∧ w'.ownsRow w.heap.size 9 1 v (pieces b s).length ((pieces b s).map Value.string) ∧ Below w.heap.size w w' := by
  obtain ⟨i0, hi, hz0, hz1, hz2⟩ := info_parts t9info
  obtain ⟨l, hl⟩ : ∃ l, s.data.toList = l := ⟨_, rfl⟩
  have hlen : l.length = s.size := by rw [← hl]; simp
  have HP : Hid (pieces b s = (cuts b [] l).map mkB) := by unfold pieces; rw [hl]; exact rfl
  have HL : Hid (s.data.toList = l) := hl
  have HN : Hid (l.length = s.size) := hlen
  have hbb : (0 : Int) ≤ (b.toNat : Int) := by omega
  clear hl hlen
  go_enter Tryd.func38, Tryd.ntmps38
  go_wp2
  go_loopw [5, 6, 7] (fun v f i wr => ∃ (k fr : Nat) (done : List ByteArray), i = .int .i64 k ∧ f = .int .i64 fr ∧ k ≤ s.size + 1 ∧ done.length ≤ k ∧ fr ≤ k ∧
      ((k ≤ s.size ∧ done ++ (cuts b (cur l fr k) (l.drop k)).map mkB = (cuts b [] l).map mkB) ∨ (k = s.size + 1 ∧ done = (cuts b [] l).map mkB)) ∧
      wr.ownsRow w.heap.size 9 1 v done.length (done.map Value.string) ∧ Below w.heap.size w wr) (fun _ _ i _ => s.size + 1 - (intOf i).toNat)
  case atStart => exact ⟨0, 0, [], rfl, rfl, by omega, by simp, by omega, .inl ⟨by omega, by simp [cur_self]⟩, ownsRow_litS w, (Below.refl _ _).alloc (Nat.le_refl _) _⟩
  case round =>
    obtain ⟨k, fr, done, rfl, rfl, hk, hdl, hfr, hE, hown, hnx⟩ := hrel
    by_cases hlt : k ≤ s.size
    · have hE1 : done ++ (cuts b (cur l fr k) (l.drop k)).map mkB = (cuts b [] l).map mkB := by
        rcases hE with ⟨_, h⟩ | ⟨h, _⟩
        · exact h
        · omega
      have HE : Hid (done ++ (cuts b (cur l fr k) (l.drop k)).map mkB = (cuts b [] l).map mkB) := hE1
      clear hE hE1
      by_cases hend : k = s.size
      · have hke : ((k : Int) == (s.size : Int)) = true := by simp; omega
        have HK : Hid (k = s.size) := hend
        clear hend
        go_wp2_with (at_builtin; refine wpList_append_own _ rfl _ _ 23 rfl w.heap.size 9 i0 (.string ⟨#[]⟩) 1 16 Tryd.underlying23 hi hz0 hz1 hz2 rfl (by decide) _ _ _ rfl (hown.alloc _) ⟨wr.heap.size, 0, none⟩ 1 1 [_] rfl rfl (new_cellS _ _ _) ?c2 ?c3 ?c4 ?c5 ?_)
        case c2 => intro u hu; simp at hu; subst hu; rfl
        case c3 => unfold maxLen; omega
        case c4 => omega
        case c5 => have := hnx.size; simp; omega
        intro v' w1 hown' hgrow _
        have R := rel_stepS hnx.size hnx hown hown' hgrow
        clear hown' hgrow hown
        go_wp2
        go_roundw
        case rel =>
          refine ⟨k + 1, k + 1, done ++ [s.extract fr k], by go_num, by go_num, by omega, by simp; omega, by omega, .inr ⟨by rw [HK.out], ?_⟩, R.1, R.2⟩
          rw [← HE.out, cur_extract, HL.out, HK.out, ← HN.out, cuts_end]; rfl
        case measure => simp [intOf]; omega
      · have hke : ((k : Int) == (s.size : Int)) = false := by simp; omega
        have hkl : k < s.size := by omega
        have hbk : l[k]? = some s[k] := by rw [← HL.out]; simp [hkl]; rfl
        have HC : Hid (l[k]? = some s[k]) := hbk
        clear hbk hend
        by_cases hb : s[k] = b
        · have hbe : ((s[k].toNat : Int) == (b.toNat : Int)) = true := by rw [hb]; simp
          have HB : Hid (s[k] = b) := hb
          clear hb
          go_wp2_with (at_builtin; refine wpList_append_own _ rfl _ _ 23 rfl w.heap.size 9 i0 (.string ⟨#[]⟩) 1 16 Tryd.underlying23 hi hz0 hz1 hz2 rfl (by decide) _ _ _ rfl (hown.alloc _) ⟨wr.heap.size, 0, none⟩ 1 1 [_] rfl rfl (new_cellS _ _ _) ?d2 ?d3 ?d4 ?d5 ?_)
          case d2 => intro u hu; simp at hu; subst hu; rfl
          case d3 => unfold maxLen; omega
          case d4 => omega
          case d5 => have := hnx.size; simp; omega
          intro v' w1 hown' hgrow _
          have R := rel_stepS hnx.size hnx hown hown' hgrow
          clear hown' hgrow hown
          go_wp2
          go_roundw
          case rel =>
            refine ⟨k + 1, k + 1, done ++ [s.extract fr k], by go_num, by go_num, by omega, by simp; omega, by omega, .inl ⟨by omega, ?_⟩, R.1, R.2⟩
            rw [← HE.out, cuts_at _ HC.out, if_pos HB.out, cur_extract, HL.out, cur_self]; simp
          case measure => simp [intOf]; omega
        · have hbe : ((s[k].toNat : Int) == (b.toNat : Int)) = false := by
            simp only [beq_eq_false_iff_ne, ne_eq]
            intro e
            exact hb (UInt8.toNat_inj.1 (by omega))
          have HB : Hid (¬ s[k] = b) := hb
          clear hb
          go_wp2
          go_roundw
          case rel =>
            refine ⟨k + 1, fr, done, by go_num, rfl, by omega, by omega, by omega, .inl ⟨by omega, ?_⟩, hown, hnx⟩
            rw [← HE.out, cuts_at _ HC.out, if_neg HB.out, cur_step l fr k _ hfr HC.out]
          case measure => simp [intOf]; omega
    · have hP : done = (cuts b [] l).map mkB := by
        rcases hE with ⟨h, _⟩ | ⟨_, h⟩
        · omega
        · exact h
      have HF : Hid (pieces b s = done) := HP.out.trans hP.symm
      clear hE hP
      go_wp2
      go_ret
      exact ⟨_, rfl, by rw [HF.out]; exact hown, hnx⟩

end Go.Proofs.YtlpjigpnpafkiabDoor
