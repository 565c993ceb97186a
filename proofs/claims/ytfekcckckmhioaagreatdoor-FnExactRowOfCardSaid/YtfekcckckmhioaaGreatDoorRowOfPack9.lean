/- Texts of this claim, put together: part 9. -/
import Derived.Test.YtfekcckckmhioaaGreatDoorRows
import Derived.WalkKit
import Derived.ProofKit
import Derived.OpenShut
import Derived.Test.YtfekcckckmhioaaGreatDoorRowOfPack8
import Derived.Test.YtfekcckckmhioaaGreatDoorRowOfPack4
import Derived.Test.YtfekcckckmhioaaGreatDoorRowOfPack1
import Derived.Test.YtfekcckckmhioaaGreatDoorRowOfPack5
import Derived.Test.YtfekcckckmhioaaGreatDoorRowOfPack3
/- A copy of a text, by the library. -/
namespace Go.Proofs.YtfekcckckmhioaaGreatDoor
open Go.RowKit
set_option maxRecDepth 100000
theorem clone_any (s : ByteArray) (w : World) (hs : s.size ≤ 1048576) : Calls Tryz.prog 73 #[.string s] w fun e w' => e = .returned (.string s) ∧ Below w.heap.size w w' := by
  go_enter Tryz.func73, Tryz.ntmps73
  go_wp2_with fail
  refine (Tryz.stringslite_Clone s w (by omega)).mono ?_
  rintro e w' ⟨rfl, hb⟩
  go_wp2
  go_ret
  exact ⟨rfl, hb⟩

end Go.Proofs.YtfekcckckmhioaaGreatDoor
/- Parts: the program's Split answers the pieces, each in memory of its own. -/
namespace Go.Proofs.YtfekcckckmhioaaGreatDoor
open Go.RowKit
set_option maxRecDepth 100000

theorem t9info : (Tryz.prog.info? 9).map (fun i => (i.zero, i.size, i.bytes)) = some (some (.string ⟨#[]⟩), 1, 16) := by kernel_rfl

theorem ownsRow_litS (w : World) : (w.alloc (.cells #[] 9)).ownsRow w.heap.size 9 1 (.slice (some ⟨w.heap.size, 0, none⟩) 0 0) 0 [] :=
  World.ownsRow_lit (base := w.heap.size) (e := 9) (size := 1) w #[] 0 (Nat.le_refl _) (by decide) rfl

theorem rel_stepS {w wr w1 : World} {v v' : Value} {done : List ByteArray} {b : ByteArray} {o : Obj} (hs : w.heap.size ≤ wr.heap.size) (hb : Below w.heap.size w wr) (hown : wr.ownsRow w.heap.size 9 1 v done.length (done.map Value.string))
    (hown' : w1.ownsRow w.heap.size 9 1 v' (done.length + 1) (done.map Value.string ++ [.string b])) (hgrow : (wr.alloc o).grownBy w1 v.ownBlock) :
    w1.ownsRow w.heap.size 9 1 v' (done ++ [b]).length ((done ++ [b]).map Value.string) ∧ Below w.heap.size w w1 := by
  refine ⟨by simpa using hown', (hb.alloc hs o).grown hgrow (by simp; omega) fun k hk => (hown.lt k hk).1⟩

theorem new_cellS (w : World) (u : Value) (e : TypeId) : ∀ (j : Nat) (x : Value), [u][j]? = some x → (w.alloc (.cells #[u] e)).cell? ((⟨w.heap.size, 0, none⟩ : Addr).add j) = some x := by
  intro j x hj
  match j, hj with
  | 0, hj => simp at hj; subst hj; simp [Addr.add]

theorem pieces_small (b : UInt8) (s : ByteArray) (p : ByteArray) (h : p ∈ pieces b s) : p.size ≤ s.size := by
  unfold pieces at h
  obtain ⟨x, hx, rfl⟩ := List.mem_map.1 h
  have key : ∀ (r cu : List UInt8), x ∈ cuts b cu r → x.length ≤ cu.length + r.length := by
    intro r
    induction r with
    | nil => intro cu h; simp [cuts] at h; subst h; simp
    | cons c r ih =>
      intro cu h
      unfold cuts at h
      split at h
      · rcases List.mem_cons.1 h with rfl | h
        · simp
        · have := ih [] h; simp at this ⊢; omega
      · have := ih _ h; simp at this ⊢; omega
  have h2 := key _ _ hx
  have h3 : (mkB x).size = x.length := by simp [mkB, ByteArray.size]
  rw [h3]
  simpa using h2

set_option maxHeartbeats 1600000 in
theorem implParts_any (s : ByteArray) (b : UInt8) (m : Int) (w : World) (hs : s.size ≤ 1048576) (hg : 1 < w.heap.size) (hm : w.cell? ⟨1, 0, none⟩ = some (.int .i64 m)) :
    Calls Tryz.prog 56 #[.string s, .int .u8 (b.toNat : Int)] w fun e w' => ∃ v, e = .returned v ∧ w'.ownsRow w.heap.size 9 1 v (pieces b s).length ((pieces b s).map Value.string) ∧ Below w.heap.size w w' := by
  have ot := one_text
  have S : ∀ o, Calls Tryz.prog 80 #[.string s, .string ⟨#[b]⟩] (w.alloc o) fun e w' => e = .returned (.slice (some ⟨w.heap.size + 1, 0, none⟩) (pieces b s).length (pieces b s).length) ∧ w'.ownsRow w.heap.size 9 1 (.slice (some ⟨w.heap.size + 1, 0, none⟩) (pieces b s).length (pieces b s).length) (pieces b s).length ((pieces b s).map Value.string) ∧ Below w.heap.size w w' := by
    intro o
    refine (Tryz.strings_Split s ⟨#[b]⟩ m (w.alloc o) (by omega) ((World.cell?_alloc_past _ _ _ hg).trans hm) (by exact Nat.le_refl _)).mono ?_
    rintro e w' ⟨rfl, rfl⟩
    rw [count_pieces, split_all]
    have hb := pieces_len b s
    refine ⟨by simp, ?_, ((Below.refl _ _).alloc (Nat.le_refl _) _).alloc (by simp) _⟩
    have := World.ownsRow_lit (base := w.heap.size) (e := 9) (size := 1) (w.alloc o) ((pieces b s).map Value.string).toArray (pieces b s).length (by simp) (by unfold maxLen; omega) (by simp)
    simpa using this
  have hpl := pieces_len b s
  have hps := pieces_small b s
  generalize pieces b s = ps at S hpl hps ⊢
  have HPS : Hid (∀ p, p ∈ ps → p.size ≤ s.size) := hps
  clear hps hm hg
  go_enter Tryz.func56, Tryz.ntmps56
  go_wp2_with fail
  refine (S _).mono ?_
  clear S ot
  rintro e w1 ⟨rfl, ho, hb⟩
  go_wp2
  go_loopw [15] (fun i wr => ∃ k : Nat, i = .int .i64 k ∧ k ≤ ps.length ∧ wr.ownsRow w.heap.size 9 1 (.slice (some ⟨w.heap.size + 1, 0, none⟩) ps.length ps.length) ps.length (ps.map Value.string) ∧ Below w.heap.size w wr) (fun i _ => ps.length - (intOf i).toNat)
  case atStart => exact ⟨0, rfl, by omega, ho, hb⟩
  case round =>
    obtain ⟨k, rfl, hk, hown, hbr⟩ := hrel
    clear ho hb
    by_cases hlt : k < ps.length
    · have hck : wr.cell? ⟨w.heap.size + 1, k, none⟩ = some (.string ps[k]) := by rw [hown.cellAt k (by omega)]; simp [hlt]
      have hpk : ps[k].size ≤ s.size := HPS.out _ (List.getElem_mem hlt)
      have hset : (ps.map Value.string).set k (.string ps[k]) = ps.map Value.string := by
        apply List.ext_getElem?
        intro j
        rw [List.getElem?_set]
        split
        · next e => subst e; simp [hlt]
        · rfl
      have HSet : Hid ((ps.map Value.string).set k (.string ps[k]) = ps.map Value.string) := hset
      clear hset
      generalize ps[k] = t at hck hpk HSet
      go_wp2_with fail
      refine (clone_any t wr (by omega)).mono ?_
      rintro e w2 ⟨rfl, hb2⟩
      have hown2 := own_below hown hb2
      have hs2 := hbr.size
      have hc2 : w2.cell? ⟨w.heap.size + 1, k, none⟩ = some (.string t) := (hb2.cell (p := ⟨w.heap.size + 1, k, none⟩) (hown.lt _ rfl).2).trans hck
      have hf2 : w2.frozen? ⟨w.heap.size + 1, k, none⟩ = false := hown2.frozenAt k
      have hst := hown2.stored k (.string t)
      rw [HSet.out] at hst
      have hbs : Below w.heap.size w (w2.setCell ⟨w.heap.size + 1, k, none⟩ (.string t)) := (hbr.trans (hb2.mono hs2)).setCell (p := ⟨w.heap.size + 1, k, none⟩) (by simp) _
      have HST : Hid ((w2.setCell ⟨w.heap.size + 1, k, none⟩ (.string t)).ownsRow w.heap.size 9 1 (.slice (some ⟨w.heap.size + 1, 0, none⟩) ps.length ps.length) ps.length (ps.map Value.string) ∧ Below w.heap.size w (w2.setCell ⟨w.heap.size + 1, k, none⟩ (.string t))) := ⟨hst.1, hbs⟩
      clear hst hbs hown hown2 hbr hck hb2
      go_wp2
      go_roundw
      case rel => exact ⟨k + 1, by go_num, by omega, HST.out.1, HST.out.2⟩
      case measure => simp [intOf]; omega
    · go_wp2
      go_ret
      exact ⟨_, rfl, hown, hbr⟩
end Go.Proofs.YtfekcckckmhioaaGreatDoor
/- Parts: the specification's loop answers the same pieces. -/
namespace Go.Proofs.YtfekcckckmhioaaGreatDoor
open Go.RowKit
set_option maxRecDepth 100000

/-- The piece from f on, ahead of place k. -/
def cur (l : List UInt8) (f k : Nat) : List UInt8 := (l.drop f).take (k - f)
theorem cur_step (l : List UInt8) (f k : Nat) (c : UInt8) (h : f ≤ k) (hc : l[k]? = some c) : cur l f (k + 1) = cur l f k ++ [c] := by
  unfold cur
  rw [show k + 1 - f = (k - f) + 1 by omega]
  have hk : k < l.length := (List.getElem?_eq_some_iff.1 hc).1
  have h2 : k - f < (l.drop f).length := by simp; omega
  rw [List.take_succ_eq_append_getElem h2]
  congr 2
  rw [List.getElem_drop]
  have := (List.getElem?_eq_some_iff.1 hc).2
  rw [← this]
  congr 1; omega
theorem cur_self (l : List UInt8) (k : Nat) : cur l k k = [] := by simp [cur]
theorem cur_extract (s : ByteArray) (f k : Nat) : s.extract f k = mkB (cur s.data.toList f k) := by
  apply ByteArray.ext
  apply Array.toList_inj.1
  rw [Lib.extract_data]; simp [mkB, cur]
theorem cuts_at {b c : UInt8} {l : List UInt8} {k : Nat} (x : List UInt8) (hc : l[k]? = some c) : cuts b x (l.drop k) = if c = b then x :: cuts b [] (l.drop (k + 1)) else cuts b (x ++ [c]) (l.drop (k + 1)) := by
  have hk : k < l.length := (List.getElem?_eq_some_iff.1 hc).1
  have e := (List.getElem?_eq_some_iff.1 hc).2
  rw [List.drop_eq_getElem_cons hk, e, cuts]
theorem cuts_end {b : UInt8} {l : List UInt8} (x : List UInt8) : cuts b x (l.drop l.length) = [x] := by simp [cuts]

set_option maxHeartbeats 1600000 in
theorem specParts_any (s : ByteArray) (b : UInt8) (w : World) (hs : s.size ≤ 1048576) :
    Calls Tryz.prog 26 #[.string s, .int .u8 (b.toNat : Int)] w fun e w' => ∃ v, e = .returned v ∧ w'.ownsRow w.heap.size 9 1 v (pieces b s).length ((pieces b s).map Value.string) ∧ Below w.heap.size w w' := by
  obtain ⟨i0, hi, hz0, hz1, hz2⟩ := info_parts t9info
  obtain ⟨l, hl⟩ : ∃ l, s.data.toList = l := ⟨_, rfl⟩
  have hlen : l.length = s.size := by rw [← hl]; simp
  have HP : Hid (pieces b s = (cuts b [] l).map mkB) := by unfold pieces; rw [hl]; exact rfl
  have HL : Hid (s.data.toList = l) := hl
  have HN : Hid (l.length = s.size) := hlen
  have hbb : (0 : Int) ≤ (b.toNat : Int) := by omega
  clear hl hlen
  go_enter Tryz.func26, Tryz.ntmps26
  go_wp2
  go_loopw [5, 6, 7] (fun v f i wr => ∃ (k fr : Nat) (done : List ByteArray), i = .int .i64 k ∧ f = .int .i64 fr ∧ k ≤ s.size + 1 ∧ done.length ≤ k ∧ fr ≤ k ∧
      ((k ≤ s.size ∧ done ++ (cuts b (cur l fr k) (l.drop k)).map mkB = (cuts b [] l).map mkB) ∨ (k = s.size + 1 ∧ done = (cuts b [] l).map mkB)) ∧
      wr.ownsRow w.heap.size 9 1 v done.length (done.map Value.string) ∧ Below w.heap.size w wr) (fun _ _ i _ => s.size + 1 - (intOf i).toNat)
  case atStart => exact ⟨0, 0, [], rfl, rfl, by omega, by simp, by omega, .inl ⟨by omega, by simp [cur_self]⟩, ownsRow_litS w, (Below.refl _ _).alloc (Nat.le_refl _) _⟩
  case round =>
    obtain ⟨k, fr, done, rfl, rfl, hk, hdl, hfr, hE, hown, hnx⟩ := hrel
    by_cases hlt : k ≤ s.size
    · have hE1 : done ++ (cuts b (cur l fr k) (l.drop k)).map mkB = (cuts b [] l).map mkB := by
        rcases hE with ⟨_, h⟩ | ⟨h, _⟩
        · exact h
        · omega
      have HE : Hid (done ++ (cuts b (cur l fr k) (l.drop k)).map mkB = (cuts b [] l).map mkB) := hE1
      clear hE hE1
      by_cases hend : k = s.size
      · have hke : ((k : Int) == (s.size : Int)) = true := by simp; omega
        have HK : Hid (k = s.size) := hend
        clear hend
        go_wp2_with (at_builtin; refine wpList_append_own _ rfl _ _ 23 rfl w.heap.size 9 i0 (.string ⟨#[]⟩) 1 16 Tryz.underlying23 hi hz0 hz1 hz2 rfl (by decide) _ _ _ rfl (hown.alloc _) ⟨wr.heap.size, 0, none⟩ 1 1 [_] rfl rfl (new_cellS _ _ _) ?c2 ?c3 ?c4 ?c5 ?_)
        case c2 => intro u hu; simp at hu; subst hu; rfl
        case c3 => unfold maxLen; omega
        case c4 => omega
        case c5 => have := hnx.size; simp; omega
        intro v' w1 hown' hgrow _
        have R := rel_stepS hnx.size hnx hown hown' hgrow
        clear hown' hgrow hown
        go_wp2
        go_roundw
        case rel =>
          refine ⟨k + 1, k + 1, done ++ [s.extract fr k], by go_num, by go_num, by omega, by simp; omega, by omega, .inr ⟨by rw [HK.out], ?_⟩, R.1, R.2⟩
          rw [← HE.out, cur_extract, HL.out, HK.out, ← HN.out, cuts_end]; rfl
        case measure => simp [intOf]; omega
      · have hke : ((k : Int) == (s.size : Int)) = false := by simp; omega
        have hkl : k < s.size := by omega
        have hbk : l[k]? = some s[k] := by rw [← HL.out]; simp [hkl]; rfl
        have HC : Hid (l[k]? = some s[k]) := hbk
        clear hbk hend
        by_cases hb : s[k] = b
        · have hbe : ((s[k].toNat : Int) == (b.toNat : Int)) = true := by rw [hb]; simp
          have HB : Hid (s[k] = b) := hb
          clear hb
          go_wp2_with (at_builtin; refine wpList_append_own _ rfl _ _ 23 rfl w.heap.size 9 i0 (.string ⟨#[]⟩) 1 16 Tryz.underlying23 hi hz0 hz1 hz2 rfl (by decide) _ _ _ rfl (hown.alloc _) ⟨wr.heap.size, 0, none⟩ 1 1 [_] rfl rfl (new_cellS _ _ _) ?d2 ?d3 ?d4 ?d5 ?_)
          case d2 => intro u hu; simp at hu; subst hu; rfl
          case d3 => unfold maxLen; omega
          case d4 => omega
          case d5 => have := hnx.size; simp; omega
          intro v' w1 hown' hgrow _
          have R := rel_stepS hnx.size hnx hown hown' hgrow
          clear hown' hgrow hown
          go_wp2
          go_roundw
          case rel =>
            refine ⟨k + 1, k + 1, done ++ [s.extract fr k], by go_num, by go_num, by omega, by simp; omega, by omega, .inl ⟨by omega, ?_⟩, R.1, R.2⟩
            rw [← HE.out, cuts_at _ HC.out, if_pos HB.out, cur_extract, HL.out, cur_self]; simp
          case measure => simp [intOf]; omega
        · have hbe : ((s[k].toNat : Int) == (b.toNat : Int)) = false := by
            simp only [beq_eq_false_iff_ne, ne_eq]
            intro e
            exact hb (UInt8.toNat_inj.1 (by omega))
          have HB : Hid (¬ s[k] = b) := hb
          clear hb
          go_wp2
          go_roundw
          case rel =>
            refine ⟨k + 1, fr, done, by go_num, rfl, by omega, by omega, by omega, .inl ⟨by omega, ?_⟩, hown, hnx⟩
            rw [← HE.out, cuts_at _ HC.out, if_neg HB.out, cur_step l fr k _ hfr HC.out]
          case measure => simp [intOf]; omega
    · have hP : done = (cuts b [] l).map mkB := by
        rcases hE with ⟨h, _⟩ | ⟨_, h⟩
        · omega
        · exact h
      have HF : Hid (pieces b s = done) := HP.out.trans hP.symm
      clear hE hP
      go_wp2
      go_ret
      exact ⟨_, rfl, by rw [HF.out]; exact hown, hnx⟩

end Go.Proofs.YtfekcckckmhioaaGreatDoor
/- An example in a block of its own: it is read and written whole, it is handed back. -/
namespace Go.Proofs.YtfekcckckmhioaaGreatDoor
open Go.RowKit
set_option maxRecDepth 100000
theorem ex_size : (Tryz.prog.info? 30).map (·.size) = some 2 := by kernel_rfl
theorem wp_ex_load {ops : Array Oper} {rest : List Oper} {o : Oper} {a : Act} {w : World} {Q : Exit → Act → World → Prop} (hgd : o.guard = none) (x : Operand) (ho : o.op = .load 30 x)
    (h : ∃ g, a.eval x = .pointer (some ⟨g, 0, none⟩) ∧ ∃ c0 c1, Blk 30 w g #[c0, c1] ∧ wpList Tryz.prog ops Q rest (a.put o.dst (.agg #[c0, c1])) w) : wpList Tryz.prog ops Q (o :: rest) a w := by
  obtain ⟨g, hx, c0, c1, hA, hk⟩ := h
  exact wpList_load_row hgd 30 x ho g hx _ _ _ _ hA Tryz.underlying30 rfl ex_size hk
theorem wp_ex_store {ops : Array Oper} {rest : List Oper} {o : Oper} {a : Act} {w : World} {Q : Exit → Act → World → Prop} (hgd : o.guard = none) (x y : Operand) (ho : o.op = .store 30 x y)
    (h : ∃ g, a.eval x = .pointer (some ⟨g, 0, none⟩) ∧ ∃ o1 l1 k1 n, a.eval y = .agg #[.slice o1 l1 k1, .int .i64 n] ∧ ∃ d0 d1, Blk 30 w g #[d0, d1] ∧ wpList Tryz.prog ops Q rest (a.put o.dst undef) (w.setRow g #[.slice o1 l1 k1, .int .i64 n])) : wpList Tryz.prog ops Q (o :: rest) a w := by
  obtain ⟨g, hx, o1, l1, k1, n, hy, d0, d1, hA, hk⟩ := h
  exact wpList_store_row hgd 30 x y ho g _ hx hy _ _ hA ex_size rfl (by simp [Value.oneCell']) hk
theorem res_ex {fn : Func} {p : Tmp} (h : fn.results = #[.cell p 30]) (tmps : Array Value) (w : World) (g : Nat) (c0 c1 : Value)
    (hp : tmps.getD p undef = .pointer (some ⟨g, 0, none⟩)) (hg : Blk 30 w g #[c0, c1]) : (results fn tmps).run Tryz.prog w = .ok (.agg #[c0, c1]) w :=
  results_cell_row h tmps w g _ _ _ _ hp hg Tryz.underlying30 rfl ex_size
end Go.Proofs.YtfekcckckmhioaaGreatDoor
