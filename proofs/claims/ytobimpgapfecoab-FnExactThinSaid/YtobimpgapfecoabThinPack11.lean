/- Texts of this claim, put together: part 11. -/
import Derived.Test.YtobimpgapfecoabThinPack7
import Derived.Test.YtobimpgapfecoabThinPack8
import Derived.Test.YtobimpgapfecoabThinPack6
import Derived.Test.YtobimpgapfecoabThinPack10
import Derived.Test.YtobimpgapfecoabRows
import Derived.WalkKit
import Derived.ProofKit
import Derived.OpenShut
import Derived.Deep.RegionHeld3
/- Counts without their cells, in plain words. -/
namespace Go.Proofs.Ytobimpgapfecoab
open Go.RowKit
set_option maxRecDepth 100000
def thinS (t : StatsD) : StatsD := ⟨t.totals, []⟩
theorem sep_none (base : Nat) (w : World) : SepII base w (.slice none 0 0) (fun _ => .slice none 0 0) [] [] 0 :=
  ⟨World.ownsRow_nil _ _ _ _, fun j hj => by omega, fun j hj => by omega, fun i j a b _ hj => by omega⟩
theorem ownSt_thin {base : Nat} {w : World} {v : Value} {t : StatsD} (h : w.ownsRow base 3 1 v t.totals.length (t.totals.map (Value.int .i64))) : OwnSt base w (.agg #[v, .slice none 0 0]) (thinS t) :=
  ⟨v, .slice none 0 0, fun _ => .slice none 0 0, [], rfl, h, sep_none base w, fun j a b hj => by simp [thinS] at hj⟩
end Go.Proofs.Ytobimpgapfecoab
/- Counts without their cells, by the program. -/
namespace Go.Proofs.Ytobimpgapfecoab
open Go.RowKit
set_option maxRecDepth 100000
set_option linter.unusedSimpArgs false
set_option maxHeartbeats 400000 in
theorem implThin_at (v : Value) (t : StatsD) (w : World) (h : StatsAt w v t) (hn : okSt t) :
    Calls Try.prog 28 #[v] w fun e w' => ∃ v1, e = .returned (.agg #[v1, .slice none 0 0]) ∧ w'.ownsRow (w.heap.size + 2) 3 1 v1 t.totals.length (t.totals.map (Value.int .i64)) ∧ Below w.heap.size w w' := by
  obtain ⟨vt, vc, rfl, ht, -⟩ := h
  have HT : Hid (RowI w vt t.totals) := ht
  have hl := hn.totals
  clear ht hn
  go_enter Try.func28, Try.ntmps28
  go_wp2_with fail
  obtain ⟨K1, K2, B0⟩ := blk_2 35 35 w #[vt, vc] #[.slice none 0 0, .slice none 0 0]
  refine (listCopy_any vt t.totals _ (HT.out.later B0) hl).mono ?_
  rintro e w1 ⟨v1, rfl, ho1, hb1⟩
  replace K2 := K2.below hb1
  have B1 := B0.trans (hb1.mono (by simp; omega))
  have ho1 := own_base ho1 (b' := w.heap.size + 2) (by simp)
  clear K1 hb1 B0 HT
  obtain ⟨o1, k1, rfl⟩ := own_slice ho1
  have HO : Hid (w1.ownsRow (w.heap.size + 2) 3 1 (.slice o1 t.totals.length k1) t.totals.length (t.totals.map (Value.int .i64))) := ho1
  clear ho1
  go_wp2_with (with_reducible refine wp_st_store rfl _ _ rfl ?_; refine ⟨w.heap.size + 1, rfl, _, _, _, _, _, _, rfl, _, _, K2, ?_⟩)
  refine bodyPost_ret (res_st Try.results28 _ _ _ _ _ rfl (K2.setRow _)) rfl ⟨_, rfl, own_setRow HO.out _ _ (by omega), below_row B1 (by omega) _⟩
theorem implThin_any (v : Value) (t : StatsD) (w : World) (h : StatsAt w v t) (hn : okSt t) :
    Calls Try.prog 28 #[v] w fun e w' => ∃ v', e = .returned v' ∧ OwnSt w.heap.size w' v' (thinS t) ∧ Below w.heap.size w w' := by
  refine (implThin_at v t w h hn).mono ?_
  rintro e w' ⟨v1, rfl, ho, hb⟩
  exact ⟨_, rfl, ownSt_thin (own_base ho (by omega)), hb⟩
end Go.Proofs.Ytobimpgapfecoab
/- Counts without their cells, by the specification. -/
namespace Go.Proofs.Ytobimpgapfecoab
open Go.RowKit
set_option maxRecDepth 100000
set_option linter.unusedSimpArgs false
set_option maxHeartbeats 400000 in
theorem specThin_any (v : Value) (t : StatsD) (w : World) (h : StatsAt w v t) (hn : okSt t) :
    Calls Try.prog 27 #[v] w fun e w' => ∃ v', e = .returned v' ∧ OwnSt w.heap.size w' v' (thinS t) ∧ Below w.heap.size w w' := by
  obtain ⟨i0, hi0, hz0, hz1, hz2⟩ := info_parts intInfo
  obtain ⟨vt, vc, rfl, ht, -⟩ := h
  obtain ⟨oa, cap, rfl, hc, hr⟩ := ht
  have hl := hn.totals
  have HL : Hid (∀ W v (_ : Below w.heap.size w W) (_ : W.ownsRow (w.heap.size + 2) 3 1 v t.totals.length (t.totals.map (Value.int .i64))) (_ : w.heap.size + 2 ≤ W.heap.size) , OwnSt w.heap.size (W.setRow (w.heap.size + 1) #[v, .slice none 0 0]) (.agg #[v, .slice none 0 0]) (thinS t) ∧ Below w.heap.size w (W.setRow (w.heap.size + 1) #[v, .slice none 0 0])) :=
    fun W v hW ho hsz => ⟨ownSt_thin (own_base (own_setRow ho _ _ (by omega)) (by omega)), below_row hW (by omega) _⟩
  clear hn
  by_cases h0 : t.totals.length = 0
  · have e0 : t.totals = [] := List.length_eq_zero_iff.1 h0
    have HE : Hid (t.totals = []) := e0
    rw [h0] at hl hc ⊢
    clear hr e0 h0
    cases oa with
    | none =>
      obtain ⟨K1, K2, B0⟩ := blk_2 35 35 w #[.slice none 0 cap, vc] #[.slice none 0 0, .slice none 0 0]
      have B1 := B0.alloc (by simp; omega) (.cells #[] 3)
      have K3 := K2.alloc (.cells #[] 3)
      have ho := ownI_lit0 ((w.alloc (.cells #[.slice none 0 cap, vc] 35)).alloc (.cells #[.slice none 0 0, .slice none 0 0] 35)) (w.heap.size + 2) (by simp)
      have HO := HL.out _ (.slice (some ⟨w.heap.size + 1 + 1, 0, none⟩) 0 0) B1 (by rw [HE.out]; simpa using ho) (by simp)
      clear HL B1 B0 K1 K2 ho
      go_enter Try.func27, Try.ntmps27
      go_wp2_with (with_reducible refine wp_st_store rfl _ _ rfl ?_; refine ⟨w.heap.size + 1, rfl, _, _, _, _, _, _, rfl, _, _, K3, ?_⟩)
      exact bodyPost_ret (res_st Try.results27 _ _ _ _ _ rfl (K3.setRow _)) rfl ⟨_, rfl, HO⟩
    | some ad =>
      obtain ⟨K1, K2, B0⟩ := blk_2 35 35 w #[.slice (some ad) 0 cap, vc] #[.slice none 0 0, .slice none 0 0]
      have B1 := B0.alloc (by simp; omega) (.cells #[] 3)
      have K3 := K2.alloc (.cells #[] 3)
      have ho := ownI_lit0 ((w.alloc (.cells #[.slice (some ad) 0 cap, vc] 35)).alloc (.cells #[.slice none 0 0, .slice none 0 0] 35)) (w.heap.size + 2) (by simp)
      have HO := HL.out _ (.slice (some ⟨w.heap.size + 1 + 1, 0, none⟩) 0 0) B1 (by rw [HE.out]; simpa using ho) (by simp)
      clear HL B1 B0 K1 K2 ho
      go_enter Try.func27, Try.ntmps27
      go_wp2_with (with_reducible refine wp_st_store rfl _ _ rfl ?_; refine ⟨w.heap.size + 1, rfl, _, _, _, _, _, _, rfl, _, _, K3, ?_⟩)
      exact bodyPost_ret (res_st Try.results27 _ _ _ _ _ rfl (K3.setRow _)) rfl ⟨_, rfl, HO⟩
  · obtain ⟨ga, o, rfl, hg, hj⟩ := hr (by omega)
    clear hr
    obtain ⟨K1, K2, B0⟩ := blk_2 35 35 w #[.slice (some ⟨ga, o, none⟩) t.totals.length cap, vc] #[.slice none 0 0, .slice none 0 0]
    go_enter Try.func27, Try.ntmps27
    have HN : Hid (∀ (j : Nat) (u : Value), (t.totals.map (Value.int .i64))[j]? = some u → (((w.alloc (.cells #[.slice (some ⟨ga, o, none⟩) t.totals.length cap, vc] 35)).alloc (.cells #[.slice none 0 0, .slice none 0 0] 35)).alloc (.cells #[] 3)).cell? ((⟨ga, o, none⟩ : Addr).add j) = some u) := by
      have := row_news (k := t.totals.length) (w := ((w.alloc (.cells #[.slice (some ⟨ga, o, none⟩) t.totals.length cap, vc] 35)).alloc (.cells #[.slice none 0 0, .slice none 0 0] 35)).alloc (.cells #[] 3)) (fun j hlt => (((B0.alloc (by simp; omega) _)).cell (p := ⟨ga, o + j, none⟩) hg).trans (hj j hlt))
      rw [List.take_length] at this
      exact this
    have ho : ((((w.alloc (.cells #[.slice (some ⟨ga, o, none⟩) t.totals.length cap, vc] 35)).alloc (.cells #[.slice none 0 0, .slice none 0 0] 35)).alloc (.cells #[] 3)).ownsRow (w.heap.size + 2) 3 1 (.slice (some ⟨w.heap.size + 1 + 1, 0, none⟩) 0 0) 0 []) := by
      have := ownI_lit0 ((w.alloc (.cells #[.slice (some ⟨ga, o, none⟩) t.totals.length cap, vc] 35)).alloc (.cells #[.slice none 0 0, .slice none 0 0] 35)) (w.heap.size + 2) (by simp)
      simpa using this
    have HO : Hid _ := ho
    clear ho
    go_wp2_with (at_builtin; refine wpList_append_own _ rfl _ _ 26 rfl (w.heap.size + 2) 3 i0 (.int .i64 0) 1 8 Try.underlying26 hi0 hz0 hz1 hz2 rfl (by decide) _ _ _ rfl HO.out ⟨ga, o, none⟩ t.totals.length cap (t.totals.map (Value.int .i64)) rfl (by simp) HN.out (ints_oneCell .i64 _) (by unfold maxLen; omega) (by omega) (by first | (simp; done) | (simp; omega)) ?_)
    intro v1 w1 ho1 hg1 hnil1
    have B1 := B0.alloc (by simp; omega) (.cells #[] 3)
    have B2 := B1.grown hg1 (by simp; omega) (fun k hk => by simp [Value.ownBlock] at hk; omega)
    have K3 := (K2.alloc (.cells #[] 3)).kept hg1 (by simp [Value.ownBlock])
    have hsz := hg1.size
    simp only [World.size_alloc] at hsz
    clear K1 K2 B0 B1 hg1 hnil1 HN HO hj
    obtain ⟨o1, k1, rfl⟩ := own_slice ho1
    have HF := HL.out w1 _ B2 ho1 (by omega)
    go_wp2_with (with_reducible refine wp_st_store rfl _ _ rfl ?_; refine ⟨w.heap.size + 1, rfl, _, _, _, _, _, _, rfl, _, _, K3, ?_⟩)
    exact bodyPost_ret (res_st Try.results27 _ _ _ _ _ rfl (K3.setRow _)) rfl ⟨_, rfl, HF⟩
end Go.Proofs.Ytobimpgapfecoab
/- In a region that draws its order: what may be taken first, what comes next. -/
namespace Go.Proofs.Ytobimpgapfecoab
open Go.RowKit
set_option maxRecDepth 100000

section
variable {Pr : Program} {ops : Array Oper} {Q : Exit → Act → World → Prop} {md : Region.Mode} {S : World → Prop}
/-- An operation that may come up now is taken first; it is read off the list, so that it stands written out. -/
theorem takeL (i : Nat) {oi : Oper} (v : Value) {fuel : Nat} {listed : Array Bool} {a : Act} {w : World} (hi : ops.toList[i]? = some oi)
    (hs : Region.noSelect ops = true) (hf : Region.free md ops listed i = true) (hr : (Region.ready md ops listed).contains i = true)
    (hQ : ∀ c a w, Q (.panic c) (a.put oi.dst v) w → Q (.panic c) a w) (hy : YieldsIf Pr ops S oi v a) (hS : S w)
    (h : wpAnyH Pr md ops Q S fuel (listed.setIfInBounds i true) (a.put oi.dst v) w) : wpAnyH Pr md ops Q S (fuel + 1) listed a w :=
  wpAnyH_take (by simpa using hi) hs hf hr hQ hy hS h
/-- The one operation that may come up now. -/
theorem nextL (i : Nat) {oi : Oper} {fuel : Nat} {listed : Array Bool} {a : Act} {w : World} (hi : ops.toList[i]? = some oi) (hr : Region.ready md ops listed = [i])
    (hw : Region.wanted oi (yielded ops a.tmps) = true)
    (h : ∀ K' : Act → World → Prop, (∀ a w, S w → (S w → wpAnyH Pr md ops Q S fuel (listed.setIfInBounds i true) a w) → K' a w) → Oper.wp Pr oi a w K' Q) : wpAnyH Pr md ops Q S (fuel + 1) listed a w := by
  refine wpAnyH_ready hr (by simp) (AllReadyH.cons (o := oi) (by simpa using hi) (fun K hK => ?_) AllReadyH.nil)
  rw [if_pos hw]
  exact h K hK.out
/-- Two may come up now, in either order. -/
theorem next2L (i j : Nat) {oi oj : Oper} {fuel : Nat} {listed : Array Bool} {a : Act} {w : World} (hi : ops.toList[i]? = some oi) (hj : ops.toList[j]? = some oj) (hr : Region.ready md ops listed = [i, j])
    (hw : Region.wanted oi (yielded ops a.tmps) = true) (hw2 : Region.wanted oj (yielded ops a.tmps) = true)
    (h : ∀ K' : Act → World → Prop, (∀ a w, S w → (S w → wpAnyH Pr md ops Q S fuel (listed.setIfInBounds i true) a w) → K' a w) → Oper.wp Pr oi a w K' Q)
    (h2 : ∀ K' : Act → World → Prop, (∀ a w, S w → (S w → wpAnyH Pr md ops Q S fuel (listed.setIfInBounds j true) a w) → K' a w) → Oper.wp Pr oj a w K' Q) : wpAnyH Pr md ops Q S (fuel + 1) listed a w := by
  refine wpAnyH_ready hr (by simp) (AllReadyH.cons (o := oi) (by simpa using hi) (fun K hK => ?_) (AllReadyH.cons (o := oj) (by simpa using hj) (fun K hK => ?_) AllReadyH.nil))
  · rw [if_pos hw]
    exact h K hK.out
  · rw [if_pos hw2]
    exact h2 K hK.out
end

section
variable {ops : Array Oper} {S : World → Prop} {op : Oper} {a : Act}
/-- The load of one integer. -/
theorem yields_int (hw : Region.wanted op (yielded ops a.tmps) = true) (x : Operand) (ho : op.op = .load 3 x) (p : Addr) (hx : a.eval x = .pointer (some p)) (n : Int)
    (hS : ∀ w, S w → w.cell? p = some (.int .i64 n)) : YieldsIf Try.prog ops S op (.int .i64 n) a :=
  .inl ⟨hw, fun w hw' => by
    have h := hS w hw'
    unfold execOp
    simp only [ho, hx]
    go_simp⟩
/-- A quotient. -/
theorem yields_quo (hw : Region.wanted op (yielded ops a.tmps) = true) (x y : Operand) (ho : op.op = .binOp .quo 3 x y 3) (m n : Int) (hx : a.eval x = .int .i64 m) (hy : a.eval y = .int .i64 n)
    (h0 : 0 ≤ m) (h1 : m ≤ 9223372036854775807) (h2 : 0 < n) : YieldsIf Try.prog ops S op (.int .i64 (m / n)) a :=
  .inl ⟨hw, fun w hw' => by
    have hle : m / n ≤ m := Int.ediv_le_self _ h0
    have hge : 0 ≤ m / n := Int.ediv_nonneg h0 (by omega)
    unfold execOp
    simp only [ho, hx, hy]
    go_simp
    have e : IntKind.i64.wrap (m.tdiv n) = m / n := by rw [IntKind.wrap_i64, Int.tdiv_eq_ediv_of_nonneg h0]; omega
    rw [if_neg (by omega), e]⟩
/-- Two texts, one behind the other. -/
theorem yields_cat (hw : Region.wanted op (yielded ops a.tmps) = true) (x y : Operand) (ho : op.op = .binOp .add 9 x y 9) (s t : ByteArray) (hx : a.eval x = .string s) (hy : a.eval y = .string t)
    (h : s.size + t.size ≤ 1000000) : YieldsIf Try.prog ops S op (.string (s ++ t)) a :=
  .inl ⟨hw, fun w hw' => by
    unfold execOp
    simp only [ho, hx, hy]
    go_simp
    omega⟩
end
end Go.Proofs.Ytobimpgapfecoab
