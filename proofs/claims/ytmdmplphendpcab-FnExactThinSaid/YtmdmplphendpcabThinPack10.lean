/- Texts of this claim, put together: part 10. -/
import Derived.Laws.AppendOwnNone
import Derived.Test.YtmdmplphendpcabThinPack5
import Derived.Test.YtmdmplphendpcabThinPack9
import Derived.Test.YtmdmplphendpcabThinPack7
import Derived.Test.YtmdmplphendpcabThinPack8
import Derived.Test.YtmdmplphendpcabThinPack6
/- Whether counts are thin; a list copied, by the program. -/
namespace Go.Proofs.Ytmdmplphendpcab
open Go.RowKit
set_option maxRecDepth 100000
set_option linter.unusedSimpArgs false
theorem thin_any (v : Value) (t : StatsD) (w : World) (h : StatsAt w v t) :
    Calls Try.prog 58 #[v] w fun e w' => e = .returned (.bool (decide (t.cells.length = 0))) ∧ Below w.heap.size w w' := by
  obtain ⟨vt, vc, rfl, -, hv⟩ := h
  obtain ⟨ov, cv, rfl, -, -⟩ := hv
  by_cases h0 : t.cells.length = 0
  · rw [decide_eq_true h0, h0]
    clear h0
    go_enter Try.func58, Try.ntmps58
    go_wp2
    go_ret
    exact ⟨rfl, (Below.refl _ _).alloc (Nat.le_refl _) _⟩
  · rw [decide_eq_false h0]
    have hq : ((t.cells.length : Int) == 0) = false := by simp; exact fun e => h0 (by simp [e])
    go_enter Try.func58, Try.ntmps58
    go_wp2
    go_ret
    exact ⟨rfl, (Below.refl _ _).alloc (Nat.le_refl _) _⟩
set_option maxHeartbeats 400000 in
theorem listCopy_any (v : Value) (zs : List Int) (w : World) (h : RowI w v zs) (hn : zs.length ≤ 1099511627776) :
    Calls Try.prog 44 #[v] w fun e w' => ∃ v', e = .returned v' ∧ OwnI w w' v' zs := by
  obtain ⟨i0, hi0, hz0, hz1, hz2⟩ := info_parts intInfo
  obtain ⟨oa, cap, rfl, hc, hr⟩ := h
  by_cases h0 : zs.length = 0
  · obtain rfl : zs = [] := List.length_eq_zero_iff.1 h0
    clear hr
    cases oa with
    | none =>
      go_enter Try.func44, Try.ntmps44
      go_wp2
      go_ret
      exact ⟨_, rfl, World.ownsRow_nil _ _ _ _, Below.refl _ _⟩
    | some ad =>
      go_enter Try.func44, Try.ntmps44
      go_wp2
      go_ret
      exact ⟨_, rfl, World.ownsRow_nil _ _ _ _, Below.refl _ _⟩
  · obtain ⟨ga, o, rfl, hg, hj⟩ := hr (by omega)
    clear hr
    have HN : Hid (∀ (j : Nat) (u : Value), (zs.map (Value.int .i64))[j]? = some u → w.cell? ((⟨ga, o, none⟩ : Addr).add j) = some u) := by
      have := row_news (k := zs.length) (w := w) (fun j hlt => hj j hlt)
      rw [List.take_length] at this
      exact this
    clear hj
    go_enter Try.func44, Try.ntmps44
    go_wp2_with (at_builtin; refine wpList_append_own _ rfl _ _ 26 rfl w.heap.size 3 i0 (.int .i64 0) 1 8 Try.underlying26 hi0 hz0 hz1 hz2 rfl (by decide) _ _ _ rfl (World.ownsRow_nil _ _ _ _) ⟨ga, o, none⟩ zs.length cap (zs.map (Value.int .i64)) rfl (by simp) HN.out (ints_oneCell .i64 _) (by unfold maxLen; omega) (by omega) (by omega) ?_)
    intro v1 w1 ho1 hg1 hnil1
    have hb1 : Below w.heap.size w w1 := (Below.refl _ _).grown hg1 (by omega) (fun k hk => by cases hk)
    clear hg1 hnil1 HN
    go_wp2
    go_ret
    exact ⟨_, rfl, ho1, hb1⟩
end Go.Proofs.Ytmdmplphendpcab
/- Counts without their cells, in plain words. -/
namespace Go.Proofs.Ytmdmplphendpcab
open Go.RowKit
set_option maxRecDepth 100000
def thinS (t : StatsD) : StatsD := ⟨t.totals, []⟩
theorem sep_none (base : Nat) (w : World) : SepII base w (.slice none 0 0) (fun _ => .slice none 0 0) [] [] 0 :=
  ⟨World.ownsRow_nil _ _ _ _, fun j hj => by omega, fun j hj => by omega, fun i j a b _ hj => by omega⟩
theorem ownSt_thin {base : Nat} {w : World} {v : Value} {t : StatsD} (h : w.ownsRow base 3 1 v t.totals.length (t.totals.map (Value.int .i64))) : OwnSt base w (.agg #[v, .slice none 0 0]) (thinS t) :=
  ⟨v, .slice none 0 0, fun _ => .slice none 0 0, [], rfl, h, sep_none base w, fun j a b hj => by simp [thinS] at hj⟩
end Go.Proofs.Ytmdmplphendpcab
/- Counts without their cells, by the program. -/
namespace Go.Proofs.Ytmdmplphendpcab
open Go.RowKit
set_option maxRecDepth 100000
set_option linter.unusedSimpArgs false
set_option maxHeartbeats 400000 in
theorem implThin_at (v : Value) (t : StatsD) (w : World) (h : StatsAt w v t) (hn : okSt t) :
    Calls Try.prog 26 #[v] w fun e w' => ∃ v1, e = .returned (.agg #[v1, .slice none 0 0]) ∧ w'.ownsRow (w.heap.size + 2) 3 1 v1 t.totals.length (t.totals.map (Value.int .i64)) ∧ Below w.heap.size w w' := by
  obtain ⟨vt, vc, rfl, ht, -⟩ := h
  have HT : Hid (RowI w vt t.totals) := ht
  have hl := hn.totals
  clear ht hn
  go_enter Try.func26, Try.ntmps26
  go_wp2_with fail
  obtain ⟨K1, K2, B0⟩ := blk_2 37 37 w #[vt, vc] #[.slice none 0 0, .slice none 0 0]
  refine (listCopy_any vt t.totals _ (HT.out.later B0) hl).mono ?_
  rintro e w1 ⟨v1, rfl, ho1, hb1⟩
  replace K2 := K2.below hb1
  have B1 := B0.trans (hb1.mono (by simp; omega))
  have ho1 := own_base ho1 (b' := w.heap.size + 2) (by simp)
  clear K1 hb1 B0 HT
  obtain ⟨o1, k1, rfl⟩ := own_slice ho1
  have HO : Hid (w1.ownsRow (w.heap.size + 2) 3 1 (.slice o1 t.totals.length k1) t.totals.length (t.totals.map (Value.int .i64))) := ho1
  clear ho1
  go_wp2_with (with_reducible refine wp_st_store rfl _ _ rfl ?_; refine ⟨w.heap.size + 1, rfl, _, _, _, _, _, _, rfl, _, _, K2, ?_⟩)
  refine bodyPost_ret (res_st Try.results26 _ _ _ _ _ rfl (K2.setRow _)) rfl ⟨_, rfl, own_setRow HO.out _ _ (by omega), below_row B1 (by omega) _⟩
theorem implThin_any (v : Value) (t : StatsD) (w : World) (h : StatsAt w v t) (hn : okSt t) :
    Calls Try.prog 26 #[v] w fun e w' => ∃ v', e = .returned v' ∧ OwnSt w.heap.size w' v' (thinS t) ∧ Below w.heap.size w w' := by
  refine (implThin_at v t w h hn).mono ?_
  rintro e w' ⟨v1, rfl, ho, hb⟩
  exact ⟨_, rfl, ownSt_thin (own_base ho (by omega)), hb⟩
end Go.Proofs.Ytmdmplphendpcab
/- Counts without their cells, by the specification. -/
namespace Go.Proofs.Ytmdmplphendpcab
open Go.RowKit
set_option maxRecDepth 100000
set_option linter.unusedSimpArgs false
set_option maxHeartbeats 400000 in
theorem specThin_any (v : Value) (t : StatsD) (w : World) (h : StatsAt w v t) (hn : okSt t) :
    Calls Try.prog 25 #[v] w fun e w' => ∃ v', e = .returned v' ∧ OwnSt w.heap.size w' v' (thinS t) ∧ Below w.heap.size w w' := by
  obtain ⟨i0, hi0, hz0, hz1, hz2⟩ := info_parts intInfo
  obtain ⟨vt, vc, rfl, ht, -⟩ := h
  obtain ⟨oa, cap, rfl, hc, hr⟩ := ht
  have hl := hn.totals
  have HL : Hid (∀ W v (_ : Below w.heap.size w W) (_ : W.ownsRow (w.heap.size + 2) 3 1 v t.totals.length (t.totals.map (Value.int .i64))) (_ : w.heap.size + 2 ≤ W.heap.size) , OwnSt w.heap.size (W.setRow (w.heap.size + 1) #[v, .slice none 0 0]) (.agg #[v, .slice none 0 0]) (thinS t) ∧ Below w.heap.size w (W.setRow (w.heap.size + 1) #[v, .slice none 0 0])) :=
    fun W v hW ho hsz => ⟨ownSt_thin (own_base (own_setRow ho _ _ (by omega)) (by omega)), below_row hW (by omega) _⟩
  clear hn
  by_cases h0 : t.totals.length = 0
  · have e0 : t.totals = [] := List.length_eq_zero_iff.1 h0
    have HE : Hid (t.totals = []) := e0
    rw [h0] at hl hc ⊢
    clear hr e0 h0
    cases oa with
    | none =>
      obtain ⟨K1, K2, B0⟩ := blk_2 37 37 w #[.slice none 0 cap, vc] #[.slice none 0 0, .slice none 0 0]
      have B1 := B0.alloc (by simp; omega) (.cells #[] 3)
      have K3 := K2.alloc (.cells #[] 3)
      have ho := ownI_lit0 ((w.alloc (.cells #[.slice none 0 cap, vc] 37)).alloc (.cells #[.slice none 0 0, .slice none 0 0] 37)) (w.heap.size + 2) (by simp)
      have HO := HL.out _ (.slice (some ⟨w.heap.size + 1 + 1, 0, none⟩) 0 0) B1 (by rw [HE.out]; simpa using ho) (by simp)
      clear HL B1 B0 K1 K2 ho
      go_enter Try.func25, Try.ntmps25
      go_wp2_with (with_reducible refine wp_st_store rfl _ _ rfl ?_; refine ⟨w.heap.size + 1, rfl, _, _, _, _, _, _, rfl, _, _, K3, ?_⟩)
      exact bodyPost_ret (res_st Try.results25 _ _ _ _ _ rfl (K3.setRow _)) rfl ⟨_, rfl, HO⟩
    | some ad =>
      obtain ⟨K1, K2, B0⟩ := blk_2 37 37 w #[.slice (some ad) 0 cap, vc] #[.slice none 0 0, .slice none 0 0]
      have B1 := B0.alloc (by simp; omega) (.cells #[] 3)
      have K3 := K2.alloc (.cells #[] 3)
      have ho := ownI_lit0 ((w.alloc (.cells #[.slice (some ad) 0 cap, vc] 37)).alloc (.cells #[.slice none 0 0, .slice none 0 0] 37)) (w.heap.size + 2) (by simp)
      have HO := HL.out _ (.slice (some ⟨w.heap.size + 1 + 1, 0, none⟩) 0 0) B1 (by rw [HE.out]; simpa using ho) (by simp)
      clear HL B1 B0 K1 K2 ho
      go_enter Try.func25, Try.ntmps25
      go_wp2_with (with_reducible refine wp_st_store rfl _ _ rfl ?_; refine ⟨w.heap.size + 1, rfl, _, _, _, _, _, _, rfl, _, _, K3, ?_⟩)
      exact bodyPost_ret (res_st Try.results25 _ _ _ _ _ rfl (K3.setRow _)) rfl ⟨_, rfl, HO⟩
  · obtain ⟨ga, o, rfl, hg, hj⟩ := hr (by omega)
    clear hr
    obtain ⟨K1, K2, B0⟩ := blk_2 37 37 w #[.slice (some ⟨ga, o, none⟩) t.totals.length cap, vc] #[.slice none 0 0, .slice none 0 0]
    go_enter Try.func25, Try.ntmps25
    have HN : Hid (∀ (j : Nat) (u : Value), (t.totals.map (Value.int .i64))[j]? = some u → (((w.alloc (.cells #[.slice (some ⟨ga, o, none⟩) t.totals.length cap, vc] 37)).alloc (.cells #[.slice none 0 0, .slice none 0 0] 37)).alloc (.cells #[] 3)).cell? ((⟨ga, o, none⟩ : Addr).add j) = some u) := by
      have := row_news (k := t.totals.length) (w := ((w.alloc (.cells #[.slice (some ⟨ga, o, none⟩) t.totals.length cap, vc] 37)).alloc (.cells #[.slice none 0 0, .slice none 0 0] 37)).alloc (.cells #[] 3)) (fun j hlt => (((B0.alloc (by simp; omega) _)).cell (p := ⟨ga, o + j, none⟩) hg).trans (hj j hlt))
      rw [List.take_length] at this
      exact this
    have ho : ((((w.alloc (.cells #[.slice (some ⟨ga, o, none⟩) t.totals.length cap, vc] 37)).alloc (.cells #[.slice none 0 0, .slice none 0 0] 37)).alloc (.cells #[] 3)).ownsRow (w.heap.size + 2) 3 1 (.slice (some ⟨w.heap.size + 1 + 1, 0, none⟩) 0 0) 0 []) := by
      have := ownI_lit0 ((w.alloc (.cells #[.slice (some ⟨ga, o, none⟩) t.totals.length cap, vc] 37)).alloc (.cells #[.slice none 0 0, .slice none 0 0] 37)) (w.heap.size + 2) (by simp)
      simpa using this
    have HO : Hid _ := ho
    clear ho
    go_wp2_with (at_builtin; refine wpList_append_own _ rfl _ _ 26 rfl (w.heap.size + 2) 3 i0 (.int .i64 0) 1 8 Try.underlying26 hi0 hz0 hz1 hz2 rfl (by decide) _ _ _ rfl HO.out ⟨ga, o, none⟩ t.totals.length cap (t.totals.map (Value.int .i64)) rfl (by simp) HN.out (ints_oneCell .i64 _) (by unfold maxLen; omega) (by omega) (by first | (simp; done) | (simp; omega)) ?_)
    intro v1 w1 ho1 hg1 hnil1
    have B1 := B0.alloc (by simp; omega) (.cells #[] 3)
    have B2 := B1.grown hg1 (by simp; omega) (fun k hk => by simp [Value.ownBlock] at hk; omega)
    have K3 := (K2.alloc (.cells #[] 3)).kept hg1 (by simp [Value.ownBlock])
    have hsz := hg1.size
    simp only [World.size_alloc] at hsz
    clear K1 K2 B0 B1 hg1 hnil1 HN HO hj
    obtain ⟨o1, k1, rfl⟩ := own_slice ho1
    have HF := HL.out w1 _ B2 ho1 (by omega)
    go_wp2_with (with_reducible refine wp_st_store rfl _ _ rfl ?_; refine ⟨w.heap.size + 1, rfl, _, _, _, _, _, _, rfl, _, _, K3, ?_⟩)
    exact bodyPost_ret (res_st Try.results25 _ _ _ _ _ rfl (K3.setRow _)) rfl ⟨_, rfl, HF⟩
end Go.Proofs.Ytmdmplphendpcab
