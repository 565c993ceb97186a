/- Fractions that are drawn: whatever is drawn is two integers. -/
import Derived.Test.YtonimdaimldbgaaFx
import Derived.Test.YtonimdaimldbgaaDk
import Derived.Test.YtonimdaimldbgaaTk
namespace Go.Proofs.Ytonimdaimldbgaa
open Go.RowKit
set_option maxRecDepth 100000

theorem IsCur.row {w : World} {g p : Nat} {a : Option Addr} {len cap : Nat} (h : IsCur w g a len cap) (cs : Array Value) (hp : g ≠ p) : IsCur (w.setRow p cs) g a len cap := by
  obtain ⟨i, y, hi, hb⟩ := h
  exact ⟨i, y, hi, (Go.setRow_other _ _ _ _ hp).trans hb⟩

set_option maxHeartbeats 1600000 in
theorem fright_any (g : Nat) (a : Option Addr) (len cap : Nat) (zs : List Int) (w : World) (hc : IsCur w g a len cap) (hr : IsRow .u8 w a len cap zs) :
    Calls Try.prog 42 #[.pointer (some ⟨g, 0, none⟩)] w fun e w' => ∃ m n : Int, e = .returned (frV m n) ∧ IsCur w' g a len cap ∧ w.grownBy w' (some g) := by
  have hgw := hc.lt
  have F0 := Blk.new 25 w #[.int .i64 0, .int .i64 0]
  have G0 := grown_alloc w (.cells #[.int .i64 0, .int .i64 0] 25) (some g)
  have hc0 := hc.alloc (.cells #[.int .i64 0, .int .i64 0] 25)
  have hr0 := hr.later (below_1 w (.cells #[.int .i64 0, .int .i64 0] 25))
  clear hc hr
  go_enter Try.func42, Try.ntmps42
  go_wp2_with fail
  generalize w.alloc (.cells #[.int .i64 0, .int .i64 0] 25) = W0 at F0 G0 hc0 hr0 ⊢
  refine (l1BelowBig_any g a len cap zs 100000 _ hc0 hr0 (by decide) (by decide)).mono ?_
  rintro e w1 ⟨x, rfl, hx, hc1, hg1⟩
  have hr1 := hr0.aside hc0 hg1
  have F1 := F0.kept hg1 (by simp; omega)
  have G1 := grown_trans G0 hg1
  clear hr0 hc0 hg1 F0 G0
  have e1 := pickN [1, 2, 3, 12, 1000, 4000000000000000, 3999999999999999, 1 + (x : Int)] g a len cap zs w1 hc1 hr1 (by simp) (by simp)
  simp only [List.map_cons, List.map_nil, List.length_cons, List.length_nil, Nat.zero_add, Nat.reduceAdd] at e1
  go_wp2_with fail
  refine e1.mono ?_
  clear e1
  rintro e w2 ⟨d, rfl, hd, hc2, hg2⟩
  have hr2 := hr1.aside hc1 hg2
  have F2 := F1.kept hg2 (by simp; omega)
  have G2 := grown_trans G1 hg2
  have hd0 : 1 ≤ d ∧ d ≤ 4000000000000000 := by
    simp only [List.mem_cons, List.not_mem_nil, or_false] at hd
    omega
  obtain ⟨D, rfl⟩ := Int.eq_ofNat_of_zero_le (show 0 ≤ d by omega)
  obtain ⟨hd1, hd2⟩ : 1 ≤ D ∧ D ≤ 4000000000000000 := by omega
  clear hr1 hc1 hg2 F1 G1 hd hd0
  have e2 := l1BelowBig_any g a len cap zs 1000 _ hc2 hr2 (by decide) (by decide)
  go_wp2_with fail
  refine e2.mono ?_
  clear e2
  rintro e w3 ⟨y, rfl, hy, hc3, hg3⟩
  have hr3 := hr2.aside hc2 hg3
  have F3 := F2.kept hg3 (by simp; omega)
  have G3 := grown_trans G2 hg3
  clear hr2 hc2 hg3 F2 G2
  have e3 := pickN [0, 1, (D : Int), (D : Int) / 2, (D : Int) / 3, (y : Int), 4000000000000000] g a len cap zs w3 hc3 hr3 (by simp) (by simp)
  simp only [List.map_cons, List.map_nil, List.length_cons, List.length_nil, Nat.zero_add, Nat.reduceAdd] at e3
  go_wp2_with fail
  refine e3.mono ?_
  clear e3
  rintro e w4 ⟨z, rfl, hz, hc4, hg4⟩
  have F4 := F3.kept hg4 (by simp; omega)
  have G4 := grown_trans G3 hg4
  clear hr3 hc3 hg4 F3 G3 hz
  go_wp2_with (with_reducible refine wp_fr_store rfl _ _ rfl ?_; refine ⟨w.heap.size, rfl, z, D, rfl, 0, 0, F4, ?_⟩)
  refine bodyPost_ret (res_fr rfl _ _ w.heap.size z D rfl (F4.setRow _)) rfl ⟨z, D, rfl, ?_, grown_row G4 (Nat.le_refl _) _⟩
  exact hc4.row _ (by omega)

theorem IsCur.cell {w : World} {g p : Nat} {a : Option Addr} {len cap : Nat} (h : IsCur w g a len cap) (k : Nat) (v : Value) (hp : g ≠ p) : IsCur (w.setCell ⟨p, k, none⟩ v) g a len cap := by
  obtain ⟨i, y, hi, hb⟩ := h
  exact ⟨i, y, hi, (heap_setCell_other w ⟨p, k, none⟩ g v hp).trans hb⟩

set_option maxHeartbeats 1600000 in
theorem fdraw_any (g : Nat) (a : Option Addr) (len cap : Nat) (zs : List Int) (w : World) (hc : IsCur w g a len cap) (hr : IsRow .u8 w a len cap zs) :
    Calls Try.prog 34 #[.pointer (some ⟨g, 0, none⟩)] w fun e w' => ∃ m n : Int, e = .returned (frV m n) ∧ IsCur w' g a len cap ∧ w.grownBy w' (some g) := by
  have hgw := hc.lt
  have F0 := Blk.new 25 w #[.int .i64 0, .int .i64 0]
  have G0 := grown_alloc w (.cells #[.int .i64 0, .int .i64 0] 25) (some g)
  have hc0 := hc.alloc (.cells #[.int .i64 0, .int .i64 0] 25)
  have HR : Hid (IsRow .u8 w a len cap zs) := hr
  have HC : Hid (IsCur w g a len cap) := hc
  have hr0 := hr.later (below_1 w (.cells #[.int .i64 0, .int .i64 0] 25))
  clear hc hr
  go_enter Try.func34, Try.ntmps34
  go_wp2_with fail
  generalize w.alloc (.cells #[.int .i64 0, .int .i64 0] 25) = W0 at F0 G0 hc0 hr0 ⊢
  refine (fright_any g a len cap zs _ hc0 hr0).mono ?_
  rintro e w1 ⟨m, n, rfl, hc1, hg1⟩
  have F2 := (F0.kept hg1 (by simp; omega)).alloc (.cells #[.int .i64 m, .int .i64 n] 25)
  have G2 := grown_trans (grown_trans G0 hg1) (grown_alloc w1 (.cells #[.int .i64 m, .int .i64 n] 25) (some g))
  have A2 := Blk.new 25 w1 #[.int .i64 m, .int .i64 n]
  have hc2 := hc1.alloc (.cells #[.int .i64 m, .int .i64 n] 25)
  have hs1 := hg1.size
  have hs0 := F0.lt
  have hr2 := HR.out.aside HC.out G2
  clear hr0 hc0 F0 G0 hg1 hc1
  go_wp2_with fail
  generalize w1.alloc (.cells #[.int .i64 m, .int .i64 n] 25) = w2 at F2 A2 G2 hc2 hr2 ⊢
  have e2 := l1Below_any g a len cap zs 10 _ hc2 hr2 (by decide) (by decide)
  refine e2.mono ?_
  clear e2
  rintro e w3 ⟨x, rfl, hx, hc3, hg3⟩
  have hr3 := hr2.aside hc2 hg3
  have F3 := F2.kept hg3 (by simp; omega)
  have A3 := A2.kept hg3 (by simp; omega)
  have G3 := grown_trans G2 hg3
  clear hr2 hc2 hg3 F2 G2 A2
  by_cases h0 : x = 0
  · subst h0
    have e3 := pickN [-1, 4000000000000001, 9223372036854775807] g a len cap zs w3 hc3 hr3 (by decide) (by decide)
    simp only [List.map_cons, List.map_nil, List.length_cons, List.length_nil, Nat.zero_add, Nat.reduceAdd] at e3
    go_wp2_with fail
    refine e3.mono ?_
    clear e3
    rintro e w4 ⟨z, rfl, -, hc4, hg4⟩
    have F4 := F3.kept hg4 (by simp; omega)
    have A4 := A3.kept hg4 (by simp; omega)
    have G4 := grown_trans G3 hg4
    have hz4 := A4.frozen 0
    have F5 := F4.setCell_other ⟨w1.heap.size, 0, none⟩ (.int .i64 z) (by show w1.heap.size ≠ w.heap.size; omega)
    have A5 : FrT 25 (w4.setCell ⟨w1.heap.size, 0, none⟩ (.int .i64 z)) w1.heap.size (z) (n) := A4.setCell 0 (.int .i64 z)
    have G5 := grown_cell (k := 0) G4 (show w.heap.size ≤ w1.heap.size by omega) (.int .i64 z)
    have hc5 := hc4.cell 0 (.int .i64 z) (show g ≠ w1.heap.size by omega)
    have q0 := FrT.c0 A4
    have q1 := FrT.c1 A4
    clear hc3 hr3 F3 A3 G3 hg4 
    go_wp2_with (with_reducible refine wp_fr_store rfl _ _ rfl ?_; refine ⟨w.heap.size, rfl, z, n, rfl, 0, 0, F5, ?_⟩)
    refine bodyPost_ret (res_fr rfl _ _ w.heap.size (z) (n) rfl (F5.setRow _)) rfl ⟨z, n, rfl, ?_, grown_row G5 (Nat.le_refl _) _⟩
    exact hc5.row _ (by omega)
  by_cases h1 : x = 1
  · subst h1
    have e3 := pickN [0, -1, 4000000000000001] g a len cap zs w3 hc3 hr3 (by decide) (by decide)
    simp only [List.map_cons, List.map_nil, List.length_cons, List.length_nil, Nat.zero_add, Nat.reduceAdd] at e3
    go_wp2_with fail
    refine e3.mono ?_
    clear e3
    rintro e w4 ⟨z, rfl, -, hc4, hg4⟩
    have F4 := F3.kept hg4 (by simp; omega)
    have A4 := A3.kept hg4 (by simp; omega)
    have G4 := grown_trans G3 hg4
    have hz4 := A4.frozen 1
    have F5 := F4.setCell_other ⟨w1.heap.size, 1, none⟩ (.int .i64 z) (by show w1.heap.size ≠ w.heap.size; omega)
    have A5 : FrT 25 (w4.setCell ⟨w1.heap.size, 1, none⟩ (.int .i64 z)) w1.heap.size (m) (z) := A4.setCell 1 (.int .i64 z)
    have G5 := grown_cell (k := 1) G4 (show w.heap.size ≤ w1.heap.size by omega) (.int .i64 z)
    have hc5 := hc4.cell 1 (.int .i64 z) (show g ≠ w1.heap.size by omega)
    have q0 := FrT.c0 A4
    have q1 := FrT.c1 A4
    clear hc3 hr3 F3 A3 G3 hg4 
    go_wp2_with (with_reducible refine wp_fr_store rfl _ _ rfl ?_; refine ⟨w.heap.size, rfl, m, z, rfl, 0, 0, F5, ?_⟩)
    refine bodyPost_ret (res_fr rfl _ _ w.heap.size (m) (z) rfl (F5.setRow _)) rfl ⟨m, z, rfl, ?_, grown_row G5 (Nat.le_refl _) _⟩
    exact hc5.row _ (by omega)
  · have b0 : ((x : Int) == 0) = false := by simp; omega
    have b1 : ((x : Int) == 1) = false := by simp; omega
    have f0 := FrT.c0 A3
    have f1 := FrT.c1 A3
    go_wp2_with (with_reducible refine wp_fr_store rfl _ _ rfl ?_; refine ⟨w.heap.size, rfl, m, n, rfl, 0, 0, F3, ?_⟩)
    refine bodyPost_ret (res_fr rfl _ _ w.heap.size (m) (n) rfl (F3.setRow _)) rfl ⟨m, n, rfl, ?_, grown_row G3 (Nat.le_refl _) _⟩
    exact hc3.row _ (by omega)

theorem ifrac_size : (Try.prog.info? 25).map (·.size) = some 2 := by kernel_rfl
theorem yields_ifr {ops : Array Oper} {S : World → Prop} {op : Oper} {a : Act} (hw : Region.wanted op (yielded ops a.tmps) = true) (x : Operand) (ho : op.op = .load 25 x)
    (g : Nat) (hx : a.eval x = .pointer (some ⟨g, 0, none⟩)) (m n : Int) (hS : ∀ w, S w → FrT 25 w g m n) : YieldsIf Try.prog ops S op (frV m n) a :=
  .inl ⟨hw, fun w hw' => by
    unfold execOp
    simp only [ho, hx, Instr.loadAt, Instr.sureAddr, Sem.run_bind, Sem.run_pure, Result.andThen_ok, run_loadVar_row w g _ 25 _ _ _ (hS w hw') Try.underlying25 rfl ifrac_size]⟩
theorem res_fr2 {fn : Func} {p q : Tmp} (h : fn.results = #[.cell p 25, .cell q 25]) (tmps : Array Value) (w : World) (g : Nat) (m n : Int) (g' : Nat) (k l : Int)
    (hp : tmps.getD p undef = .pointer (some ⟨g, 0, none⟩)) (hq : tmps.getD q undef = .pointer (some ⟨g', 0, none⟩)) (hg : Fr w g m n) (hg' : Fr w g' k l) : (results fn tmps).run Try.prog w = .ok (.tuple #[frV m n, frV k l]) w := by
  have hp' : tmps[p]?.getD undef = .pointer (some ⟨g, 0, none⟩) := by simpa using hp
  have hq' : tmps[q]?.getD undef = .pointer (some ⟨g', 0, none⟩) := by simpa using hq
  simp [results, h, hp', hq', asAddr, run_loadVar_row w g _ 25 _ _ _ hg Try.underlying25 rfl ifrac_size, run_loadVar_row w g' _ 25 _ _ _ hg' Try.underlying25 rfl ifrac_size]

set_option maxHeartbeats 3200000 in
theorem ftwo_any (a : Option Addr) (len cap : Nat) (zs : List Int) (w : World) (hr : IsRow .u8 w a len cap zs) (hn : len ≤ 1048576) :
    Calls Try.prog 23 #[.slice a len cap] w fun e w' => ∃ m n k l : Int, e = .returned (.tuple #[frV m n, frV k l]) ∧ Below w.heap.size w w' := by
  obtain ⟨R0, R1, B⟩ := blk_2 25 25 w #[.int .i64 0, .int .i64 0] #[.int .i64 0, .int .i64 0]
  have hr0 := hr.later B
  have hs0 := R1.lt
  clear hr
  go_enter Try.func23, Try.ntmps23
  go_wp2_with fail
  generalize (w.alloc (.cells #[.int .i64 0, .int .i64 0] 25)).alloc (.cells #[.int .i64 0, .int .i64 0] 25) = W0 at R0 R1 B hr0 hs0 ⊢
  refine (l1New_any a len cap zs W0 hr0 hn).mono ?_
  rintro e w1 ⟨rfl, hc1, hb1, hz1⟩
  have hr1 := hr0.later hb1
  have R0 := R0.below hb1
  have R1 := R1.below hb1
  have B := B.trans (hb1.mono B.size)
  clear hr0 hb1
  go_wp2_with fail
  refine (fdraw_any W0.heap.size a len cap zs w1 hc1 hr1).mono ?_
  rintro e w2 ⟨m, n, rfl, hc2, hg2⟩
  have hs2 := hg2.size
  have hr2 := (hr1.aside hc1 hg2).later (below_1 w2 (.cells #[.int .i64 (m), .int .i64 (n)] 25))
  have R0 := (R0.kept hg2 (by simp; omega)).alloc (.cells #[.int .i64 (m), .int .i64 (n)] 25)
  have R1 := (R1.kept hg2 (by simp; omega)).alloc (.cells #[.int .i64 (m), .int .i64 (n)] 25)
  have B := (B.grown hg2 (by omega) (fun k hk => by cases hk; omega)).alloc (by omega) (.cells #[.int .i64 (m), .int .i64 (n)] 25)
  have hc2 := hc2.alloc (.cells #[.int .i64 (m), .int .i64 (n)] 25)
  have A := Blk.new 25 w2 #[.int .i64 (m), .int .i64 (n)]
  clear hr1 hc1 hg2
  go_wp2_with fail
  generalize w2.alloc (.cells #[.int .i64 (m), .int .i64 (n)] 25) = V2 at R0 R1 B hr2 hc2 A ⊢
  refine (fdraw_any W0.heap.size a len cap zs V2 hc2 hr2).mono ?_
  rintro e w3 ⟨k, l, rfl, hc3, hg3⟩
  have hs3 := hg3.size
  have hs2' := A.lt
  have hr3 := (hr2.aside hc2 hg3).later (below_1 w3 (.cells #[.int .i64 (k), .int .i64 (l)] 25))
  have R0 := (R0.kept hg3 (by simp; omega)).alloc (.cells #[.int .i64 (k), .int .i64 (l)] 25)
  have R1 := (R1.kept hg3 (by simp; omega)).alloc (.cells #[.int .i64 (k), .int .i64 (l)] 25)
  have A := (A.kept hg3 (by simp; omega)).alloc (.cells #[.int .i64 (k), .int .i64 (l)] 25)
  have B := (B.grown hg3 (by omega) (fun k hk => by cases hk; omega)).alloc (by omega) (.cells #[.int .i64 (k), .int .i64 (l)] 25)
  have hc3 := hc3.alloc (.cells #[.int .i64 (k), .int .i64 (l)] 25)
  have C := Blk.new 25 w3 #[.int .i64 (k), .int .i64 (l)]
  clear hr2 hc2 hg3
  go_wp2_with fail
  generalize w3.alloc (.cells #[.int .i64 (k), .int .i64 (l)] 25) = V3 at R0 R1 B hr3 hc3 A C ⊢
  refine (once_any W0.heap.size a len cap zs 5 V3 hc3 hr3 (by decide) (by decide)).mono ?_
  rintro e w4 ⟨b, rfl, hc4, hg4⟩
  have hs4 := hg4.size
  have R0 := R0.kept hg4 (by simp; omega)
  have R1 := R1.kept hg4 (by simp; omega)
  have A := A.kept hg4 (by simp; omega)
  have C := C.kept hg4 (by simp; omega)
  have hs5 := C.lt
  have B := B.grown hg4 B.size (fun k hk => by cases hk; omega)
  clear hr3 hc3 hg4 hc4
  cases b
  · go_wp2_with fail
    refine wp_region_held_drew (S := fun w' => Fr w' w2.heap.size (m) (n) ∧ Fr w' w3.heap.size (k) (l)) (by kernel_rfl) ⟨A, C⟩ ?_
    intro hS
    have B := (B).drew
    have R0 : Fr _ w.heap.size 0 0 := R0
    have R1 : Fr _ (w.heap.size + 1) 0 0 := R1
    refine takeL 0 (frV (m) (n)) rfl (by kernel_rfl) (by kernel_rfl) (by kernel_rfl) (fun _ _ _ h => h) (yields_ifr (by rfl) _ rfl _ rfl (m) (n) (fun _ h => h.1)) hS ?_
    simp only [Act.put, List.setIfInBounds_toArray, List.set_cons_zero, List.set_cons_succ]
    refine takeL 1 (frV (k) (l)) rfl (by kernel_rfl) (by kernel_rfl) (by kernel_rfl) (fun _ _ _ h => h) (yields_ifr (by rfl) _ rfl _ rfl (k) (l) (fun _ h => h.2)) hS ?_
    simp only [Act.put, List.setIfInBounds_toArray, List.set_cons_zero, List.set_cons_succ]
    refine nextL 2 rfl (by kernel_rfl) (by rfl) fun K hK => ?_
    refine wp_store_row 25 _ _ rfl w.heap.size #[.int .i64 (m), .int .i64 (n)] rfl rfl _ _ R0 frac_size rfl (by simp [Value.oneCell']) ?_
    simp only [Act.put]
    have R0 := R0.setRow #[.int .i64 (m), .int .i64 (n)]
    have R1 := R1.setRow_other #[.int .i64 (m), .int .i64 (n)] (show w.heap.size + 1 ≠ w.heap.size by omega)
    have B := below_row B (Nat.le_refl _) #[.int .i64 (m), .int .i64 (n)]
    refine hK _ _ ⟨Blk.setRow_other hS.1 _ (by omega), Blk.setRow_other hS.2 _ (by omega)⟩ ?_
    clear hK K
    intro hS
    refine nextL 3 rfl (by kernel_rfl) (by rfl) fun K hK => ?_
    refine wp_store_row 25 _ _ rfl (w.heap.size + 1) #[.int .i64 (k), .int .i64 (l)] rfl rfl _ _ R1 frac_size rfl (by simp [Value.oneCell']) ?_
    simp only [Act.put]
    have R0 := R0.setRow_other #[.int .i64 (k), .int .i64 (l)] (show w.heap.size ≠ w.heap.size + 1 by omega)
    have R1 := R1.setRow #[.int .i64 (k), .int .i64 (l)]
    have B := below_row B (Nat.le_succ _) #[.int .i64 (k), .int .i64 (l)]
    refine hK _ _ ⟨Blk.setRow_other hS.1 _ (by omega), Blk.setRow_other hS.2 _ (by omega)⟩ ?_
    clear hK K
    intro hS
    refine wpAnyH_done (by kernel_rfl) ?_ _
    go_wp2
    exact bodyPost_ret (res_fr2 rfl _ _ w.heap.size (m) (n) (w.heap.size + 1) (k) (l) rfl rfl R0 R1) rfl ⟨_, _, _, _, rfl, B⟩
  · have f0 := FrT.c0 A
    have f1 := FrT.c1 A
    have c1 := fun W => fracOkS m n W
    cases hB : frB m n
    · rw [hB] at c1
      go_wp2_with (go_at_call 12; refine (c1 _).mono ?_; clear c1; rintro e w5 ⟨rfl, hb5⟩)
      have R0 := R0.below hb5
      have R1 := R1.below hb5
      have A := A.below hb5
      have C := C.below hb5
      have B := B.trans (hb5.mono B.size)
      refine wp_region_held_drew (S := fun w' => Fr w' w2.heap.size (m) (n) ∧ Fr w' w3.heap.size (k) (l)) (by kernel_rfl) ⟨A, C⟩ ?_
      intro hS
      have B := (B).drew
      have R0 : Fr _ w.heap.size 0 0 := R0
      have R1 : Fr _ (w.heap.size + 1) 0 0 := R1
      refine takeL 0 (frV (m) (n)) rfl (by kernel_rfl) (by kernel_rfl) (by kernel_rfl) (fun _ _ _ h => h) (yields_ifr (by rfl) _ rfl _ rfl (m) (n) (fun _ h => h.1)) hS ?_
      simp only [Act.put, List.setIfInBounds_toArray, List.set_cons_zero, List.set_cons_succ]
      refine takeL 1 (frV (k) (l)) rfl (by kernel_rfl) (by kernel_rfl) (by kernel_rfl) (fun _ _ _ h => h) (yields_ifr (by rfl) _ rfl _ rfl (k) (l) (fun _ h => h.2)) hS ?_
      simp only [Act.put, List.setIfInBounds_toArray, List.set_cons_zero, List.set_cons_succ]
      refine nextL 2 rfl (by kernel_rfl) (by rfl) fun K hK => ?_
      refine wp_store_row 25 _ _ rfl w.heap.size #[.int .i64 (m), .int .i64 (n)] rfl rfl _ _ R0 frac_size rfl (by simp [Value.oneCell']) ?_
      simp only [Act.put]
      have R0 := R0.setRow #[.int .i64 (m), .int .i64 (n)]
      have R1 := R1.setRow_other #[.int .i64 (m), .int .i64 (n)] (show w.heap.size + 1 ≠ w.heap.size by omega)
      have B := below_row B (Nat.le_refl _) #[.int .i64 (m), .int .i64 (n)]
      refine hK _ _ ⟨Blk.setRow_other hS.1 _ (by omega), Blk.setRow_other hS.2 _ (by omega)⟩ ?_
      clear hK K
      intro hS
      refine nextL 3 rfl (by kernel_rfl) (by rfl) fun K hK => ?_
      refine wp_store_row 25 _ _ rfl (w.heap.size + 1) #[.int .i64 (k), .int .i64 (l)] rfl rfl _ _ R1 frac_size rfl (by simp [Value.oneCell']) ?_
      simp only [Act.put]
      have R0 := R0.setRow_other #[.int .i64 (k), .int .i64 (l)] (show w.heap.size ≠ w.heap.size + 1 by omega)
      have R1 := R1.setRow #[.int .i64 (k), .int .i64 (l)]
      have B := below_row B (Nat.le_succ _) #[.int .i64 (k), .int .i64 (l)]
      refine hK _ _ ⟨Blk.setRow_other hS.1 _ (by omega), Blk.setRow_other hS.2 _ (by omega)⟩ ?_
      clear hK K
      intro hS
      refine wpAnyH_done (by kernel_rfl) ?_ _
      go_wp2
      exact bodyPost_ret (res_fr2 rfl _ _ w.heap.size (m) (n) (w.heap.size + 1) (k) (l) rfl rfl R0 R1) rfl ⟨_, _, _, _, rfl, B⟩
    · rw [hB] at c1
      have hy := frB_yes hB
      go_wp2_with fail
      refine (c1 _).mono ?_
      clear c1 f0 f1
      rintro e w5 ⟨rfl, hb5⟩
      have R0 := R0.below hb5
      have R1 := R1.below hb5
      have A := A.below hb5
      have C := C.below hb5
      have B := B.trans (hb5.mono B.size)
      have f0 := FrT.c0 A
      have f1 := FrT.c1 A
      clear hb5
      by_cases hm : m ≤ 2000000000000000
      · by_cases hn2 : n ≤ 2000000000000000
        · have R0' := R0.setRow_other #[.int .i64 (2 * m), .int .i64 (2 * n)] (show w.heap.size ≠ w3.heap.size by omega)
          have R1' := R1.setRow_other #[.int .i64 (2 * m), .int .i64 (2 * n)] (show w.heap.size + 1 ≠ w3.heap.size by omega)
          have A' := A.setRow_other #[.int .i64 (2 * m), .int .i64 (2 * n)] (show w2.heap.size ≠ w3.heap.size by omega)
          have C' := C.setRow #[.int .i64 (2 * m), .int .i64 (2 * n)]
          have B' := below_row B (show w.heap.size ≤ w3.heap.size by omega) #[.int .i64 (2 * m), .int .i64 (2 * n)]
          go_wp2_with (with_reducible refine wp_fr_store rfl _ _ rfl ?_; refine ⟨w3.heap.size, rfl, 2 * m, 2 * n, rfl, k, l, C, ?_⟩)
          refine wp_region_held_drew (S := fun w' => Fr w' w2.heap.size (m) (n) ∧ Fr w' w3.heap.size (2 * m) (2 * n)) (by kernel_rfl) ⟨A', C'⟩ ?_
          intro hS
          have B := (B').drew
          have R0 : Fr _ w.heap.size 0 0 := R0'
          have R1 : Fr _ (w.heap.size + 1) 0 0 := R1'
          refine takeL 0 (frV (m) (n)) rfl (by kernel_rfl) (by kernel_rfl) (by kernel_rfl) (fun _ _ _ h => h) (yields_ifr (by rfl) _ rfl _ rfl (m) (n) (fun _ h => h.1)) hS ?_
          simp only [Act.put, List.setIfInBounds_toArray, List.set_cons_zero, List.set_cons_succ]
          refine takeL 1 (frV (2 * m) (2 * n)) rfl (by kernel_rfl) (by kernel_rfl) (by kernel_rfl) (fun _ _ _ h => h) (yields_ifr (by rfl) _ rfl _ rfl (2 * m) (2 * n) (fun _ h => h.2)) hS ?_
          simp only [Act.put, List.setIfInBounds_toArray, List.set_cons_zero, List.set_cons_succ]
          refine nextL 2 rfl (by kernel_rfl) (by rfl) fun K hK => ?_
          refine wp_store_row 25 _ _ rfl w.heap.size #[.int .i64 (m), .int .i64 (n)] rfl rfl _ _ R0 frac_size rfl (by simp [Value.oneCell']) ?_
          simp only [Act.put]
          have R0 := R0.setRow #[.int .i64 (m), .int .i64 (n)]
          have R1 := R1.setRow_other #[.int .i64 (m), .int .i64 (n)] (show w.heap.size + 1 ≠ w.heap.size by omega)
          have B := below_row B (Nat.le_refl _) #[.int .i64 (m), .int .i64 (n)]
          refine hK _ _ ⟨Blk.setRow_other hS.1 _ (by omega), Blk.setRow_other hS.2 _ (by omega)⟩ ?_
          clear hK K
          intro hS
          refine nextL 3 rfl (by kernel_rfl) (by rfl) fun K hK => ?_
          refine wp_store_row 25 _ _ rfl (w.heap.size + 1) #[.int .i64 (2 * m), .int .i64 (2 * n)] rfl rfl _ _ R1 frac_size rfl (by simp [Value.oneCell']) ?_
          simp only [Act.put]
          have R0 := R0.setRow_other #[.int .i64 (2 * m), .int .i64 (2 * n)] (show w.heap.size ≠ w.heap.size + 1 by omega)
          have R1 := R1.setRow #[.int .i64 (2 * m), .int .i64 (2 * n)]
          have B := below_row B (Nat.le_succ _) #[.int .i64 (2 * m), .int .i64 (2 * n)]
          refine hK _ _ ⟨Blk.setRow_other hS.1 _ (by omega), Blk.setRow_other hS.2 _ (by omega)⟩ ?_
          clear hK K
          intro hS
          refine wpAnyH_done (by kernel_rfl) ?_ _
          go_wp2
          exact bodyPost_ret (res_fr2 rfl _ _ w.heap.size (m) (n) (w.heap.size + 1) (2 * m) (2 * n) rfl rfl R0 R1) rfl ⟨_, _, _, _, rfl, B⟩
        · go_wp2_with fail
          refine wp_region_held_drew (S := fun w' => Fr w' w2.heap.size (m) (n) ∧ Fr w' w3.heap.size (k) (l)) (by kernel_rfl) ⟨A, C⟩ ?_
          intro hS
          have B := (B).drew
          have R0 : Fr _ w.heap.size 0 0 := R0
          have R1 : Fr _ (w.heap.size + 1) 0 0 := R1
          refine takeL 0 (frV (m) (n)) rfl (by kernel_rfl) (by kernel_rfl) (by kernel_rfl) (fun _ _ _ h => h) (yields_ifr (by rfl) _ rfl _ rfl (m) (n) (fun _ h => h.1)) hS ?_
          simp only [Act.put, List.setIfInBounds_toArray, List.set_cons_zero, List.set_cons_succ]
          refine takeL 1 (frV (k) (l)) rfl (by kernel_rfl) (by kernel_rfl) (by kernel_rfl) (fun _ _ _ h => h) (yields_ifr (by rfl) _ rfl _ rfl (k) (l) (fun _ h => h.2)) hS ?_
          simp only [Act.put, List.setIfInBounds_toArray, List.set_cons_zero, List.set_cons_succ]
          refine nextL 2 rfl (by kernel_rfl) (by rfl) fun K hK => ?_
          refine wp_store_row 25 _ _ rfl w.heap.size #[.int .i64 (m), .int .i64 (n)] rfl rfl _ _ R0 frac_size rfl (by simp [Value.oneCell']) ?_
          simp only [Act.put]
          have R0 := R0.setRow #[.int .i64 (m), .int .i64 (n)]
          have R1 := R1.setRow_other #[.int .i64 (m), .int .i64 (n)] (show w.heap.size + 1 ≠ w.heap.size by omega)
          have B := below_row B (Nat.le_refl _) #[.int .i64 (m), .int .i64 (n)]
          refine hK _ _ ⟨Blk.setRow_other hS.1 _ (by omega), Blk.setRow_other hS.2 _ (by omega)⟩ ?_
          clear hK K
          intro hS
          refine nextL 3 rfl (by kernel_rfl) (by rfl) fun K hK => ?_
          refine wp_store_row 25 _ _ rfl (w.heap.size + 1) #[.int .i64 (k), .int .i64 (l)] rfl rfl _ _ R1 frac_size rfl (by simp [Value.oneCell']) ?_
          simp only [Act.put]
          have R0 := R0.setRow_other #[.int .i64 (k), .int .i64 (l)] (show w.heap.size ≠ w.heap.size + 1 by omega)
          have R1 := R1.setRow #[.int .i64 (k), .int .i64 (l)]
          have B := below_row B (Nat.le_succ _) #[.int .i64 (k), .int .i64 (l)]
          refine hK _ _ ⟨Blk.setRow_other hS.1 _ (by omega), Blk.setRow_other hS.2 _ (by omega)⟩ ?_
          clear hK K
          intro hS
          refine wpAnyH_done (by kernel_rfl) ?_ _
          go_wp2
          exact bodyPost_ret (res_fr2 rfl _ _ w.heap.size (m) (n) (w.heap.size + 1) (k) (l) rfl rfl R0 R1) rfl ⟨_, _, _, _, rfl, B⟩
      · go_wp2_with fail
        refine wp_region_held_drew (S := fun w' => Fr w' w2.heap.size (m) (n) ∧ Fr w' w3.heap.size (k) (l)) (by kernel_rfl) ⟨A, C⟩ ?_
        intro hS
        have B := (B).drew
        have R0 : Fr _ w.heap.size 0 0 := R0
        have R1 : Fr _ (w.heap.size + 1) 0 0 := R1
        refine takeL 0 (frV (m) (n)) rfl (by kernel_rfl) (by kernel_rfl) (by kernel_rfl) (fun _ _ _ h => h) (yields_ifr (by rfl) _ rfl _ rfl (m) (n) (fun _ h => h.1)) hS ?_
        simp only [Act.put, List.setIfInBounds_toArray, List.set_cons_zero, List.set_cons_succ]
        refine takeL 1 (frV (k) (l)) rfl (by kernel_rfl) (by kernel_rfl) (by kernel_rfl) (fun _ _ _ h => h) (yields_ifr (by rfl) _ rfl _ rfl (k) (l) (fun _ h => h.2)) hS ?_
        simp only [Act.put, List.setIfInBounds_toArray, List.set_cons_zero, List.set_cons_succ]
        refine nextL 2 rfl (by kernel_rfl) (by rfl) fun K hK => ?_
        refine wp_store_row 25 _ _ rfl w.heap.size #[.int .i64 (m), .int .i64 (n)] rfl rfl _ _ R0 frac_size rfl (by simp [Value.oneCell']) ?_
        simp only [Act.put]
        have R0 := R0.setRow #[.int .i64 (m), .int .i64 (n)]
        have R1 := R1.setRow_other #[.int .i64 (m), .int .i64 (n)] (show w.heap.size + 1 ≠ w.heap.size by omega)
        have B := below_row B (Nat.le_refl _) #[.int .i64 (m), .int .i64 (n)]
        refine hK _ _ ⟨Blk.setRow_other hS.1 _ (by omega), Blk.setRow_other hS.2 _ (by omega)⟩ ?_
        clear hK K
        intro hS
        refine nextL 3 rfl (by kernel_rfl) (by rfl) fun K hK => ?_
        refine wp_store_row 25 _ _ rfl (w.heap.size + 1) #[.int .i64 (k), .int .i64 (l)] rfl rfl _ _ R1 frac_size rfl (by simp [Value.oneCell']) ?_
        simp only [Act.put]
        have R0 := R0.setRow_other #[.int .i64 (k), .int .i64 (l)] (show w.heap.size ≠ w.heap.size + 1 by omega)
        have R1 := R1.setRow #[.int .i64 (k), .int .i64 (l)]
        have B := below_row B (Nat.le_succ _) #[.int .i64 (k), .int .i64 (l)]
        refine hK _ _ ⟨Blk.setRow_other hS.1 _ (by omega), Blk.setRow_other hS.2 _ (by omega)⟩ ?_
        clear hK K
        intro hS
        refine wpAnyH_done (by kernel_rfl) ?_ _
        go_wp2
        exact bodyPost_ret (res_fr2 rfl _ _ w.heap.size (m) (n) (w.heap.size + 1) (k) (l) rfl rfl R0 R1) rfl ⟨_, _, _, _, rfl, B⟩

theorem drawFracCmp_any (a : Option Addr) (len cap : Nat) (zs : List Int) (w : World) (hr : IsRow .u8 w a len cap zs) (hn : len ≤ 1048576) :
    Calls Try.prog 10 #[.slice a len cap] w fun e w' => ∃ m n k l : Int, e = .returned (.tuple #[frV m n, frV k l]) ∧ Below w.heap.size w w' := by
  obtain ⟨R0, R1, B⟩ := blk_2 25 25 w #[.int .i64 0, .int .i64 0] #[.int .i64 0, .int .i64 0]
  have hr0 := hr.later B
  clear hr
  go_enter Try.func10, Try.ntmps10
  go_wp2_with fail
  refine (ftwo_any a len cap zs _ hr0 hn).mono ?_
  rintro e w1 ⟨m, n, k, l, rfl, hb1⟩
  have R0 := R0.below hb1
  have R1 := R1.below hb1
  have B := B.trans (hb1.mono B.size)
  have r0 := R0.setRow #[.int .i64 (m), .int .i64 (n)]
  have r1 := R1.setRow_other #[.int .i64 (m), .int .i64 (n)] (show w.heap.size + 1 ≠ w.heap.size by omega)
  have r0' := r0.setRow_other #[.int .i64 (k), .int .i64 (l)] (show w.heap.size ≠ w.heap.size + 1 by omega)
  have r1' := r1.setRow #[.int .i64 (k), .int .i64 (l)]
  have B' := below_row (below_row B (Nat.le_refl _) #[.int .i64 (m), .int .i64 (n)]) (Nat.le_succ _) #[.int .i64 (k), .int .i64 (l)]
  clear hb1 hr0
  go_wp2_with (first | (with_reducible refine wp_fr_store rfl _ _ rfl ?_; refine ⟨w.heap.size, rfl, m, n, rfl, 0, 0, R0, ?_⟩) | (with_reducible refine wp_fr_store rfl _ _ rfl ?_; refine ⟨w.heap.size + 1, rfl, k, l, rfl, 0, 0, r1, ?_⟩))
  exact bodyPost_ret (res_fr2 rfl _ _ w.heap.size m n (w.heap.size + 1) k l rfl rfl r0' r1') rfl ⟨_, _, _, _, rfl, B'⟩
end Go.Proofs.Ytonimdaimldbgaa
