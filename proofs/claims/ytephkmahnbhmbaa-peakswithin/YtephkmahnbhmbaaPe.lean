/- Whether a cell is outdone: the walk. -/
import Derived.Test.YtephkmahnbhmbaaPd
namespace Go.Proofs.Ytephkmahnbhmbaa
open Go.ChangeShapes Go.WideShapes Go.ChangeAt Go.RowKit Go.Fl Go.Sort
attribute [local go_sem] run_store_float call52 run_neg fold_eq fold_ne fold_lt fold_gt abs_eq eqg57

theorem rowN_in {b g y fr : Int} {m : Nat} {c : Int × Int} (h : c ∈ rowN b g y fr m) : ∃ k : Nat, k < m ∧ c = (y, fr + k) ∧ sameC y (fr + k) b g = false := by
  induction m with
  | zero => simp [rowN] at h
  | succ m ih =>
    unfold rowN at h
    rcases List.mem_append.1 h with h | h
    · obtain ⟨k, h1, h2, h3⟩ := ih h
      exact ⟨k, by omega, h2, h3⟩
    · by_cases q : sameC y (fr + m) b g = true
      · rw [if_pos q] at h; cases h
      · rw [if_neg q] at h
        exact ⟨m, by omega, by simpa using h, by simpa using q⟩
theorem binsN_in {f : Nat → Int} {b g fr : Int} {m n : Nat} {c : Int × Int} (h : c ∈ binsN f b g fr m n) : ∃ j k : Nat, j < n ∧ k < m ∧ c = (f j, fr + k) ∧ sameC (f j) (fr + k) b g = false := by
  induction n with
  | zero => simp [binsN] at h
  | succ n ih =>
    unfold binsN at h
    rcases List.mem_append.1 h with h | h
    · obtain ⟨j, k, h1, h2, h3⟩ := ih h
      exact ⟨j, k, by omega, h2, h3⟩
    · obtain ⟨k, h1, h2, h3⟩ := rowN_in h
      exact ⟨n, k, by omega, h1, h2, h3⟩
theorem binA_in {bins b : Int} (b0 : 0 ≤ b) (b1 : b < bins) (j : Nat) : 0 ≤ binA bins b j ∧ binA bins b j < bins := by
  unfold binA belowB aboveB
  split
  · omega
  · split <;> split <;> omega
theorem nbL_in {bins last b g : Int} (b0 : 0 ≤ b) (b1 : b < bins) (g1 : g ≤ last) {c : Int × Int} (h : c ∈ nbL bins last b g) : 0 ≤ c.1 ∧ c.1 < bins ∧ 0 ≤ c.2 ∧ c.2 ≤ last := by
  obtain ⟨j, k, h1, h2, rfl, h3⟩ := binsN_in h
  have := binA_in b0 b1 j
  refine ⟨this.1, this.2, ?_, ?_⟩ <;> simp only [frG, toG] at * <;> omega
/-- Is a cell outdone? -/
def outF (D : Nat → Array Nat) (n G b g : Nat) : Bool := (nbL n ((G : Int) - 1) b g).any (btC D (D b)[g]! b g)
theorem eg54 (args : Array Value) (w : World) : (callFunc 54 args).run Try.prog w = .ok (.enter 54 args) w := enters Try.func54 (by kernel_rfl) (by kernel_rfl) _ _
theorem visits54 {w0 : World} {p : Option Addr} {n cap pw G : Nat} {D : Nat → Array Nat} {b g mB iB pB aB : Nat} (hm : MV w0 p n cap D) (hb : b < n) (hg : g < G) (hG : ∀ i, i < n → G ≤ (D i).size) :
    Visits 54 #[.pointer (some ⟨mB, 0, none⟩), .pointer (some ⟨iB, 0, none⟩), .pointer (some ⟨pB, 0, none⟩), .pointer (some ⟨aB, 0, none⟩)] (fun c => c ∈ nbL n ((G : Int) - 1) b g) (OI w0 p n cap pw D b g mB iB pB aB) where
  up := OI.up
  step := by
    intro F l w x y hc h
    obtain ⟨r1, r2, r3, r4⟩ := nbL_in (c := (x, y)) (by omega) (by omega) (by omega) hc
    simp only at r1 r2 r3 r4
    obtain ⟨X, rfl⟩ : ∃ X : Nat, x = X := ⟨x.toNat, by omega⟩
    obtain ⟨Y, rfl⟩ : ∃ Y : Nat, y = Y := ⟨y.toNat, by omega⟩
    have := hG X (by omega)
    exact t54 hm h (by omega) (by omega)
theorem three_boxes (w : World) (A B C : Array Value) (s t u : TypeId) : let W := ((w.alloc (.cells A s)).alloc (.cells B t)).alloc (.cells C u)
    (∀ k, W.cell? ⟨w.heap.size, k, none⟩ = A[k]?) ∧ (∀ k, W.cell? ⟨w.heap.size + 1, k, none⟩ = B[k]?) ∧ (∀ k, W.cell? ⟨w.heap.size + 1 + 1, k, none⟩ = C[k]?) ∧ W.heap.size = w.heap.size + 1 + 1 + 1 := by
  intro W
  have h1 : W.heap[w.heap.size]? = some (.cells A s (0, 0)) := by
    show (World.alloc _ _).heap[_]? = _
    rw [RowKit.Below.block (Up.alloc ((w.alloc (.cells A s)).alloc (.cells B t)) (.cells C u)) _ (by simp; omega)]; exact (two_boxes w A B s t).1
  have h2 : W.heap[w.heap.size + 1]? = some (.cells B t (0, 0)) := mid_three _ _ _ _
  have h3 : W.heap[w.heap.size + 1 + 1]? = some (.cells C u (0, 0)) := by
    have := heap_alloc_last ((w.alloc (.cells A s)).alloc (.cells B t)) (.cells C u)
    rw [show ((w.alloc (.cells A s)).alloc (.cells B t)).heap.size = w.heap.size + 1 + 1 by simp] at this
    exact this
  exact ⟨fun k => cell_of_row _ _ _ _ _ _ h1, fun k => cell_of_row _ _ _ _ _ _ h2, fun k => cell_of_row _ _ _ _ _ _ h3, by simp [W]⟩
theorem frozen_of_row {w : World} {g k : Nat} {c : Array Value} {t : TypeId} (h : w.heap[g]? = some (.cells c t (0, 0))) : w.frozen? ⟨g, k, none⟩ = false := by
  simp [World.frozen?, h]
/-- Two boxes of one cell each, in either order. -/
theorem two_one (w : World) (u v : Value) (s t : TypeId) : let W := ((w.alloc (.cells #[u] s)).alloc (.cells #[v] t)).drew
    W.cell? ⟨w.heap.size, 0, none⟩ = some u ∧ W.cell? ⟨w.heap.size + 1, 0, none⟩ = some v ∧ W.frozen? ⟨w.heap.size, 0, none⟩ = false ∧ W.frozen? ⟨w.heap.size + 1, 0, none⟩ = false ∧ Up w W := by
  intro W
  obtain ⟨h1, h2⟩ := two_boxes w #[u] #[v] s t
  exact ⟨cell_of_row _ _ _ _ _ _ h1, cell_of_row _ _ _ _ _ _ h2, frozen_of_row h1, frozen_of_row h2, ((Up.alloc _ _).trans (Up.alloc _ _)).trans (Up.drewN _ 1)⟩
set_option maxRecDepth 20000 in
set_option maxHeartbeats 1000000 in
theorem t29 {w : World} {p : Option Addr} {n cap G : Nat} {D : Nat → Array Nat} {b g : Nat} (hm : MV w p n cap D) (hb : b < n) (hg : g < G) (hG : ∀ i, i < n → G ≤ (D i).size) :
    Calls Try.prog 29 #[.slice p n cap, .agg #[.int .i64 n, .int .i64 ((G : Int) - 1)], .agg #[.int .i64 b, .int .i64 g]] w fun e w' => e = .returned (.bool (outF D n G b g)) ∧ Hid (Up w w') := by
  obtain ⟨k1, k2, k3, k4⟩ := three_boxes w #[.slice p n cap] #[.int .i64 n, .int .i64 ((G : Int) - 1)] #[.int .i64 b, .int .i64 g] 22 54 57
  have HU : Hid (Up w (((w.alloc (.cells #[.slice p n cap] 22)).alloc (.cells #[.int .i64 n, .int .i64 ((G : Int) - 1)] 54)).alloc (.cells #[.int .i64 b, .int .i64 g] 57))) := ((Up.alloc _ _).trans (Up.alloc _ _)).trans (Up.alloc _ _)
  have HM : Hid (MV w p n cap D) := hm
  have HG : Hid (∀ i, i < n → G ≤ (D i).size) := hG
  have hGb := hG b hb
  obtain ⟨mb, mo, rb, ro, rc, hp, k5, k6, k7⟩ := (hm.up HU.out).at hb (show g < (D b).size by omega)
  have a0 := k1 0
  have a1 := k2 0
  have a2 := k2 1
  have a3 := k3 0
  have a4 := k3 1
  simp only [List.getElem?_toArray, List.getElem?_cons_zero, List.getElem?_cons_succ] at a0 a1 a2 a3 a4
  obtain ⟨pw, hpw⟩ : ∃ pw, (D b)[g]! = pw := ⟨_, rfl⟩
  obtain ⟨m, hm'⟩ : ∃ m, (D b).size = m := ⟨_, rfl⟩
  obtain ⟨l, hl⟩ : ∃ l : Int, (G : Int) - 1 = l := ⟨_, rfl⟩
  have bn := hm.few
  have bG := hm.small b hb
  rw [hpw] at k6
  rw [hm'] at k5 k7 hGb bG
  have HS : Hid ((((w.alloc (.cells #[.slice p n cap] 22)).alloc (.cells #[.int .i64 n, .int .i64 ((G : Int) - 1)] 54)).alloc (.cells #[.int .i64 b, .int .i64 g] 57)).heap.size = w.heap.size + 1 + 1 + 1) := k4
  subst hp
  have y1 : (b : Int) < (n : Int) := by omega
  have y2 : (g : Int) < (m : Int) := by omega
  rw [hl] at a2 HU HS k5 k6 a0 a1 a3 a4 ⊢
  have HP : Hid ((D b)[g]! = pw ∧ (G : Int) - 1 = l) := ⟨hpw, hl⟩
  clear k1 k2 k3 k4 hm hG hpw hm' hl
  go_enter Try.func29, Try.ntmps29
  go_wp2_with fail
  generalize ((w.alloc (.cells #[.slice (some ⟨mb, mo, none⟩) n cap] 22)).alloc (.cells #[.int .i64 n, .int .i64 l] 54)).alloc (.cells #[.int .i64 b, .int .i64 g] 57) = W at *
  generalize hN : w.heap.size = N at *
  go_region_held3 (fun w' => w'.cell? ⟨N, 0, none⟩ = some (.slice (some ⟨mb, mo, none⟩) n cap) ∧ w'.cell? ⟨N + 1 + 1, 0, none⟩ = some (.int .i64 b) ∧ w'.cell? ⟨N + 1 + 1, 1, none⟩ = some (.int .i64 g) ∧ w'.cell? ⟨mb, mo + b, none⟩ = some (.slice (some ⟨rb, ro, none⟩) m rc) ∧ w'.cell? ⟨rb, ro + g, none⟩ = some (.float .f64 pw))
    (first | exact ⟨a0, a3, a4, k5, k6⟩ | go_keep | exact ⟨cell_up a0 (Up.alloc _ _), cell_up a3 (Up.alloc _ _), cell_up a4 (Up.alloc _ _), cell_up k5 (Up.alloc _ _), cell_up k6 (Up.alloc _ _)⟩) (fail)
  · obtain ⟨x1, x2, x3, x4, x5⟩ := two_one W (.float .f64 pw) (.bool false) 24 4
    have HO : Hid (OI w (some ⟨mb, mo, none⟩) n cap pw D b g N (W.heap.size + 1) W.heap.size (N + 1 + 1) (fun k => k ≠ W.heap.size + 1) [] ((W.alloc (.cells #[.float .f64 pw] 24)).alloc (.cells #[.bool false] 4)).drew) := by
      have hs := HS.out
      exact ⟨HU.out.trans x5, by omega, cell_up a0 x5, x2, x4, x1, cell_up a3 x5, cell_up a4 x5, by omega, by omega, by omega, fun h => h rfl⟩
    have z1 := cell_up a1 x5
    have z2 := cell_up a2 x5
    have z3 := cell_up a3 x5
    have z4 := cell_up a4 x5
    clear x1 x2 x3 x4 x5
    have V : Hid (Visits 54 #[.pointer (some ⟨N, 0, none⟩), .pointer (some ⟨W.heap.size + 1, 0, none⟩), .pointer (some ⟨W.heap.size, 0, none⟩), .pointer (some ⟨N + 1 + 1, 0, none⟩)] (fun c => c ∈ nbL n l b g) (OI w (some ⟨mb, mo, none⟩) n cap pw D b g N (W.heap.size + 1) (W.heap.size) (N + 1 + 1))) := by
      rw [← HP.out.2]; exact visits54 HM.out hb hg HG.out
    have C : Hid (Calls Try.prog 53 #[.agg #[.int .i64 n, .int .i64 l], .agg #[.int .i64 b, .int .i64 g], .func (.func 54) #[] #[.pointer (some ⟨N, 0, none⟩), .pointer (some ⟨W.heap.size + 1, 0, none⟩), .pointer (some ⟨W.heap.size, 0, none⟩), .pointer (some ⟨N + 1 + 1, 0, none⟩)]] ((W.alloc (.cells #[.float .f64 pw] 24)).alloc (.cells #[.bool false] 4)).drew fun e w' => e = .returned (.tuple #[]) ∧ ∃ F, Hid ((∀ k, k ≠ W.heap.size + 1 → F k) ∧ OI w (some ⟨mb, mo, none⟩) n cap pw D b g N (W.heap.size + 1) (W.heap.size) (N + 1 + 1) F (nbL n l b g) w' ∧ Kp (fun k => k ≠ W.heap.size + 1) ((W.alloc (.cells #[.float .f64 pw] 24)).alloc (.cells #[.bool false] 4)).drew w')) :=
      t53 V.out eg54 HO.out (by omega) (by omega) (by omega) (by omega) (by have := HP.out.2; omega) (by have := HP.out.2; omega)
    clear V
    go_wp2_with (first
      | (go_at_call 53; (with_reducible refine C.out.mono ?_); rintro e w3 ⟨rfl, F, HF⟩; (have r0 := HF.out.2.1.is)))
    go_ret
    refine ⟨?_, ?_⟩
    · show _ = Ending.returned (.bool (outF D n G b g))
      unfold outF
      rw [HP.out.1, HP.out.2]
      rfl
    · have hs := HS.out
      exact HF.out.2.1.up0
  · obtain ⟨x1, x2, x3, x4, x5⟩ := two_one W (.bool false) (.float .f64 pw) 4 24
    have HO : Hid (OI w (some ⟨mb, mo, none⟩) n cap pw D b g N W.heap.size (W.heap.size + 1) (N + 1 + 1) (fun k => k ≠ W.heap.size) [] ((W.alloc (.cells #[.bool false] 4)).alloc (.cells #[.float .f64 pw] 24)).drew) := by
      have hs := HS.out
      exact ⟨HU.out.trans x5, by omega, cell_up a0 x5, x1, x3, x2, cell_up a3 x5, cell_up a4 x5, by omega, by omega, by omega, fun h => h rfl⟩
    have z1 := cell_up a1 x5
    have z2 := cell_up a2 x5
    have z3 := cell_up a3 x5
    have z4 := cell_up a4 x5
    clear x1 x2 x3 x4 x5
    have V : Hid (Visits 54 #[.pointer (some ⟨N, 0, none⟩), .pointer (some ⟨W.heap.size, 0, none⟩), .pointer (some ⟨W.heap.size + 1, 0, none⟩), .pointer (some ⟨N + 1 + 1, 0, none⟩)] (fun c => c ∈ nbL n l b g) (OI w (some ⟨mb, mo, none⟩) n cap pw D b g N (W.heap.size) (W.heap.size + 1) (N + 1 + 1))) := by
      rw [← HP.out.2]; exact visits54 HM.out hb hg HG.out
    have C : Hid (Calls Try.prog 53 #[.agg #[.int .i64 n, .int .i64 l], .agg #[.int .i64 b, .int .i64 g], .func (.func 54) #[] #[.pointer (some ⟨N, 0, none⟩), .pointer (some ⟨W.heap.size, 0, none⟩), .pointer (some ⟨W.heap.size + 1, 0, none⟩), .pointer (some ⟨N + 1 + 1, 0, none⟩)]] ((W.alloc (.cells #[.bool false] 4)).alloc (.cells #[.float .f64 pw] 24)).drew fun e w' => e = .returned (.tuple #[]) ∧ ∃ F, Hid ((∀ k, k ≠ W.heap.size → F k) ∧ OI w (some ⟨mb, mo, none⟩) n cap pw D b g N (W.heap.size) (W.heap.size + 1) (N + 1 + 1) F (nbL n l b g) w' ∧ Kp (fun k => k ≠ W.heap.size) ((W.alloc (.cells #[.bool false] 4)).alloc (.cells #[.float .f64 pw] 24)).drew w')) :=
      t53 V.out eg54 HO.out (by omega) (by omega) (by omega) (by omega) (by have := HP.out.2; omega) (by have := HP.out.2; omega)
    clear V
    go_wp2_with (first
      | (go_at_call 53; (with_reducible refine C.out.mono ?_); rintro e w3 ⟨rfl, F, HF⟩; (have r0 := HF.out.2.1.is)))
    go_ret
    refine ⟨?_, ?_⟩
    · show _ = Ending.returned (.bool (outF D n G b g))
      unfold outF
      rw [HP.out.1, HP.out.2]
      rfl
    · have hs := HS.out
      exact HF.out.2.1.up0
end Go.Proofs.Ytephkmahnbhmbaa
