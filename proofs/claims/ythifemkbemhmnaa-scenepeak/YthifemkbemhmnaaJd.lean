/- ScenePeak: what its walk leans on. -/
import Derived.Test.YthifemkbemhmnaaJc
import Derived.Test.YthifemkbemhmnaaGe
import Derived.Test.YthifemkbemhmnaaDb
namespace Go.Proofs.Ythifemkbemhmnaa
open Go.ChangeShapes Go.WideShapes Go.ChangeAt Go.RowKit Go.Fl Ieee
attribute [local go_sem] run_store_float run_store_c isSome_set call69 call32 run_neg fold_eq fold_ne fold_lt fold_gt abs_eq

theorem cell_newc (w : World) (x y : Nat) (t : TypeId) : ∀ (j : Nat) (u : Value), [Value.complex .f64 x y][j]? = some u → (w.alloc (.cells #[.complex .f64 x y] t)).cell? ((⟨w.heap.size, 0, none⟩ : Addr).add j) = some u := by
  intro j u hj
  match j, hj with
  | 0, hj => simp at hj; subst hj; exact World.cell?_alloc_at _ _ _ _ rfl
theorem one_cellc (x y : Nat) : ∀ u ∈ [Value.complex .f64 x y], u.oneCell' = true := by
  intro u hu; simp at hu; subst hu; rfl
/-- A pulse's sample. -/
def fpW (W : Nat → Int) (i : Nat) : Nat × Nat := (floatOfInt .f64 (W i), 0)
theorem fpW_wc {W : Nat → Int} {n i : Nat} (h : Sm W n) (hi : i < n) : WC (ab2 (fpW W i)) (W i) 0 := ⟨WH.int (by have := h i hi; unfold P53; omega) (by have := h i hi; unfold P53; omega), WH.zero⟩
/-- The pulse so far. -/
structure WRow (w0 w : World) (v : Value) (W : Nat → Int) (k : Nat) : Prop where
  row : w.ownsRow w0.heap.size 28 1 v k ((List.range k).map fun i => ce (fpW W i))
  up : Up w0 w
theorem WRow.push {w0 w wa w1 : World} {v v' : Value} {W : Nat → Int} {k x : Nat} (h : WRow w0 w v W k) (hu : Up w wa) (hx : floatOfInt .f64 (W k) = x) (hown : w1.ownsRow w0.heap.size 28 1 v' (k + 1) (((List.range k).map fun i => ce (fpW W i)) ++ [.complex .f64 x 0])) (hg : wa.grownBy w1 v.ownBlock) : WRow w0 w1 v' W (k + 1) := by
  refine ⟨?_, Below.grown (h.up.trans hu) hg (Nat.le_trans h.up.size hu.size) (fun j hj => (h.row.lt j hj).1)⟩
  rw [List.range_succ, List.map_append]
  simp only [List.map_cons, List.map_nil, fpW, hx, ce]
  exact hown
theorem WRow.rd {w0 w : World} {v : Value} {W : Nat → Int} {n : Nat} (h : WRow w0 w v W n) (h0 : 0 < n) : ∃ g cap, v = .slice (some ⟨g, 0, none⟩) n cap ∧ n ≤ cap ∧ RD w g 0 n (fpW W) := by
  rcases h.row.2 with ⟨_, h2⟩ | ⟨g, cap, cur, rfl, _, _, hc, _⟩
  · omega
  · refine ⟨g, cap, rfl, hc, fun j hj => ?_⟩
    rw [Nat.zero_add, World.ownsRow.cellAt h.row j (by omega)]
    simp [List.getElem?_map, List.getElem?_range hj]
abbrev boxedP (w : World) (a b : Int) (v : Value) (c q : Int) : World := w.alloc (.cells #[.int .u16 a, .int .u8 b, v, .int .u16 c, .int .i8 q] 26)
theorem boxedP_cell (w : World) (a b : Int) (v : Value) (c q : Int) : (boxedP w a b v c q).cell? ⟨w.heap.size, 0, none⟩ = some (.int .u16 a) ∧ (boxedP w a b v c q).cell? ⟨w.heap.size, 1, none⟩ = some (.int .u8 b) ∧ (boxedP w a b v c q).cell? ⟨w.heap.size, 2, none⟩ = some v ∧ (boxedP w a b v c q).cell? ⟨w.heap.size, 3, none⟩ = some (.int .u16 c) ∧ (boxedP w a b v c q).cell? ⟨w.heap.size, 4, none⟩ = some (.int .i8 q) := by
  have hh := heap_alloc_last w (.cells #[.int .u16 a, .int .u8 b, v, .int .u16 c, .int .i8 q] 26)
  refine ⟨?_, ?_, ?_, ?_, ?_⟩ <;> rw [cell_of_row _ _ _ _ _ _ hh] <;> rfl
/-- The beat, the pulse, the echo. -/
structure QW (w W : World) (gb gl n E R A B d : Nat) (z : Int) (w8 : Nat → Int) (dd : List (Nat × Nat)) : Prop where
  bc : BC W gb 4607182418800017408 4620693217682128896 4652007308841189376 (E : Int) (R : Int)
  rd : RD W gl 0 n (fpW w8)
  mt : MT W A B R E dd (fun _ g => lineV (unF (unA (z - d)), unF (unB (z - d))) (fun i => ab2 (fpW w8 i)) d n g)
  up : Up w W
  sm : Sm w8 n
  num : 1 ≤ n ∧ n ≤ 60 ∧ d + n ≤ E ∧ E ≤ 300 ∧ 1 ≤ R ∧ R ≤ 6 ∧ d < 300
theorem QW.grow {w W W' : World} {gb gl n E R A B d : Nat} {z : Int} {w8 : Nat → Int} {dd : List (Nat × Nat)} (h : QW w W gb gl n E R A B d z w8 dd) (u : Up W W') : QW w W' gb gl n E R A B d z w8 dd :=
  ⟨h.bc.up u, h.rd.up u, h.mt.up u, h.up.trans u, h.sm, h.num⟩
theorem power_wh {W : Nat → Int} {n : Nat} (h : Sm W n) (hn : n ≤ 60) : WH (sumN (pwF (fpW W)) n) (ownZ W n 0) := by
  have hb : Bd W W n 16384 := fun i hi => sq_bd (h i hi) (h i hi)
  have q := sum_wh (G := pwF (fpW W)) (F := W) (H := W) (K := 16384) (n := n) (fun i hi => by
    have := abs2_wh (p := ab2 (fpW W i)) (a := 1) (b := 0) (c := W i) un_one ((fpW_wc h hi).cast (by omega) (by omega)) (by have := h i hi; omega)
    exact this) hb (by unfold P53; omega)
  exact q
theorem t8w {w : World} {gl n cap : Nat} {W : Nat → Int} (hr : RD w gl 0 n (fpW W)) (h : Sm W n) (hn : n ≤ 60) : Calls Try.prog 8 #[.slice (some ⟨gl, 0, none⟩) n cap] w fun e w' => ∃ r, e = .returned (.float .f64 r) ∧ Hid (WH (ab r) (ownZ W n 0)) ∧ Hid (Up w w') :=
  (t8 gl 0 n cap (fpW W) w hr (by omega)).mono fun e w' ⟨r, he, h1, h2⟩ => ⟨r, he, by show WH _ _; rw [h1.out]; exact power_wh h hn, h2⟩
/-- A side lobe. -/
theorem side_w {w : World} {gl n cap cap2 k : Nat} {W : Nat → Int} (hr : RD w gl 0 n (fpW W)) (h : Sm W n) (hn : n ≤ 60) (hk : k < n) : Calls Try.prog 9 #[.slice (some ⟨gl, k, none⟩) (n - k) cap2, .slice (some ⟨gl, 0, none⟩) n cap] w fun e w' => ∃ r s, e = .returned (.complex .f64 r s) ∧ Hid (WC (ab r, ab s) (ownZ W n k) 0) ∧ Hid (Up w w') := by
  have h1 := hr.drop k
  rw [Nat.zero_add] at h1
  refine (t9 gl k (n - k) cap2 gl 0 n cap (n - k) _ _ w (by omega) h1 hr (by omega)).mono fun e w' ⟨r, s, he, q1, q2, q3⟩ => ⟨r, s, he, ?_, q3⟩
  have hb : Bd (fun i => W (i + k)) W (n - k) 16384 := fun i hi => sq_bd (h (i + k) (by omega)) (h i (by omega))
  have q := sum_whole (f := fun i => fpW W (i + k)) (g := fpW W) (F := fun i => W (i + k)) (G := W) (K := 16384) (n := n - k) (fun i hi => fpW_wc h (by omega)) (fun i hi => fpW_wc h (by omega)) hb (by unfold P53; omega)
  show WC _ _ _
  rw [q1.out, q2.out]
  exact q
theorem abs_w {w : World} {r s : Nat} {a b c : Int} (hu : Un a b) (h : WC (ab r, ab s) (a * c) (b * c)) (hc : -983040 ≤ c ∧ c ≤ 983040) : Calls Try.prog 10 #[.complex .f64 r s] w fun e w' => ∃ x k, e = .returned (.float .f64 x) ∧ Hid (WH (ab x) (c * c)) ∧ w' = w.drewN k :=
  (t10 r s w).mono fun e w' ⟨x, k, he, hw, hx⟩ => ⟨x, k, he, by show WH _ _; rw [hx.out]; exact abs2_wh hu h hc, hw⟩
theorem abs_s {w : World} {r s : Nat} {c : Int} (h : WC (ab r, ab s) c 0) (hc : -983040 ≤ c ∧ c ≤ 983040) : Calls Try.prog 10 #[.complex .f64 r s] w fun e w' => ∃ x k, e = .returned (.float .f64 x) ∧ Hid (WH (ab x) (c * c)) ∧ w' = w.drewN k :=
  abs_w (a := 1) (b := 0) un_one (h.cast (by omega) (by omega)) hc
theorem pow_sq {x r : Nat} {P : Int} (h : WH (ab x) P) (hP : -983040 ≤ P ∧ P ≤ 983040) (hr : ab r = bin .mul (ab x) (ab x)) : WH (ab r) (P * P) := by
  rw [hr]
  have := int_sq hP
  exact h.mul h (by unfold P53; omega) (by unfold P53; omega)
/-- A row of the match. -/
structure YR (W : World) (S E d n : Nat) (z : Int) (w8 : Nat → Int) (ds : List (Nat × Nat)) : Prop where
  rd : RD W S 0 E (fun i => ds[i]!)
  is : ∀ g, g < E → WC (ab2 ds[g]!) (unA (z - d) * corrZ w8 d n g) (unB (z - d) * corrZ w8 d n g)
theorem match_w {w W : World} {gb gl n E R A B d p zz cap : Nat} {z : Int} {w8 : Nat → Int} {dd : List (Nat × Nat)} (h : QW w W gb gl n E R A B d z w8 dd) (hp : p < R) (hz : p * E = zz) : Calls Try.prog 11 #[.slice (some ⟨B, zz, none⟩) E E, .slice (some ⟨gl, 0, none⟩) n cap] W fun e w' => ∃ S c2 ds, e = .returned (.tuple #[.slice (some ⟨S, 0, none⟩) E c2, .int .i64 0]) ∧ Hid (YR w' S E d n z w8 ds) ∧ Hid (QW w w' gb gl n E R A B d z w8 dd) := by
  subst hz
  obtain ⟨n1, n2, n3, n4, n5, n6, n7⟩ := h.num
  have hEn : E * n ≤ 300 * 60 := Nat.mul_le_mul n4 n2
  have hrd := (h.mt.ti.rd p hp (by omega)).2
  refine (t11 B (p * E) E E gl 0 n cap _ _ W hrd h.rd (Nat.le_refl _) n1 (by omega) (by omega) (by omega)).mono fun e w' hPL => ?_
  obtain ⟨v, ds, he, k1, k2, k3⟩ := hPL
  obtain ⟨S, c2, hv, f1, f2, f3⟩ := found_of (show 0 < E by omega) k1.out k3.out
  subst hv
  refine ⟨S, c2, ds, he, ⟨f1, fun g hg => ?_⟩, h.grow k2.out⟩
  rw [f3 g hg]
  exact held_wc (un_is _) ⟨unF_wh (un_is _).ra, unF_wh (un_is _).rb⟩ (fun i hi => fpW_wc h.sm hi) h.sm (fun i hi => h.mt.is p hp i hi) (fun _ _ => rfl) n3 n2 hg
theorem peak_w {W : World} {S c2 E d n : Nat} {z : Int} {w8 : Nat → Int} {ds : List (Nat × Nat)} (h : YR W S E d n z w8 ds) (hsm : Sm w8 n) (hn : n ≤ 60) (hE : E ≤ 300) (hd : d < E) (hP : 0 < ownZ w8 n 0) (hs : ∀ k, 1 ≤ k → k < n → ownZ w8 n k * ownZ w8 n k < ownZ w8 n 0 * ownZ w8 n 0) (w : World) (hu : Up W w) :
    Calls Try.prog 12 #[.slice (some ⟨S, 0, none⟩) E c2] w fun e w' => e = .returned (.int .i64 (d : Int)) ∧ ∃ k, w' = w.drewN k := by
  have cb : ∀ g, -983040 ≤ corrZ w8 d n g ∧ corrZ w8 d n g ≤ 983040 := by
    intro g
    rcases Nat.lt_or_ge g d with h1 | h1
    · rw [corr_low h1]; exact own_bd hsm hn
    · rw [corr_high h1]; exact own_bd hsm hn
  refine (t12 S 0 E c2 _ w (h.rd.up hu) (by omega)).mono fun e w' ⟨he, hk⟩ => ⟨?_, hk⟩
  have q := (pk_at (F := pwF fun i => ds[i]!) (z := fun g => corrZ w8 d n g * corrZ w8 d n g) (d := d) (E := E) (fun i hi => abs2_wh (p := ab2 ds[i]!) (un_is _) (h.is i hi) (cb i)) (fun i hi hne => by
    show corrZ w8 d n i * corrZ w8 d n i < corrZ w8 d n d * corrZ w8 d n d
    rw [corr_at (d := d)]
    exact corr_less hP hs hne) hd E (Nat.le_refl _)).2 hd
  rw [he, q]
end Go.Proofs.Ythifemkbemhmnaa
