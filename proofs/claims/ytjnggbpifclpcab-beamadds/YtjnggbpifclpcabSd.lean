/- The product of two rows. -/
import Derived.Test.YtjnggbpifclpcabS
import Derived.Deep.RegionWith
namespace Go.Proofs.Ytjnggbpifclpcab
open Go.ChangeShapes Go.WideShapes Go.ChangeAt Go.RowKit Go.Fl Ieee
attribute [local go_sem] run_store_float run_store_complex call20 call19 run_neg fold_eq fold_ne fold_lt fold_gt abs_eq

def dotR (f g : Nat → Nat × Nat) (i : Nat) : Option Nat := mulR (ab (f i).1) (ab (f i).2) (ab (g i).1) ((ab (g i).2).map neg)
def dotI (f g : Nat → Nat × Nat) (i : Nat) : Option Nat := mulI (ab (f i).1) (ab (f i).2) (ab (g i).1) ((ab (g i).2).map neg)
set_option maxHeartbeats 2000000 in
theorem t38 (b1 b2 g1 o1 n1 c1 g2 o2 n2 c2 i : Nat) (f g : Nat → Nat × Nat) (w : World) (hb1 : w.cell? ⟨b1, 0, none⟩ = some (.slice (some ⟨g1, o1, none⟩) n1 c1)) (hb2 : w.cell? ⟨b2, 0, none⟩ = some (.slice (some ⟨g2, o2, none⟩) n2 c2)) (hR1 : RD w g1 o1 n1 f) (hR2 : RD w g2 o2 n2 g) (h1 : i < n1) (h2 : i < n2) :
    Calls Try.prog 38 #[.int .i64 i, .pointer (some ⟨b1, 0, none⟩), .pointer (some ⟨b2, 0, none⟩)] w (DR w (dotR f g i) (dotI f g i)) := by
  obtain ⟨x, y, hx, hcx⟩ : ∃ x y, f i = (x, y) ∧ w.cell? ⟨g1, o1 + i, none⟩ = some (.complex .f64 x y) := ⟨_, _, rfl, hR1 i h1⟩
  obtain ⟨u, v, hu, hcu⟩ : ∃ x y, g i = (x, y) ∧ w.cell? ⟨g2, o2 + i, none⟩ = some (.complex .f64 x y) := ⟨_, _, rfl, hR2 i h2⟩
  unfold dotR dotI
  rw [hx, hu]
  simp only [← ab_neg]
  clear hx hu hR1 hR2
  have hi1 : (i : Int) < (n1 : Int) := by omega
  have hi2 : (i : Int) < (n2 : Int) := by omega
  have hi0 : (0 : Int) ≤ (i : Int) := Int.natCast_nonneg _
  go_enter Try.func38, Try.ntmps38
  go_wp2_with fail
  go_region_held3 (fun w' => w'.cell? ⟨b1, 0, none⟩ = some (.slice (some ⟨g1, o1, none⟩) n1 c1) ∧ w'.cell? ⟨b2, 0, none⟩ = some (.slice (some ⟨g2, o2, none⟩) n2 c2) ∧ w'.cell? ⟨g1, o1 + i, none⟩ = some (.complex .f64 x y) ∧ w'.cell? ⟨g2, o2 + i, none⟩ = some (.complex .f64 u v)) (go_keep)
    (first
    | (go_at_call 25; (with_reducible refine (t25 _ _ _).mono ?_); rintro e w' ⟨rfl, rfl⟩)
    | (go_at_call 31; (with_reducible refine (t31 _ _ _ _ _).mono ?_); rintro e w' ⟨r, s, k, rfl, rfl, hr, hs⟩))
  all_goals (try go_wp2)
  all_goals (go_ret; exact DR.mkN hr.out hs.out)
theorem eg38 (args : Array Value) (w : World) : (callFunc 38 args).run Try.prog w = .ok (.enter 38 args) w := enters Try.func38 (by kernel_rfl) (by kernel_rfl) _ _
theorem two_boxes (w : World) (u v : Value) (s t : TypeId) (k : Nat) : (((w.alloc (.cells #[u] s)).alloc (.cells #[v] t)).drewN k).cell? ⟨w.heap.size, 0, none⟩ = some u ∧ (((w.alloc (.cells #[u] s)).alloc (.cells #[v] t)).drewN k).cell? ⟨w.heap.size + 1, 0, none⟩ = some v := by
  constructor
  · have h : ((w.alloc (.cells #[u] s)).alloc (.cells #[v] t)).heap[w.heap.size]? = some (.cells #[u] s) := by
      rw [Below.heap_alloc (w.alloc (.cells #[u] s)) _ w.heap.size (by simp)]; exact heap_alloc_last _ _
    show ((w.alloc (.cells #[u] s)).alloc (.cells #[v] t)).cell? _ = _
    rw [cell_of_row _ _ _ _ _ _ h]; rfl
  · have h : ((w.alloc (.cells #[u] s)).alloc (.cells #[v] t)).heap[w.heap.size + 1]? = some (.cells #[v] t) := by
      have := heap_alloc_last (w.alloc (.cells #[u] s)) (.cells #[v] t)
      simpa using this
    show ((w.alloc (.cells #[u] s)).alloc (.cells #[v] t)).cell? _ = _
    rw [cell_of_row _ _ _ _ _ _ h]; rfl
theorem up2 (w : World) (o1 o2 : Obj) (k : Nat) : Up w (((w.alloc o1).alloc o2).drewN k) := ((Up.alloc _ _).trans (Up.alloc _ _)).trans (Up.drewN _ _)
theorem dot56 {w : World} {g1 o1 n1 c1 g2 o2 n2 c2 N : Nat} {f g : Nat → Nat × Nat} (h1 : N ≤ n1) (h2 : N ≤ n2) (HR1 : Hid (RD w g1 o1 n1 f)) (HR2 : Hid (RD w g2 o2 n2 g)) (hn : N < 4611686018427387904) :
    Calls Try.prog 37 #[.int .i64 N, .func (.func 38) #[] #[.pointer (some ⟨w.heap.size, 0, none⟩), .pointer (some ⟨w.heap.size + 1, 0, none⟩)]] ((w.alloc (.cells #[.slice (some ⟨g1, o1, none⟩) n1 c1] 25)).alloc (.cells #[.slice (some ⟨g2, o2, none⟩) n2 c2] 25))
      (DR ((w.alloc (.cells #[.slice (some ⟨g1, o1, none⟩) n1 c1] 25)).alloc (.cells #[.slice (some ⟨g2, o2, none⟩) n2 c2] 25)) (sumN (dotR f g) N) (sumN (dotI f g) N)) := by
  refine t37 38 N _ (dotR f g) (dotI f g) _ hn eg38 fun i hi k => ?_
  obtain ⟨k1, k2⟩ := two_boxes w (.slice (some ⟨g1, o1, none⟩) n1 c1) (.slice (some ⟨g2, o2, none⟩) n2 c2) 25 25 k
  exact t38 w.heap.size (w.heap.size + 1) g1 o1 n1 c1 g2 o2 n2 c2 i f g _ k1 k2 (HR1.out.up (up2 _ _ _ _)) (HR2.out.up (up2 _ _ _ _)) (by omega) (by omega)
theorem t18 (g1 o1 n1 c1 g2 o2 n2 c2 N : Nat) (f g : Nat → Nat × Nat) (w : World) (h : N = n1 ∧ n1 ≤ n2 ∨ N = n2 ∧ n2 < n1) (hR1 : RD w g1 o1 n1 f) (hR2 : RD w g2 o2 n2 g) (hn : n1 + n2 < 4611686018427387904) :
    Calls Try.prog 18 #[.slice (some ⟨g1, o1, none⟩) n1 c1, .slice (some ⟨g2, o2, none⟩) n2 c2] w (CR w (sumN (dotR f g) N) (sumN (dotI f g) N)) := by
  have HR1 : Hid (RD w g1 o1 n1 f) := hR1
  have HR2 : Hid (RD w g2 o2 n2 g) := hR2
  obtain ⟨k1, k2⟩ := two_boxes w (.slice (some ⟨g1, o1, none⟩) n1 c1) (.slice (some ⟨g2, o2, none⟩) n2 c2) 25 25 0
  have k1' : ((w.alloc (.cells #[.slice (some ⟨g1, o1, none⟩) n1 c1] 25)).alloc (.cells #[.slice (some ⟨g2, o2, none⟩) n2 c2] 25)).cell? ⟨w.heap.size, 0, none⟩ = some (.slice (some ⟨g1, o1, none⟩) n1 c1) := k1
  have k2' : ((w.alloc (.cells #[.slice (some ⟨g1, o1, none⟩) n1 c1] 25)).alloc (.cells #[.slice (some ⟨g2, o2, none⟩) n2 c2] 25)).cell? ⟨w.heap.size + 1, 0, none⟩ = some (.slice (some ⟨g2, o2, none⟩) n2 c2) := k2
  clear hR1 hR2 k1 k2
  rcases h with ⟨rfl, h⟩ | ⟨rfl, h⟩
  · have hz : min (N : Int) (n2 : Int) = N := by omega
    go_enter Try.func18, Try.ntmps18
    go_wp2_with (go_at_call 37; (with_reducible refine (dot56 (Nat.le_refl _) h HR1 HR2 (by omega)).mono ?_); rintro e w' ⟨r, s, k, rfl, rfl, hr, hs⟩)
    go_ret
    exact CR.mk hr.out hs.out (up2 _ _ _ _)
  · have hz : (N : Int) < (n1 : Int) := by omega
    go_enter Try.func18, Try.ntmps18
    go_wp2_with (go_at_call 37; (with_reducible refine (dot56 (Nat.le_of_lt h) (Nat.le_refl _) HR1 HR2 (by omega)).mono ?_); rintro e w' ⟨r, s, k, rfl, rfl, hr, hs⟩)
    go_ret
    exact CR.mk hr.out hs.out (up2 _ _ _ _)
end Go.Proofs.Ytjnggbpifclpcab
