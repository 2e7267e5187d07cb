/- The product of two rows, the sum by halves. -/
import Derived.Test.YtfifdngcdknbbaaI
namespace Go.Proofs.Ytfifdngcdknbbaa
open Go.ChangeShapes Go.WideShapes Go.ChangeAt Go.RowKit Go.Fl Go.Sort
attribute [local go_sem] run_store_float run_store_complex call12 call32 run_neg fold_eq fold_ne fold_lt fold_gt abs_eq

theorem two_boxes (w : World) (u v : Value) (s t : TypeId) (k : Nat) : (((w.alloc (.cells #[u] s)).alloc (.cells #[v] t)).drewN k).cell? ⟨w.heap.size, 0, none⟩ = some u ∧ (((w.alloc (.cells #[u] s)).alloc (.cells #[v] t)).drewN k).cell? ⟨w.heap.size + 1, 0, none⟩ = some v := by
  constructor
  · have h : ((w.alloc (.cells #[u] s)).alloc (.cells #[v] t)).heap[w.heap.size]? = some (.cells #[u] s) := by
      rw [Below.heap_alloc (w.alloc (.cells #[u] s)) _ w.heap.size (by simp)]; exact heap_alloc_last _ _
    show ((w.alloc (.cells #[u] s)).alloc (.cells #[v] t)).cell? _ = _
    rw [cell_of_row _ _ _ _ _ _ h]; rfl
  · have h : ((w.alloc (.cells #[u] s)).alloc (.cells #[v] t)).heap[w.heap.size + 1]? = some (.cells #[v] t) := by
      have := heap_alloc_last (w.alloc (.cells #[u] s)) (.cells #[v] t)
      simpa using this
    show ((w.alloc (.cells #[u] s)).alloc (.cells #[v] t)).cell? _ = _
    rw [cell_of_row _ _ _ _ _ _ h]; rfl
theorem up2 (w : World) (o1 o2 : Obj) (k : Nat) : Up w (((w.alloc o1).alloc o2).drewN k) := ((Up.alloc _ _).trans (Up.alloc _ _)).trans (Up.drewN _ _)
theorem dot40 {w : World} {g1 o1 c1 g2 o2 c2 N : Nat} {c d : Array (Nat × Nat)} (h1 : c.size = N) (h2 : d.size = N) (HR1 : Hid (Reads2 w g1 o1 c)) (HR2 : Hid (Reads2 w g2 o2 d)) (hn : N < 4611686018427387904) :
    Calls Try.prog 38 #[.int .i64 N, .func (.func 40) #[] #[.pointer (some ⟨w.heap.size, 0, none⟩), .pointer (some ⟨w.heap.size + 1, 0, none⟩)]] ((w.alloc (.cells #[.slice (some ⟨g1, o1, none⟩) N c1] 41)).alloc (.cells #[.slice (some ⟨g2, o2, none⟩) N c2] 41))
      (CR ((w.alloc (.cells #[.slice (some ⟨g1, o1, none⟩) N c1] 41)).alloc (.cells #[.slice (some ⟨g2, o2, none⟩) N c2] 41)) (sumN (dotR c d) N) (sumN (dotI c d) N)) := by
  refine t38 40 N _ (dotR c d) (dotI c d) _ hn eg40 fun i hi k => ?_
  obtain ⟨k1, k2⟩ := two_boxes w (.slice (some ⟨g1, o1, none⟩) N c1) (.slice (some ⟨g2, o2, none⟩) N c2) 41 41 k
  exact t40 w.heap.size (w.heap.size + 1) g1 o1 c1 g2 o2 c2 i c d _ ⟨by rw [h1]; exact k1, HR1.out.up (up2 _ _ _ _)⟩ ⟨by rw [h2]; exact k2, HR2.out.up (up2 _ _ _ _)⟩ (by omega) (by omega)
theorem t21 (g1 o1 c1 g2 o2 c2 N : Nat) (c d : Array (Nat × Nat)) (w : World) (h1 : c.size = N) (h2 : d.size = N) (hR1 : Reads2 w g1 o1 c) (hR2 : Reads2 w g2 o2 d) (hn : N < 4611686018427387904) :
    Calls Try.prog 21 #[.slice (some ⟨g1, o1, none⟩) N c1, .slice (some ⟨g2, o2, none⟩) N c2] w (CU w (sumN (dotR c d) N) (sumN (dotI c d) N)) := by
  have HR1 : Hid (Reads2 w g1 o1 c) := hR1
  have HR2 : Hid (Reads2 w g2 o2 d) := hR2
  obtain ⟨k1, k2⟩ := two_boxes w (.slice (some ⟨g1, o1, none⟩) N c1) (.slice (some ⟨g2, o2, none⟩) N c2) 41 41 0
  have k1' : ((w.alloc (.cells #[.slice (some ⟨g1, o1, none⟩) N c1] 41)).alloc (.cells #[.slice (some ⟨g2, o2, none⟩) N c2] 41)).cell? ⟨w.heap.size, 0, none⟩ = some (.slice (some ⟨g1, o1, none⟩) N c1) := k1
  have k2' : ((w.alloc (.cells #[.slice (some ⟨g1, o1, none⟩) N c1] 41)).alloc (.cells #[.slice (some ⟨g2, o2, none⟩) N c2] 41)).cell? ⟨w.heap.size + 1, 0, none⟩ = some (.slice (some ⟨g2, o2, none⟩) N c2) := k2
  have HZ1 : Hid _ := h1
  have HZ2 : Hid _ := h2
  clear hR1 hR2 k1 k2 h1 h2
  go_enter Try.func21, Try.ntmps21
  go_wp2_with (go_at_call 38; (with_reducible refine (dot40 HZ1.out HZ2.out HR1 HR2 hn).mono ?_); rintro e w' ⟨r, s, k, rfl, rfl, hr, hs⟩)
  go_ret
  exact CU.mk hr.out hs.out (up2 _ _ _ _)
theorem dot40e (c : Array Value) (w : World) : Calls Try.prog 38 #[.int .i64 0, .func (.func 40) #[] c] w (CR w (ab 0) (ab 0)) :=
  t38 40 0 _ (fun _ => none) (fun _ => none) _ (by omega) eg40 fun i hi _ => by omega
theorem t21e (p : Option Addr) (c1 c2 : Nat) (w : World) : Calls Try.prog 21 #[.slice p 1 c1, .slice none 0 c2] w (CU w (ab 0) (ab 0)) := by
  obtain ⟨k1, k2⟩ := two_boxes w (.slice p 1 c1) (.slice none 0 c2) 41 41 0
  have k1' : ((w.alloc (.cells #[.slice p 1 c1] 41)).alloc (.cells #[.slice none 0 c2] 41)).cell? ⟨w.heap.size, 0, none⟩ = some (.slice p 1 c1) := k1
  have k2' : ((w.alloc (.cells #[.slice p 1 c1] 41)).alloc (.cells #[.slice none 0 c2] 41)).cell? ⟨w.heap.size + 1, 0, none⟩ = some (.slice none 0 c2) := k2
  clear k1 k2
  go_enter Try.func21, Try.ntmps21
  go_wp2_with (go_at_call 38; (with_reducible refine (dot40e _ _).mono ?_); rintro e w' ⟨r, s, k, rfl, rfl, hr, hs⟩)
  go_ret
  exact CU.mk hr.out hs.out (up2 _ _ _ _)

/-- The sum by halves of n numbers from a on. -/
def halv (F : Nat → Option Nat) : Nat → Nat → Nat → Option Nat
  | 0, _, _ => none
  | k + 1, a, n => if n = 1 then F a else bin .add (halv F k a (n / 2)) (halv F k (a + n / 2) (n - n / 2))
theorem CR.mkD {w w' : World} {c s : Option Nat} {r i n : Nat} (hw : w' = w.drew.drewN n) (h1 : ab r = c) (h2 : ab i = s) : CR w c s (.returned (.complex .f64 r i)) w' := ⟨r, i, 1 + n, rfl, by rw [hw, ← World.drewN_drewN]; rfl, h1, h2⟩
def Hv (k : Nat) : Prop := ∀ (blk off cap a n : Nat) (d : Array (Nat × Nat)) (w : World), Reads2 w blk off d → 0 < n → a + n ≤ d.size → n ≤ cap → n ≤ k → d.size < 4611686018427387904 → Calls Try.prog 20 #[.slice (some ⟨blk, off + a, none⟩) n cap] w (CR w (halv (reF d) k a n) (halv (imF d) k a n))
theorem t20one (k blk off cap a : Nat) (d : Array (Nat × Nat)) (w : World) (hR : Reads2 w blk off d) (ha : a + 1 ≤ d.size) : Calls Try.prog 20 #[.slice (some ⟨blk, off + a, none⟩) 1 cap] w (CR w (halv (reF d) (k + 1) a 1) (halv (imF d) (k + 1) a 1)) := by
  obtain ⟨x, y, hx, hc⟩ : ∃ x y, d[a]! = (x, y) ∧ w.cell? ⟨blk, off + a, none⟩ = some (.complex .f64 x y) := ⟨_, _, rfl, hR a (by omega)⟩
  have e1 : halv (reF d) (k + 1) a 1 = ab x := by rw [halv, if_pos rfl, reF, hx]
  have e2 : halv (imF d) (k + 1) a 1 = ab y := by rw [halv, if_pos rfl, imF, hx]
  rw [e1, e2]
  clear e1 e2 hx hR
  go_enter Try.func20, Try.ntmps20
  go_wp2
  go_ret
  exact CR.mk0 rfl rfl
set_option maxHeartbeats 4000000 in
theorem t20two (k : Nat) (IH : Hv k) (blk off cap a n : Nat) (d : Array (Nat × Nat)) (w : World) (hR : Reads2 w blk off d) (hn : 2 ≤ n) (ha : a + n ≤ d.size) (hc : n ≤ cap) (hk : n ≤ k + 1) (hsz : d.size < 4611686018427387904) :
    Calls Try.prog 20 #[.slice (some ⟨blk, off + a, none⟩) n cap] w (CR w (halv (reF d) (k + 1) a n) (halv (imF d) (k + 1) a n)) := by
  obtain ⟨h, hh⟩ : ∃ h, h = n / 2 := ⟨_, rfl⟩
  have eh : (n : Int) / 2 = (h : Int) := by omega
  have h0 : 0 < h := by omega
  have h1 : h < n := by omega
  have h2 : h ≤ cap := by omega
  have HL : Hid (∀ j, Calls Try.prog 20 #[.slice (some ⟨blk, off + a, none⟩) h h] (w.drewN j) (CR (w.drewN j) (halv (reF d) k a h) (halv (imF d) k a h))) := fun j => IH blk off h a h d _ (hR.up (Up.drewN _ _)) h0 (by omega) (Nat.le_refl _) (by omega) hsz
  have HRr : Hid (∀ j, Calls Try.prog 20 #[.slice (some ⟨blk, off + a + h, none⟩) (n - h) (n - h)] (w.drewN j) (CR (w.drewN j) (halv (reF d) k (a + h) (n - h)) (halv (imF d) k (a + h) (n - h)))) := fun j => by
    have := IH blk off (n - h) (a + h) (n - h) d _ (hR.up (Up.drewN w j)) (by omega) (by omega) (Nat.le_refl _) (by omega) hsz
    rwa [← Nat.add_assoc] at this
  have HL0 : Hid (Calls Try.prog 20 #[.slice (some ⟨blk, off + a, none⟩) h h] w.drew (CR w.drew (halv (reF d) k a h) (halv (imF d) k a h))) := HL.out 1
  have HR0 : Hid (Calls Try.prog 20 #[.slice (some ⟨blk, off + a + h, none⟩) (n - h) (n - h)] w.drew (CR w.drew (halv (reF d) k (a + h) (n - h)) (halv (imF d) k (a + h) (n - h)))) := HRr.out 1
  have e1 : Hid (halv (reF d) (k + 1) a n = bin .add (halv (reF d) k a h) (halv (reF d) k (a + h) (n - h))) := by show _ = _; rw [halv, if_neg (by omega), ← hh]
  have e2 : Hid (halv (imF d) (k + 1) a n = bin .add (halv (imF d) k a h) (halv (imF d) k (a + h) (n - h))) := by show _ = _; rw [halv, if_neg (by omega), ← hh]
  have n0 : ¬ n = 0 := by omega
  have n1 : ¬ n = 1 := by omega
  have n0' : ((n : Int) == 0) = false := by rw [beq_eq_false_iff_ne]; omega
  have n1' : ((n : Int) == 1) = false := by rw [beq_eq_false_iff_ne]; omega
  have nh : ¬ n - h = 0 := by omega
  have nh2 : (n : Int) - (h : Int) = ((n - h : Nat) : Int) := by omega
  clear IH hR hh
  go_enter Try.func20, Try.ntmps20
  go_wp2_with fail
  go_region_with (first
    | (go_at_call 20; (with_reducible refine (HL.out _).mono ?_); rintro e w' ⟨r1, s1, k1, rfl, rfl, hr1, hs1⟩)
    | (go_at_call 20; (with_reducible refine (HRr.out _).mono ?_); rintro e w' ⟨r2, s2, k2, rfl, rfl, hr2, hs2⟩)
    | (go_at_call 20; (with_reducible refine HL0.out.mono ?_); rintro e w' ⟨r1, s1, k1, rfl, rfl, hr1, hs1⟩)
    | (go_at_call 20; (with_reducible refine HR0.out.mono ?_); rintro e w' ⟨r2, s2, k2, rfl, rfl, hr2, hs2⟩)
    | ((with_reducible refine upon_cadd ?_); intro r3 s3 k3 hr3 hs3))
  all_goals go_wp2
  all_goals go_ret
  all_goals (first | refine CR.mkN ?_ ?_ | refine CR.mkD (by simp only [World.drewN_drewN]; rfl) ?_ ?_) <;> (first | (rw [e1.out, ← hr1.out, ← hr2.out, ← hr3.out]) | (rw [e2.out, ← hs1.out, ← hs2.out, ← hs3.out]))

theorem hv_all : ∀ k, Hv k
  | 0 => fun _ _ _ _ _ _ _ _ _ _ _ _ _ => by omega
  | k + 1 => by
    intro blk off cap a n d w hR h0 ha hc hk hsz
    by_cases h1 : n = 1
    · subst h1; exact t20one k blk off cap a d w hR ha
    · exact t20two k (hv_all k) blk off cap a n d w hR (by omega) ha hc hk hsz
theorem t20 (blk off cap : Nat) (d : Array (Nat × Nat)) (w : World) (hR : Reads2 w blk off d) (hp : 0 < d.size) (hc : d.size ≤ cap) (hsz : d.size < 4611686018427387904) : Calls Try.prog 20 #[.slice (some ⟨blk, off, none⟩) d.size cap] w (CR w (halv (reF d) d.size 0 d.size) (halv (imF d) d.size 0 d.size)) :=
  hv_all d.size blk off cap 0 d.size d w hR hp (by omega) hc (Nat.le_refl _) hsz
end Go.Proofs.Ytfifdngcdknbbaa
