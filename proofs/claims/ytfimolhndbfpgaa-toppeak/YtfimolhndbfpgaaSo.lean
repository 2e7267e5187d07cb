/- A pulse against itself: Own. -/
import Derived.Test.YtfimolhndbfpgaaSd
namespace Go.Proofs.Ytfimolhndbfpgaa
open Go.ChangeShapes Go.WideShapes Go.ChangeAt Go.RowKit Go.Fl Ieee
attribute [local go_sem] run_store_float run_store_complex call29 call28 run_neg fold_eq fold_ne fold_lt fold_gt abs_eq

/-- A row that is filled at some places. -/
structure FillP (w0 w : World) (g n : Nat) (F : Nat → Option Nat × Option Nat) (S : Nat → Prop) : Prop where
  row : ∃ d : List (Nat × Nat), d.length = n ∧ CRow w0.heap.size w (.slice (some ⟨g, 0, none⟩) n n) d ∧ ∀ j, j < n → S j → ab2 d[j]! = F j
  below : Up w0 w
theorem FillP.new {w w' : World} {n : Nat} (F : Nat → Option Nat × Option Nat) {S : Nat → Prop} (hS : ∀ j, j < n → ¬ S j) (h : w'.ownsRow w.heap.size 28 1 (.slice (some ⟨w.heap.size, 0, none⟩) n n) n (madeCells (Value.complex .f64 0 0).cells (n * 1)).toList) (hg : w.grownBy w' none) : FillP w w' w.heap.size n F S := by
  obtain ⟨⟨d, h1, h2, h3⟩, h4⟩ := Fill.new F h hg
  exact ⟨⟨d, h1, h2, fun j hj hs => absurd hs (hS j hj)⟩, h4⟩
theorem FillP.up {w0 w w' : World} {g n : Nat} {F : Nat → Option Nat × Option Nat} {S : Nat → Prop} (h : FillP w0 w g n F S) (hu : Up w w') : FillP w0 w' g n F S := by
  obtain ⟨⟨d, h1, h2, h3⟩, h4⟩ := h
  exact ⟨⟨d, h1, h2.up hu, h3⟩, h4.trans hu⟩
theorem FillP.cell {w0 w : World} {g n : Nat} {F : Nat → Option Nat × Option Nat} {S : Nat → Prop} (h : FillP w0 w g n F S) {i : Nat} (hi : i < n) : (∃ x y, w.cell? ⟨g, i, none⟩ = some (.complex .f64 x y)) ∧ w.frozen? ⟨g, i, none⟩ = false := by
  obtain ⟨⟨d, rfl, h2, h3⟩, h4⟩ := h
  exact ⟨⟨_, _, h2.cell hi⟩, World.ownsRow.frozenAt h2 i⟩
theorem FillP.stored {w0 w : World} {g n k r s : Nat} {F : Nat → Option Nat × Option Nat} {S S' : Nat → Prop} (h : FillP w0 w g n F S) (hS : ∀ j, j < n → S' j → j = k ∨ S j) (hr : ab r = (F k).1) (hs : ab s = (F k).2) : FillP w0 (w.setCell ⟨g, k, none⟩ (.complex .f64 r s)) g n F S' := by
  obtain ⟨⟨d, rfl, h2, h3⟩, h4⟩ := h
  obtain ⟨s1, s2⟩ := World.ownsRow.stored h2 k (.complex .f64 r s)
  refine ⟨⟨d.set k (r, s), by simp, ?_, ?_⟩, Below.grown h4 s2 h4.size (fun j hj => (World.ownsRow.lt h2 j (by simpa [Value.ownBlock] using hj)).1)⟩
  · unfold CRow
    rw [List.length_set, List.map_set]
    exact s1
  · intro j hj hsj
    rw [getElem!_pos _ j (by simpa using hj), List.getElem_set]
    split
    · rename_i e; subst e; exact Prod.ext hr hs
    · rename_i e
      rw [← getElem!_pos d j hj]
      rcases hS j hj hsj with h | h
      · exact absurd h.symm e
      · exact h3 j hj h

/-- What Own holds at a place. -/
def ownF (f : Nat → Nat × Nat) (n p : Nat) : Option Nat × Option Nat :=
  if p + 1 < n then (sumN (dotR f fun i => f (i + (n - 1 - p))) (n - (n - 1 - p)), sumN (dotI f fun i => f (i + (n - 1 - p))) (n - (n - 1 - p)))
  else (sumN (dotR (fun i => f (i + (p - (n - 1)))) f) (n - (p - (n - 1))), sumN (dotI (fun i => f (i + (p - (n - 1)))) f) (n - (p - (n - 1))))
/-- What Own leaves. -/
def OL (w : World) (f : Nat → Nat × Nat) (n : Nat) (e : Ending) (w' : World) : Prop := ∃ v d, e = .returned v ∧ Hid (CRow w.heap.size w' v d) ∧ Hid (Up w w') ∧ Hid (d.length = 2 * n - 1 ∧ ∀ j, j < 2 * n - 1 → ab2 d[j]! = ownF f n j)
theorem RD.drop {w : World} {blk off n : Nat} {f : Nat → Nat × Nat} (h : RD w blk off n f) (d : Nat) : RD w blk (off + d) (n - d) (fun i => f (i + d)) := fun j hj => by
  have := h (j + d) (by omega)
  rw [show off + d + j = off + (j + d) by omega]; exact this
theorem own_low {f : Nat → Nat × Nat} {n d p : Nat} (h0 : 0 < d) (hp : p + d + 1 = n) : ownF f n p = (sumN (dotR f fun i => f (i + d)) (n - d), sumN (dotI f fun i => f (i + d)) (n - d)) := by
  have e : n - 1 - p = d := by omega
  unfold ownF
  rw [if_pos (by omega), e]
theorem own_high {f : Nat → Nat × Nat} {n d p : Nat} (hd : d < n) (hp : p + 1 = n + d) : ownF f n p = (sumN (dotR (fun i => f (i + d)) f) (n - d), sumN (dotI (fun i => f (i + d)) f) (n - d)) := by
  have e : p - (n - 1) = d := by omega
  unfold ownF
  rw [if_neg (by omega), e]
theorem own_low0 {f : Nat → Nat × Nat} {n d p : Nat} (hd : d < n) (hp : p + d + 1 = n) : ownF f n p = (sumN (dotR f fun i => f (i + d)) (n - d), sumN (dotI f fun i => f (i + d)) (n - d)) := by
  rcases Nat.eq_zero_or_pos d with rfl | h0
  · exact own_high (by omega) (by omega)
  · exact own_low h0 hp
theorem dotLow {g off n cap cap' d : Nat} {f : Nat → Nat × Nat} {w : World} (hR : RD w g off n f) (hd : d < n) (hn : n ≤ 4096) : Calls Try.prog 38 #[.slice (some ⟨g, off, none⟩) n cap, .slice (some ⟨g, off + d, none⟩) (n - d) cap'] w (CR w (sumN (dotR f fun i => f (i + d)) (n - d)) (sumN (dotI f fun i => f (i + d)) (n - d))) :=
  t38 g off n cap g (off + d) (n - d) cap' (n - d) f _ w (by omega) hR (hR.drop d) (by omega)
theorem dotHigh {g off n cap cap' d : Nat} {f : Nat → Nat × Nat} {w : World} (hR : RD w g off n f) (hd : d < n) (hn : n ≤ 4096) : Calls Try.prog 38 #[.slice (some ⟨g, off + d, none⟩) (n - d) cap', .slice (some ⟨g, off, none⟩) n cap] w (CR w (sumN (dotR (fun i => f (i + d)) f) (n - d)) (sumN (dotI (fun i => f (i + d)) f) (n - d))) :=
  t38 g (off + d) (n - d) cap' g off n cap (n - d) _ f w (by omega) (hR.drop d) hR (by omega)
set_option maxHeartbeats 2000000 in
theorem t19 (g off n cap : Nat) (f : Nat → Nat × Nat) (w : World) (hR : RD w g off n f) (h1 : 1 ≤ n) (h2 : n ≤ 4096) (hcap : n ≤ cap) : Calls Try.prog 19 #[.slice (some ⟨g, off, none⟩) n cap] w (OL w f n) := by
  obtain ⟨i0, hi, hz0, hz1, hz2⟩ := info_parts info26
  have HR : Hid (RD w g off n f) := hR
  clear hR
  obtain ⟨M, hM⟩ : ∃ M, M = 2 * n - 1 := ⟨_, rfl⟩
  have eM : 2 * (n : Int) - 1 = M := by omega
  have HM : Hid (M = 2 * n - 1) := hM
  clear hM
  have hn0 : ((n : Int) == 0) = false := by rw [beq_eq_false_iff_ne]; omega
  go_enter Try.func19, Try.ntmps19
  go_wp2_with (refine wpList_make_full _ rfl _ _ 27 rfl w.heap.size 28 i0 (.complex .f64 0 0) 1 Try.underlying27 hi hz0 hz1 .i64 .i64 _ _ M rfl rfl rfl rfl (by rw [hz2]; omega) (by unfold maxLen; omega) (Nat.le_refl _) ?_; intro w1 hown hgr; have HF : Hid (FillP w w1 w.heap.size M (ownF f n) (fun j => n ≤ j + 0 ∧ j + 1 < n + 0)) := FillP.new _ (fun j hj h => by omega) hown hgr; clear hown hgr)
  go_loopw [5, 19] (fun _ vi wr => ∃ d : Nat, d ≤ n ∧ vi = .int .i64 d ∧ Hid (FillP w wr w.heap.size M (ownF f n) (fun j => n ≤ j + d ∧ j + 1 < n + d))) (fun _ vi _ => n - (intOf vi).toNat)
  case atStart => exact ⟨0, by omega, rfl, HF⟩
  case round =>
    clear HF
    obtain ⟨d, hd, rfl, HF⟩ := hrel
    by_cases hlt : d < n
    · have hM := HM.out
      obtain ⟨p1, hp1⟩ : ∃ p1, p1 + d + 1 = n := ⟨n - 1 - d, by omega⟩
      obtain ⟨p2, hp2⟩ : ∃ p2, p2 + 1 = n + d := ⟨n - 1 + d, by omega⟩
      have e1 : (n : Int) - 1 - d = p1 := by omega
      have e2 : (n : Int) - 1 + d = p2 := by omega
      have z1 : (p1 : Int) < (M : Int) := by omega
      have z2 : (p2 : Int) < (M : Int) := by omega
      have z3 : (d : Int) < (n : Int) := by omega
      have y1 : p1 < M := by omega
      have y2 : p2 < M := by omega
      have HP1 : Hid (p1 + d + 1 = n) := hp1
      have HP2 : Hid (p2 + 1 = n + d) := hp2
      clear hM hp1 hp2
      have HRr : Hid (RD wr g off n f) := HR.out.up HF.out.below
      go_wp2_with (first
        | (go_at_call 38; (with_reducible refine (dotLow HRr.out hlt h2).mono ?_); rintro e w2 ⟨r1, s1, rfl, hr1, hs1, hu1⟩
           have HF2 : Hid (FillP w w2 w.heap.size M (ownF f n) (fun j => n ≤ j + d ∧ j + 1 < n + d)) := HF.out.up hu1
           obtain ⟨⟨x0, y0, hcell⟩, hfr⟩ := HF2.out.cell y1
           have HF3 : Hid (FillP w (w2.setCell ⟨w.heap.size, p1, none⟩ (.complex .f64 r1 s1)) w.heap.size M (ownF f n) (fun j => j = p1 ∨ n ≤ j + d ∧ j + 1 < n + d)) := HF2.out.stored (fun j _ h => h) (by rw [own_low0 hlt HP1.out]; exact hr1.out) (by rw [own_low0 hlt HP1.out]; exact hs1.out)
           have HR3 : Hid (RD (w2.setCell ⟨w.heap.size, p1, none⟩ (.complex .f64 r1 s1)) g off n f) := HR.out.up HF3.out.below
           clear HF hu1)
        | (go_at_call 38; (with_reducible refine (dotHigh HR3.out hlt h2).mono ?_); rintro e w3 ⟨r2, s2, rfl, hr2, hs2, hu2⟩
           have HF4 : Hid (FillP w w3 w.heap.size M (ownF f n) (fun j => j = p1 ∨ n ≤ j + d ∧ j + 1 < n + d)) := HF3.out.up hu2
           obtain ⟨⟨x1, y1, hcell1⟩, hfr1⟩ := HF4.out.cell y2
           have HF5 : Hid (FillP w (w3.setCell ⟨w.heap.size, p2, none⟩ (.complex .f64 r2 s2)) w.heap.size M (ownF f n) (fun j => n ≤ j + (d + 1) ∧ j + 1 < n + (d + 1))) := HF4.out.stored (fun j _ h => by have a1 := HP1.out; have a2 := HP2.out; omega) (by rw [own_high hlt HP2.out]; exact hr2.out) (by rw [own_high hlt HP2.out]; exact hs2.out)
           clear HF3 HF4 hu2))
      go_roundw
      case rel => exact ⟨d + 1, by omega, by go_num, HF5⟩
      case measure => simp [intOf]; omega
    · obtain rfl : n = d := by omega
      go_wp2
      go_ret
      have hM := HM.out
      obtain ⟨⟨dd, g1, g2, g3⟩, g4⟩ := HF.out
      have g2' : CRow w.heap.size wr (.slice (some ⟨w.heap.size, 0, none⟩) M M) dd := g2
      refine ⟨_, dd, rfl, g2', g4, ?_, fun j hj => g3 j (by omega) (by omega)⟩
      rw [g1, hM]
end Go.Proofs.Ytfimolhndbfpgaa
