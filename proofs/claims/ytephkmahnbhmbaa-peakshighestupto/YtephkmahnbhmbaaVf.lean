/- Of the highest cells no two are neighbours. No program. -/
import Derived.Test.YtephkmahnbhmbaaVd
import Derived.Test.YtephkmahnbhmbaaNa
namespace Go.Proofs.Ytephkmahnbhmbaa
open Go.Fl Go.Sort

theorem pos_num {v : Nat} (h : gtF (ab v) (ab 0) = true) : isN v = false := by
  cases e : isN v with
  | false => rfl
  | true => rw [ab_none e] at h; cases h
/-- What it is to be highest. -/
theorem topB_iff {D : Nat → Array Nat} {n G b g : Nat} (hb : b < n) (hg : g < G) : topB D n G b g = true ↔ gtF (ab (D b)[g]!) (ab 0) = true ∧ ∀ x y : Nat, x < n → y < G → Nx n x y b g → btF (D x)[y]! (D b)[g]! x y b g = false := by
  unfold topB outF
  rw [Bool.and_eq_true, Bool.not_eq_true', List.any_eq_false]
  refine and_congr_right fun _ => ⟨fun h x y hx hy hN => ?_, fun h c hc => ?_⟩
  · have := h ((x : Int), (y : Int)) ((mem_nbL (by omega) (by omega) (by omega) (by omega)).2 ⟨by omega, by omega, by omega, by omega, hN⟩)
    simpa [btC] using this
  · obtain ⟨c1, c2⟩ := c
    obtain ⟨x0, x1, y0, y1, hN⟩ := (mem_nbL (n := n) (last := (G : Int) - 1) (b := b) (g := g) (by omega) (by omega) (by omega) (by omega)).1 hc
    obtain ⟨x, rfl⟩ := Int.eq_ofNat_of_zero_le x0
    obtain ⟨y, rfl⟩ := Int.eq_ofNat_of_zero_le y0
    have := h x y (by omega) (by omega) hN
    simpa [btC] using this
theorem Nx.symm {n a b x y : Int} (h : Nx n a b x y) : Nx n x y a b := by unfold Nx at *; omega
theorem ordC_lt {x y b g : Int} : ordC x y b g < 0 ↔ x < b ∨ x = b ∧ y < g := by
  unfold ordC orI cmpI
  (repeat' split) <;> omega
theorem btF_lin {d pw : Nat} {x y b g : Int} (hd : isN d = false) (hp : isN pw = false) : btF d pw x y b g = true ↔ lin pw < lin d ∨ lin d = lin pw ∧ (x < b ∨ x = b ∧ y < g) := by
  unfold btF
  rw [ab_some hd, ab_some hp, gtF_lin hd hp, eqF_lin hd hp]
  simp only [Bool.or_eq_true, Bool.and_eq_true, decide_eq_true_eq, ordC_lt]
/-- No two of the highest are neighbours. -/
theorem top_apart {D : Nat → Array Nat} {n G b g x y : Nat} (hb : b < n) (hg : g < G) (hx : x < n) (hy : y < G) (h1 : topB D n G b g = true) (h2 : topB D n G x y = true) : ¬ Nx n x y b g := by
  intro hN
  obtain ⟨p1, q1⟩ := (topB_iff hb hg).1 h1
  obtain ⟨p2, q2⟩ := (topB_iff hx hy).1 h2
  have r1 := q1 x y hx hy hN
  have r2 := q2 b g hb hg hN.symm
  have n1 := pos_num p1
  have n2 := pos_num p2
  rw [← Bool.not_eq_true, btF_lin n2 n1] at r1
  rw [← Bool.not_eq_true, btF_lin n1 n2] at r2
  unfold Nx at hN
  omega
theorem least {P : Nat → Prop} (h : ∃ k, P k) : ∃ k, P k ∧ ∀ j, j < k → ¬ P j := by
  obtain ⟨k, hk⟩ := h
  induction k using Nat.strongRecOn with
  | ind k ih =>
    by_cases hj : ∃ j, j < k ∧ P j
    · obtain ⟨j, h1, h2⟩ := hj
      exact ih j h1 h2
    · exact ⟨k, hk, fun j h1 h2 => hj ⟨j, h1, h2⟩⟩
/-- The first of the greatest cells is highest. -/
theorem top_greatest {D : Nat → Array Nat} {n G m : Nat} (h0 : 0 < lin m) (hle : ∀ b g, b < n → g < G → isN (D b)[g]! = false → lin (D b)[g]! ≤ lin m) (hex : ∃ b g, b < n ∧ g < G ∧ isN (D b)[g]! = false ∧ lin (D b)[g]! = lin m) : ∃ b g, b < n ∧ g < G ∧ topB D n G b g = true ∧ lin (D b)[g]! = lin m := by
  have hP : ∃ k, ∃ b g, k = b * G + g ∧ b < n ∧ g < G ∧ isN (D b)[g]! = false ∧ lin (D b)[g]! = lin m := by
    obtain ⟨b, g, h⟩ := hex
    exact ⟨_, b, g, rfl, h⟩
  obtain ⟨k, ⟨b, g, rfl, hb, hg, hn, hv⟩, hmin⟩ := least hP
  refine ⟨b, g, hb, hg, (topB_iff hb hg).2 ⟨?_, fun x y hx hy hN => ?_⟩, hv⟩
  · have z : isN 0 = false := by decide +kernel
    have l0 : lin 0 = 0 := by decide +kernel
    rw [ab_some hn, ab_some z, gtF_lin hn z, l0, hv]
    exact decide_eq_true h0
  · cases hd : isN (D x)[y]! with
    | true =>
      unfold btF
      rw [ab_none hd, ab_some hn]; rfl
    | false =>
      rw [← Bool.not_eq_true, btF_lin hd hn]
      rintro (h | ⟨h1, h2⟩)
      · have := hle x y hx hy hd
        omega
      · refine hmin (x * G + y) ?_ ⟨x, y, rfl, hx, hy, hd, by omega⟩
        rcases h2 with h2 | ⟨h2, h3⟩
        · have e : (x + 1) * G ≤ b * G := Nat.mul_le_mul_right _ (by omega)
          rw [Nat.add_mul] at e
          omega
        · have : x = b := by omega
          subst this
          omega
end Go.Proofs.Ytephkmahnbhmbaa
