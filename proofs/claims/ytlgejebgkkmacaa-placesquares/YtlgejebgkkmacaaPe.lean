/- The document's Abs. -/
import Derived.Test.YtlgejebgkkmacaaPd
namespace Go.Proofs.Ytlgejebgkkmacaa
open Go.ChangeShapes Go.WideShapes Go.ChangeAt Go.RowKit Go.Fl Ieee
attribute [local go_sem] run_store_float run_store_complex call39 call50 run_neg fold_eq fold_ne fold_lt fold_gt abs_eq

theorem t58 (x : Nat) (w : World) : Calls Try.prog 58 #[.float .f64 x] w (BR (gtF (ab x) (ab 9218868437227405311) || ltF (ab x) (ab 18442240474082181119)) w) := by
  go_enter Try.func58, Try.ntmps58
  go_wp2
  all_goals (go_ret; go_tidy; refine ⟨?_, rfl⟩; simp_all)
theorem abs_not_low (x : Nat) : ltF (ab (abs x)) (ab 18442240474082181119) = false := by
  rw [show ab 18442240474082181119 = some 18442240474082181119 by decide +kernel]
  unfold ab
  split
  · rfl
  · rename_i h
    have h1 : isN (abs x) = false := by simpa using h
    have h2 : isN 18442240474082181119 = false := by decide +kernel
    rw [ltF_lin h1 h2]
    have l1 : 0 ≤ lin (abs x) := by
      have hlt : abs x < 2 ^ 63 := by unfold abs; omega
      unfold lin sgn
      have : (abs x / 2 ^ 63 % 2 == 1) = false := by
        rw [Nat.div_eq_of_lt hlt]; rfl
      rw [this]
      simp
      omega
    have l2 : lin 18442240474082181119 < 0 := by decide +kernel
    simp; omega
theorem t58a {x : Nat} {b : Bool} (h : infF (ab x) = b) (w : World) : Calls Try.prog 58 #[.float .f64 (abs x)] w (BR b w) := by
  have := t58 (abs x) w
  rw [abs_not_low, Bool.or_false, ab_abs] at this
  unfold infF at h
  rw [h] at this
  exact this
theorem abs_pos (x : Nat) : (FloatKind.f64.decode (abs x)).neg = false := by
  show (double.read (abs x)).neg = false
  have hlt : abs x < 2 ^ 63 := by unfold abs; omega
  have e : (abs x / double.signWeight % 2 == 1) = false := by
    rw [show double.signWeight = 2 ^ 63 from rfl, Nat.div_eq_of_lt hlt]; rfl
  unfold Format.read
  simp only [e]
  (repeat' split) <;> rfl
/-- The greater, the lesser of two magnitudes. -/
theorem max_abs {P : Program} {x y : Nat} (hx : isN x = false) (hy : isN y = false) : ∀ (ts : Array TypeId) (t : TypeId) (w : World), (Builtin.max_ ts t #[.float .f64 (abs x), .float .f64 (abs y)]).run P w = .ok (.float .f64 (if ltF (ab (abs x)) (ab (abs y)) then abs y else abs x)) w := by
  intro ts t w
  have nx : isN (abs x) = false := by rw [isN_abs]; exact hx
  have ny : isN (abs y) = false := by rw [isN_abs]; exact hy
  have ho := order_ab (abs x) (abs y)
  have hd := abs_pos x
  unfold ltF
  rw [← ho]
  cases hq : FloatKind.f64.format.order (abs x) (abs y) with
  | none => rw [ho, ab_some nx, ab_some ny, ord_lin nx ny] at hq; cases hq
  | some o => cases o <;> simp [Builtin.max_, Builtin.max2, hq, hd]
theorem min_abs {P : Program} {x y : Nat} (hx : isN x = false) (hy : isN y = false) : ∀ (ts : Array TypeId) (t : TypeId) (w : World), (Builtin.min_ ts t #[.float .f64 (abs x), .float .f64 (abs y)]).run P w = .ok (.float .f64 (if ltF (ab (abs x)) (ab (abs y)) then abs x else abs y)) w := by
  intro ts t w
  have nx : isN (abs x) = false := by rw [isN_abs]; exact hx
  have ny : isN (abs y) = false := by rw [isN_abs]; exact hy
  have ho := order_ab (abs x) (abs y)
  have hd := abs_pos x
  unfold ltF
  rw [← ho]
  cases hq : FloatKind.f64.format.order (abs x) (abs y) with
  | none => rw [ho, ab_some nx, ab_some ny, ord_lin nx ny] at hq; cases hq
  | some o => cases o <;> simp [Builtin.min_, Builtin.min2, hq, hd]
theorem nan_abs (x : Nat) : eqF (ab (abs x)) (ab (abs x)) = eqF (ab x) (ab x) := by rw [eqF_self, eqF_self, isN_abs]
set_option maxHeartbeats 2000000 in
theorem t34 (a b : Nat) (w : World) : Calls Try.prog 34 #[.agg #[.float .f64 a, .float .f64 b]] w (FU w (absF (ab a) (ab b))) := by
  cases i1 : infF (ab a)
  · cases i2 : infF (ab b)
    · cases n1 : nanF (ab a)
      · cases n2 : nanF (ab b)
        · have hk : kindF (ab a) (ab b) = 0 := by unfold kindF; rw [i1, i2, n1, n2]; rfl
          have m1 : isN a = false := by unfold nanF at n1; rw [eqF_self] at n1; simpa using n1
          have m2 : isN b = false := by unfold nanF at n2; rw [eqF_self] at n2; simpa using n2
          have q1 : eqF (ab (abs a)) (ab (abs a)) = true := by rw [nan_abs, eqF_self, m1]; rfl
          have q2 : eqF (ab (abs b)) (ab (abs b)) = true := by rw [nan_abs, eqF_self, m2]; rfl
          have hmax := max_abs (P := Try.prog) m1 m2
          have hmin := min_abs (P := Try.prog) m1 m2
          replace i1 : Hid _ := i1
          replace i2 : Hid _ := i2
          clear n1 n2 m1 m2
          unfold absF
          rw [hk, if_neg (by decide), if_neg (by decide), ← ab_abs, ← ab_abs]
          clear hk
          cases hl : ltF (ab (abs a)) (ab (abs b)) <;> simp only [hl, Bool.false_eq_true, if_false, if_true] at hmax hmin ⊢
          all_goals
            clear hl
            go_enter Try.func34, Try.ntmps34
            go_wp2_with (first
              | ((with_reducible refine upon_fl (by simp) ?_); intro r n hr)
              | (go_at_call 25; (with_reducible refine (t25 _ _).mono ?_); rintro e w' ⟨rfl, rfl⟩)
              | (go_at_call 58; (with_reducible refine (t58a i1.out _).mono ?_); rintro e w' ⟨rfl, rfl⟩)
              | (go_at_call 58; (with_reducible refine (t58a i2.out _).mono ?_); rintro e w' ⟨rfl, rfl⟩)
              | (go_at_call 54; (with_reducible refine (t54 _).mono ?_); rintro e w' ⟨rfl, rfl⟩)
              | (go_at_call 27; (with_reducible refine (t27 _).mono ?_); rintro e w' ⟨rfl, rfl⟩)
              | (go_at_call 55; (with_reducible refine (t55 _ _).mono ?_); rintro e w' ⟨r, n, rfl, rfl, hr⟩))
            all_goals (go_ret; go_tidy; refine FU.mk ?_ (by first | exact Up.alloc _ _ | exact up1 _ _ _))
          all_goals simp_all [magF, Hid]
        · have hk : kindF (ab a) (ab b) = 2 := by unfold kindF; rw [i1, i2, n1, n2]; rfl
          have q1 : eqF (ab (abs a)) (ab (abs a)) = true := by rw [nan_abs]; unfold nanF at n1; simpa using n1
          have q2 : eqF (ab (abs b)) (ab (abs b)) = false := by rw [nan_abs]; unfold nanF at n2; simpa using n2
          clear n1 n2
          replace i1 : Hid _ := i1
          replace i2 : Hid _ := i2
          unfold absF
          rw [hk, if_neg (by decide), if_pos rfl]
          clear hk
          go_enter Try.func34, Try.ntmps34
          go_wp2_with (first
            | ((with_reducible refine upon_fl (by simp) ?_); intro r n hr)
            | (go_at_call 25; (with_reducible refine (t25 _ _).mono ?_); rintro e w' ⟨rfl, rfl⟩)
            | (go_at_call 58; (with_reducible refine (t58a i1.out _).mono ?_); rintro e w' ⟨rfl, rfl⟩)
            | (go_at_call 58; (with_reducible refine (t58a i2.out _).mono ?_); rintro e w' ⟨rfl, rfl⟩)
            | (go_at_call 54; (with_reducible refine (t54 _).mono ?_); rintro e w' ⟨rfl, rfl⟩)
            | (go_at_call 27; (with_reducible refine (t27 _).mono ?_); rintro e w' ⟨rfl, rfl⟩)
            | (go_at_call 55; (with_reducible refine (t55 _ _).mono ?_); rintro e w' ⟨r, n, rfl, rfl, hr⟩))
          all_goals (go_ret; go_tidy; refine FU.mk ?_ (by first | exact Up.alloc _ _ | exact up1 _ _ _))
          all_goals rfl
      · have hk : kindF (ab a) (ab b) = 2 := by unfold kindF; rw [i1, i2, n1]; rfl
        have q1 : eqF (ab (abs a)) (ab (abs a)) = false := by rw [nan_abs]; unfold nanF at n1; simpa using n1
        clear n1
        replace i1 : Hid _ := i1
        replace i2 : Hid _ := i2
        unfold absF
        rw [hk, if_neg (by decide), if_pos rfl]
        clear hk
        go_enter Try.func34, Try.ntmps34
        go_wp2_with (first
          | ((with_reducible refine upon_fl (by simp) ?_); intro r n hr)
          | (go_at_call 25; (with_reducible refine (t25 _ _).mono ?_); rintro e w' ⟨rfl, rfl⟩)
          | (go_at_call 58; (with_reducible refine (t58a i1.out _).mono ?_); rintro e w' ⟨rfl, rfl⟩)
          | (go_at_call 58; (with_reducible refine (t58a i2.out _).mono ?_); rintro e w' ⟨rfl, rfl⟩)
          | (go_at_call 54; (with_reducible refine (t54 _).mono ?_); rintro e w' ⟨rfl, rfl⟩)
          | (go_at_call 27; (with_reducible refine (t27 _).mono ?_); rintro e w' ⟨rfl, rfl⟩)
          | (go_at_call 55; (with_reducible refine (t55 _ _).mono ?_); rintro e w' ⟨r, n, rfl, rfl, hr⟩))
        all_goals (go_ret; go_tidy; refine FU.mk ?_ (by first | exact Up.alloc _ _ | exact up1 _ _ _))
        all_goals rfl
    · have hk : kindF (ab a) (ab b) = 1 := by unfold kindF; rw [i1, i2]; rfl
      replace i1 : Hid _ := i1
      replace i2 : Hid _ := i2
      unfold absF
      rw [hk, if_pos rfl]
      clear hk
      go_enter Try.func34, Try.ntmps34
      go_wp2_with (first
        | ((with_reducible refine upon_fl (by simp) ?_); intro r n hr)
        | (go_at_call 25; (with_reducible refine (t25 _ _).mono ?_); rintro e w' ⟨rfl, rfl⟩)
        | (go_at_call 58; (with_reducible refine (t58a i1.out _).mono ?_); rintro e w' ⟨rfl, rfl⟩)
        | (go_at_call 58; (with_reducible refine (t58a i2.out _).mono ?_); rintro e w' ⟨rfl, rfl⟩)
        | (go_at_call 54; (with_reducible refine (t54 _).mono ?_); rintro e w' ⟨rfl, rfl⟩)
        | (go_at_call 27; (with_reducible refine (t27 _).mono ?_); rintro e w' ⟨rfl, rfl⟩)
        | (go_at_call 55; (with_reducible refine (t55 _ _).mono ?_); rintro e w' ⟨r, n, rfl, rfl, hr⟩))
      all_goals (go_ret; go_tidy; refine FU.mk ?_ (by first | exact Up.alloc _ _ | exact up1 _ _ _))
      all_goals rfl
  · have hk : kindF (ab a) (ab b) = 1 := by unfold kindF; rw [i1]; rfl
    replace i1 : Hid _ := i1
    have i2 := i1
    unfold absF
    rw [hk, if_pos rfl]
    clear hk
    go_enter Try.func34, Try.ntmps34
    go_wp2_with (first
      | ((with_reducible refine upon_fl (by simp) ?_); intro r n hr)
      | (go_at_call 25; (with_reducible refine (t25 _ _).mono ?_); rintro e w' ⟨rfl, rfl⟩)
      | (go_at_call 58; (with_reducible refine (t58a i1.out _).mono ?_); rintro e w' ⟨rfl, rfl⟩)
      | (go_at_call 58; (with_reducible refine (t58a i2.out _).mono ?_); rintro e w' ⟨rfl, rfl⟩)
      | (go_at_call 54; (with_reducible refine (t54 _).mono ?_); rintro e w' ⟨rfl, rfl⟩)
      | (go_at_call 27; (with_reducible refine (t27 _).mono ?_); rintro e w' ⟨rfl, rfl⟩)
      | (go_at_call 55; (with_reducible refine (t55 _ _).mono ?_); rintro e w' ⟨r, n, rfl, rfl, hr⟩))
    all_goals (go_ret; go_tidy; refine FU.mk ?_ (by first | exact Up.alloc _ _ | exact up1 _ _ _))
    all_goals rfl
end Go.Proofs.Ytlgejebgkkmacaa
