/- The sort by insertion of a part of a row of floats, by the order's function. -/
import Derived.Test.YtfggdaebahdnfaaS
namespace Go.Proofs.Ytfggdaebahdnfaa
open Go.ChangeShapes Go.WideShapes Go.ChangeAt Go.RowKit Go.Fl Go.Sort
attribute [local go_sem] run_store_float call35 call46 run_neg fold_eq fold_ne fold_lt fold_gt abs_eq

abbrev ord29 : Value := .func (.func 78) #[] #[]
/-- Every float of the row is one of 64 bits. -/
def Fit (d : Array Nat) : Prop := ∀ i, i < d.size → d[i]! < 2 ^ 64
theorem swoK : SWO ltK where
  irrefl x := by simp [ltK]
  trans x y z h1 h2 := by simp only [ltK, decide_eq_true_eq] at *; omega
  ntrans x y z h1 h2 := by simp only [ltK, decide_eq_false_iff_not] at *; omega
theorem cmpK_neg (x y : Nat) : cmpK x y < 0 ↔ ltK x y = true := by
  unfold cmpK ltK
  split
  · simp; omega
  · split <;> simp <;> omega
theorem Fit.perm {d d' : Array Nat} (h : Fit d) {a b : Nat} (hb : b ≤ d.size) (hp : PermIn a b d d') : Fit d' := by
  intro i hi
  rw [hp.1] at hi
  by_cases hin : a ≤ i ∧ i < b
  · exact permIn_all d d' a b (fun x => x < 2 ^ 64) hb hp (fun j hj1 hj2 => h j (by omega)) i hin.1 hin.2
  · rw [hp.2.1 i (by omega)]; exact h i hi
theorem cmp29 {x y : Nat} {w : World} (hx : x < 2 ^ 64) (hy : y < 2 ^ 64) (n : Nat) : Calls Try.prog 78 #[.float .f64 x, .float .f64 y] (w.drewN n) fun e w' => e = .returned (.int .i64 (cmpK x y)) ∧ ∃ m, w' = (w.drewN n).drewN m :=
  (t78 x y _ hx hy).mono fun _ _ ⟨he, hw⟩ => ⟨he, 0, hw⟩
theorem fit_at {d d0 : Array Nat} (h : Fit d) (hs : d.size = d0.size) {i x : Nat} (hi : i < d0.size) (hx : d[i]! = x) : x < 2 ^ 64 := by
  rw [← hx]; exact h i (by omega)
theorem fam {w W : World} {blk off n : Nat} {d0 d : Array Nat} (hw : W = (putRow fe w blk off d).drewN n) (hH : Holds fe w blk off d0) (hs : d.size = d0.size) {i x : Nat} (hi : i < d0.size) (hx : d[i]! = x) :
    W.cell? ⟨blk, off + i, none⟩ = some (.float .f64 x) ∧ W.frozen? ⟨blk, off + i, none⟩ = false := by
  rw [hw, ← hx]
  exact holds_putRow fe w blk off d0 d hH hs i (by omega)

set_option maxHeartbeats 2000000 in
theorem t84 (blk off cap a b : Nat) (d : Array Nat) (w : World) (hH : Holds fe w blk off d) (hF : Fit d) (hab : a ≤ b) (hb : b ≤ d.size) (hsz : d.size < 4611686018427387904) :
    Calls Try.prog 84 #[.slice (some ⟨blk, off, none⟩) d.size cap, .int .i64 a, .int .i64 b, ord29] w fun e w' => e = .returned (.tuple #[]) ∧ ∃ n d', w' = (putRow fe w blk off d').drewN n ∧ PermIn a b d d' ∧ SortedIn ltK a b d' := by
  have HH : Hid (Holds fe w blk off d) := hH
  have HST : Hid (w = (putRow fe w blk off d).drewN 0) := (putRow_self fe w blk off d hH).symm
  have HF : Hid (Fit d) := hF
  clear hH hF
  go_enter Try.func84, Try.ntmps84
  go_wp2
  go_loopw [8] (fun vi wr => ∃ (i n : Nat) (dk : Array Nat), vi = .int .i64 i ∧ a < i ∧ (i ≤ b ∨ i = a + 1) ∧ dk.size = d.size ∧ wr = (putRow fe w blk off dk).drewN n ∧ Hid (PermIn a b d dk) ∧ Hid (SortedIn ltK a i dk)) (fun vi _ => b - (intOf vi).toNat)
  case atStart => exact ⟨a + 1, 0, d, by go_num, by omega, by omega, rfl, HST.out, permIn_refl _ _ _, fun p q h1 h2 h3 => by omega⟩
  case round =>
    obtain ⟨i, n, dk, rfl, hai, hib, hs, hw, HP, HS⟩ := hrel
    by_cases hlt : i < b
    · go_wp2
      go_loopw [9] (fun vj wr2 => ∃ (j m : Nat) (dj : Array Nat), vj = .int .i64 j ∧ a ≤ j ∧ j ≤ i ∧ dj.size = d.size ∧ wr2 = (putRow fe w blk off dj).drewN m ∧ Hid (PermIn a b d dj) ∧ Hid (Ins ltK a j i dj)) (fun vj _ => (intOf vj).toNat)
      case atStart => exact ⟨i, n, dk, rfl, by omega, Nat.le_refl _, hs, by first | exact hw | rfl, HP, ⟨fun p q h1 h2 h3 h4 h5 => HS.out p q h1 h2 (by omega), fun q h1 h2 => by omega⟩⟩
      case round =>
        clear hw HP HS hs
        obtain ⟨j, m, dj, rfl, haj, hji, hs, hw, HP, HI⟩ := hrel
        rename World => W1
        have HW : Hid (W1 = (putRow fe w blk off dj).drewN m) := hw
        clear hw
        by_cases hja : a < j
        · obtain ⟨jp, rfl⟩ : ∃ jp, j = jp + 1 := ⟨j - 1, by omega⟩
          obtain ⟨x, hx⟩ : ∃ x, dj[jp + 1]! = x := ⟨_, rfl⟩
          obtain ⟨y, hy⟩ : ∃ y, dj[jp]! = y := ⟨_, rfl⟩
          obtain ⟨cj, fj⟩ := fam HW.out HH.out hs (show jp + 1 < d.size by omega) hx
          obtain ⟨cp, fp⟩ := fam HW.out HH.out hs (show jp < d.size by omega) hy
          have hFj := HF.out.perm hb HP.out
          have bx := fit_at hFj hs (show jp + 1 < d.size by omega) hx
          have by' := fit_at hFj hs (show jp < d.size by omega) hy
          have HX : Hid _ := hx
          have HY : Hid _ := hy
          clear hx hy hFj
          have hwp : IntKind.i64.wrap (jp : Int) = (jp : Int) := by rw [IntKind.wrap_i64]; omega
          have jz : (jp : Int) + 1 < (d.size : Int) := by omega
          have jz1 : (jp : Int) < (d.size : Int) := by omega
          have hjaz : (a : Int) < (jp : Int) + 1 := by omega
          have p0 : (0 : Int) ≤ (jp : Int) + 1 := by omega
          have e0 : ((jp : Int) + 1).toNat = jp + 1 := by omega
          by_cases hlv : cmpK x y < 0
          · go_wp2_with fail
            go_quiet (first | (go_at_call 78; refine Calls.quiet_of (cmp29 bx by' _)))
            go_wp2_with fail
            have cj2 : (W1.drewN nq).cell? ⟨blk, off + (jp + 1), none⟩ = some (.float .f64 x) := cj
            have cp2 : (W1.drewN nq).cell? ⟨blk, off + jp, none⟩ = some (.float .f64 y) := cp
            have fj2 : (W1.drewN nq).frozen? ⟨blk, off + (jp + 1), none⟩ = false := fj
            have fp2 : (W1.drewN nq).frozen? ⟨blk, off + jp, none⟩ = false := fp
            have HW2 : Hid (W1.drewN nq = (putRow fe w blk off dj).drewN (m + nq)) := by show _ = _; rw [HW.out, World.drewN_drewN]
            clear cj cp fj fp HW
            generalize W1.drewN nq = W2 at cj2 cp2 fj2 fp2 HW2 ⊢
            obtain ⟨j1, hj1⟩ : ∃ j1, j1 = jp + 1 := ⟨_, rfl⟩
            rw [← hj1] at cj2 fj2 e0
            have J1 : Hid (j1 = jp + 1) := hj1
            clear hj1
            go_big_region
            all_goals go_wp2
            go_roundw
            case rel =>
              refine ⟨jp, m + nq + 1, swp dj (jp + 1) jp, by first | rfl | go_num | (congr 1; omega), by omega, by omega, by rw [size_swp]; exact hs, ?_, ?_, ?_⟩
              · rw [J1.out, HW2.out, ← HX.out, ← HY.out]
                exact swap_row w blk off dj (m + nq) (jp + 1) jp (by omega) (by omega)
              · exact permIn_trans _ _ _ _ _ HP.out (swp_permIn _ _ _ _ _ (by omega) (by omega) (by omega) (by omega) (by omega))
              · exact HI.out.step (by rw [HX.out, HY.out]; exact (cmpK_neg x y).1 hlv) (by omega) (by omega)
            case measure => simp [intOf]
          · go_wp2_with fail
            go_quiet (first | (go_at_call 78; refine Calls.quiet_of (cmp29 bx by' _)))
            go_wp2
            go_roundw
            case rel =>
              refine ⟨i + 1, m + nq, dj, by go_num, by omega, by omega, hs, by rw [HW.out, World.drewN_drewN], HP, ?_⟩
              refine HI.out.stop swoK (Or.inr ?_)
              simp only [Nat.add_sub_cancel]
              rw [HX.out, HY.out]
              exact Bool.eq_false_iff.2 fun h => by have := (cmpK_neg x y).2 h; omega
            case measure => simp [intOf]; omega
        · have hjaz : decide ((j : Int) > (a : Int)) = false := decide_eq_false (by omega)
          have hjaz' : ¬ (a : Int) < (j : Int) := by omega
          go_wp2_with fail
          go_big_region
          all_goals go_wp2
          go_roundw
          case rel => exact ⟨i + 1, m + 1, dj, by go_num, by omega, by omega, hs, by rw [HW.out]; rfl, HP, HI.out.stop swoK (Or.inl (by omega))⟩
          case measure => simp [intOf]; omega
    · go_wp2
      go_end0
      refine ⟨rfl, n, dk, by first | exact hw | rfl, HP.out, ?_⟩
      exact fun p q h1 h2 h3 => HS.out p q h1 h2 (by omega)
end Go.Proofs.Ytfggdaebahdnfaa
