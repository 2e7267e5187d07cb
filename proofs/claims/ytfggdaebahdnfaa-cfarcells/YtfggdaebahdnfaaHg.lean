/- Level, the program's. -/
import Derived.Test.YtfggdaebahdnfaaHf
namespace Go.Proofs.Ytfggdaebahdnfaa
open Go.ChangeShapes Go.WideShapes Go.ChangeAt Go.RowKit Go.Fl Go.Sort
attribute [local go_sem] run_store_float call35 call46 run_neg fold_eq fold_ne fold_lt fold_gt abs_eq

theorem run_store_func {P : Program} (w : World) (a : Addr) (m : Mode) (k : Fn) (x y : Array Value) : (store a (.func k x y) m).run P w = stored P w a (.func k x y) m := run_store P w a _ m rfl
attribute [local go_sem] run_store_func
/-- The error of a level, its answer. -/
def levE (n : Nat) (g t m k : Int) : Int := if 16384 < n then 3 else if mayF g t m = false ∨ k < 0 ∨ (n : Int) ≤ k then 2 else 0
def levR (way g t m k : Int) (d : Array Nat) : Option Nat := if levE d.size g t m k = 0 then lvD way g.toNat t.toNat m.toNat d k.toNat else some 0
def LR (w : World) (way g t m k : Int) (d : Array Nat) (e : Ending) (w' : World) : Prop := ∃ r, e = .returned (.tuple #[.float .f64 r, .int .i64 (levE d.size g t m k)]) ∧ Hid (ab r = levR way g t m k d) ∧ Hid (Up w w')
theorem zero_ab : ab 0 = some 0 := by decide +kernel
theorem LR.bad {w w' : World} {way g t m k : Int} {d : Array Nat} {c : Int} (h : levE d.size g t m k = c) (hc : c ≠ 0) (hu : Up w w') : LR w way g t m k d (.returned (.tuple #[.float .f64 0, .int .i64 c])) w' :=
  ⟨0, by rw [h], by show _ = _; unfold levR; rw [h, if_neg hc]; exact zero_ab, hu⟩
theorem chosen30 {way : Int} (h1 : -128 ≤ way) (h2 : way ≤ 127) (w : World) : Calls Try.prog 30 #[.int .i8 way] w fun e w' => ∃ k a b, e = .returned (.func k a b) ∧ Hid (Lev w' way (.func k a b)) ∧ Hid (Up w w') :=
  (t30 h1 h2 w).mono fun _ _ ⟨f, he, hl, hu⟩ => by
    obtain ⟨k, a, b, rfl⟩ := lev_one hl.out
    exact ⟨k, a, b, he, hl, hu⟩
set_option maxHeartbeats 1000000 in
theorem t11 {w : World} {p : Option Addr} {n cap : Nat} {d : Array Nat} {way : Int} (g t m k : Int) (h1 : -128 ≤ way) (h2 : way ≤ 127) (h : SV w p n cap d) :
    Calls Try.prog 11 #[.slice p n cap, .int .i64 k, .int .i8 way, .int .i64 g, .int .i64 t, .int .i64 m] w (LR w way g t m k d) := by
  have H : Hid (SV w p n cap d) := h
  clear h
  by_cases hn : 16384 < n
  · have q : (16384 : Int) < (n : Int) := by omega
    go_enter Try.func11, Try.ntmps11
    go_wp2_with (go_at_call 30; (with_reducible refine (chosen30 h1 h2 _).mono ?_); rintro e w1 ⟨fk, fa, fb, rfl, HL, HU⟩)
    go_ret2
    refine LR.bad ?_ (by decide) (HU.out.trans (Up.alloc _ _))
    unfold levE; rw [if_pos (by rw [H.out.len]; exact hn)]
  · obtain ⟨b, hb⟩ : ∃ b, mayF g t m = b := ⟨_, rfl⟩
    have C31 : Hid (∀ f W, Calls Try.prog 31 #[.agg #[f, .int .i64 g, .int .i64 t, .int .i64 m]] W fun e w' => e = .returned (.bool b) ∧ Hid (Up W w')) := fun f W => hb ▸ t31 f g t m W
    have HB : Hid (mayF g t m = b) := hb
    have HN : Hid (¬ 16384 < n) := hn
    have q : ¬ (16384 : Int) < (n : Int) := by omega
    clear hb
    cases b
    · go_enter Try.func11, Try.ntmps11
      go_wp2_with (first
        | (go_at_call 30; (with_reducible refine (chosen30 h1 h2 _).mono ?_); rintro e w1 ⟨fk, fa, fb, rfl, HL, HU⟩)
        | (go_at_call 31; (with_reducible refine (C31.out _ _).mono ?_); rintro e w2 ⟨rfl, HU2⟩))
      go_ret2
      refine LR.bad ?_ (by decide) ((HU.out.trans (Up.alloc _ _)).trans HU2.out)
      unfold levE; rw [if_neg (by rw [H.out.len]; exact hn), if_pos (Or.inl HB.out)]
    · by_cases hk : k < 0 ∨ (n : Int) ≤ k
      · have HK : Hid _ := hk
        rcases hk with hk | hk
        · go_enter Try.func11, Try.ntmps11
          go_wp2_with (first
            | (go_at_call 30; (with_reducible refine (chosen30 h1 h2 _).mono ?_); rintro e w1 ⟨fk, fa, fb, rfl, HL, HU⟩)
            | (go_at_call 31; (with_reducible refine (C31.out _ _).mono ?_); rintro e w2 ⟨rfl, HU2⟩))
          go_ret2
          refine LR.bad ?_ (by decide) ((HU.out.trans (Up.alloc _ _)).trans HU2.out)
          unfold levE; rw [if_neg (by rw [H.out.len]; exact hn), if_pos (Or.inr (by rw [H.out.len]; exact HK.out))]
        · have hk0 : ¬ k < 0 := by omega
          go_enter Try.func11, Try.ntmps11
          go_wp2_with (first
            | (go_at_call 30; (with_reducible refine (chosen30 h1 h2 _).mono ?_); rintro e w1 ⟨fk, fa, fb, rfl, HL, HU⟩)
            | (go_at_call 31; (with_reducible refine (C31.out _ _).mono ?_); rintro e w2 ⟨rfl, HU2⟩))
          go_ret2
          refine LR.bad ?_ (by decide) ((HU.out.trans (Up.alloc _ _)).trans HU2.out)
          unfold levE; rw [if_neg (by rw [H.out.len]; exact hn), if_pos (Or.inr (by rw [H.out.len]; exact HK.out))]
      · have hm := HB.out
        simp only [mayF, Bool.and_eq_true, decide_eq_true_eq] at hm
        obtain ⟨⟨⟨g0, g1⟩, t0, t1⟩, m0, m1⟩ := hm
        obtain ⟨G, rfl⟩ := Int.eq_ofNat_of_zero_le g0
        obtain ⟨T, rfl⟩ := Int.eq_ofNat_of_zero_le (show 0 ≤ t by omega)
        obtain ⟨M, rfl⟩ := Int.eq_ofNat_of_zero_le m0
        obtain ⟨K, rfl⟩ := Int.eq_ofNat_of_zero_le (show 0 ≤ k by omega)
        have hK : K < n := by omega
        have k0 : ¬ (n : Int) ≤ (K : Int) := by omega
        have C32 : Hid (∀ f W, Up w W → Lev W way f → Calls Try.prog 32 #[.agg #[f, .int .i64 G, .int .i64 T, .int .i64 M], .slice p n cap, .int .i64 K] W (FU W (lvD way G T M d K))) := fun f W hu hl => t32 hl (H.out.up hu) (by omega) hK (by omega) (by omega)
        clear g0 g1 t0 t1 m0 m1 hk
        go_enter Try.func11, Try.ntmps11
        go_wp2_with (first
          | (go_at_call 30; (with_reducible refine (chosen30 h1 h2 _).mono ?_); rintro e w1 ⟨fk, fa, fb, rfl, HL, HU⟩)
          | (go_at_call 31; (with_reducible refine (C31.out _ _).mono ?_); rintro e w2 ⟨rfl, HU2⟩; (have x0 := cell_up (box4 w1 _ _ _ _ 0 _ rfl) HU2.out); (have x1 := cell_up (box4 w1 _ _ _ _ 1 _ rfl) HU2.out); (have x2 := cell_up (box4 w1 _ _ _ _ 2 _ rfl) HU2.out); (have x3 := cell_up (box4 w1 _ _ _ _ 3 _ rfl) HU2.out))
          | (go_at_call 32; (with_reducible refine (C32.out _ _ ((HU.out.trans (Up.alloc _ _)).trans HU2.out) (HL.out.up ((Up.alloc _ _).trans HU2.out))).mono ?_); rintro e w3 ⟨r, rfl, hr, HU3⟩))
        go_ret2
        have e0 : levE d.size (G : Int) T M K = 0 := by
          unfold levE; rw [if_neg (by rw [H.out.len]; exact HN.out), if_neg]
          rw [HB.out, H.out.len]; simp; omega
        refine ⟨r, by rw [e0]; rfl, ?_, ((HU.out.trans (Up.alloc _ _)).trans HU2.out).trans HU3.out⟩
        show _ = _
        unfold levR
        rw [e0, if_pos rfl]
        exact hr.out
end Go.Proofs.Ytfggdaebahdnfaa
