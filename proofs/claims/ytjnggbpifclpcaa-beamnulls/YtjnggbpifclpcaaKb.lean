/- BeamNulls: the walk. -/
import Derived.Test.YtjnggbpifclpcaaKa
import Derived.Test.YtjnggbpifclpcaaWa
namespace Go.Proofs.Ytjnggbpifclpcaa
open Go.Sort Go.ChangeShapes Go.WideShapes Go.ChangeAt Go.RowKit Go.Fl Ieee
attribute [local go_sem] run_store_float run_store_complex call34 call33 run_neg fold_eq fold_ne fold_lt fold_gt abs_eq

theorem own_none (w : World) : (w.alloc (.cells #[] 22)).ownsRow w.heap.size 22 1 (.slice (some ⟨w.heap.size, 0, none⟩) 0 0) 0 (([] : List Nat).map fe) := by
  have := World.ownsRow_lit (base := w.heap.size) (e := 22) (size := 1) w #[] 0 (Nat.le_refl _) (by unfold maxLen; omega) rfl
  exact this
theorem t4a {w : World} {p : Option Addr} {m c x : Nat} {n : Int} (h : 16384 < m) : Calls Try.prog 4 #[.int .i64 n, .float .f64 x, .slice p m c] w (TU w) := by
  have z1 : (16384 : Int) < (m : Int) := by omega
  go_enter Try.func4, Try.ntmps4
  go_wp2_with (go_at_call 10; (with_reducible refine (t10 _).mono ?_); rintro e w2 ⟨rfl, U2⟩)
  go_ret
  exact ⟨rfl, U2⟩
set_option maxHeartbeats 8000000 in
set_option maxRecDepth 20000 in
theorem t4b {w : World} {p : Option Addr} {m c x : Nat} {n : Int} {d : Array Nat} (h : SV w p m c d) (hm : m ≤ 16384) : Calls Try.prog 4 #[.int .i64 n, .float .f64 x, .slice p m c] w (TU w) := by
  have H : Hid (SV w p m c d) := h
  have z1 : (m : Int) ≤ 16384 := by omega
  have e7 := eq77
  clear h
  go_enter Try.func4, Try.ntmps4
  go_wp2_with (first
    | (at_builtin; refine wpList_app_sv rfl _ _ rfl w.heap.size 0 0 (some ⟨w.heap.size, 0, none⟩) p m c [] d rfl rfl (own_none w) (H.out.up (Up.alloc _ _)) (by omega) (by simp) ?_; intro p1 c1 w1 hown hgr
       have HO : Hid (w1.ownsRow w.heap.size 22 1 (.slice p1 m c1) m (d.toList.map fe)) := by rw [Nat.zero_add] at hown; exact hown
       have HU : Hid (Up w w1) := grown_up (Up.alloc _ _) hgr (fun j hj => by cases hj; exact Nat.le_refl _)
       clear hown hgr)
    | (at_builtin; refine wpList_app_sv rfl _ _ rfl w.heap.size m c1 p1 (some ⟨w1.heap.size, 0, none⟩) 1 1 d.toList #[4635118810238550016] rfl rfl (HO.out.alloc _) (sv_mark w1) (by omega) (Nat.le_trans (RowKit.Below.size HU.out) (by simp)) ?_; intro p2 c2 w2 hown hgr
       have HU2 : Hid (Up w w2) := grown_up (HU.out.trans (Up.alloc _ _)) hgr (fun j hj => (HO.out.lt j hj).1)
       obtain ⟨p3, c3, e3, hp3⟩ := own_form hown
       obtain ⟨g, hg⟩ := hp3 (by omega)
       simp only [Value.slice.injEq] at e3
       have hp2 := e3.1.trans hg
       subst hp2
       have HW : Hid (OW w.heap.size w2 g m c2 d) := by show w2.ownsRow _ _ _ _ _ _; rw [Array.toList_append]; exact hown
       have hc2 := (HW.out.sv H.out.len H.out.fit).2
       clear hown hgr e3 hg hp3)
    | (go_at_call 11; (with_reducible refine (t11 (H.out.up HU2.out).fv).mono ?_); rintro e w3 ⟨v1, d1, rfl, r1, u1, e1⟩
       have HS3 : Hid (SV w3 (some ⟨g, 0, none⟩) m c2 d) := ((HW.out.up u1.out).sv H.out.len H.out.fit).1)
    | (go_at_call 12; (with_reducible refine (t12 (w := w3) HS3.out.fv (by omega)).mono ?_); rintro e w4 ⟨va, da, rfl, ra, u2, ea⟩
       have HS4 : Hid (SV w4 (some ⟨g, 0, none⟩) m c2 d) := HS3.out.up u2.out)
    | (go_at_call 12; (with_reducible refine (t12 (w := w4) HS4.out.fv (by omega)).mono ?_); rintro e w5 ⟨vb, db, rfl, rb, u3, eb⟩)
    | (go_at_call 9; (with_reducible refine (told_ok r1 e1 ra u2 ea rb u3 eb (nullL_len _ _ _)).mono ?_); rintro e w6 ⟨rfl, u4⟩
       have HS6 : Hid (SV w6 (some ⟨g, 0, none⟩) m c2 d ∧ SV w6 p m c d) := ⟨HS3.out.up u4.out, ((H.out.up HU2.out).up u1.out).up u4.out⟩
       have HM6 : Hid (w6.cell? ⟨g, m, none⟩ = some (.float .f64 4635118810238550016)) := ((HW.out.up u1.out).up u4.out).mark H.out.len H.out.fit)
    | (go_at_call 13; (with_reducible refine (t13 HS6.out.1 HS6.out.2 (by omega)).mono ?_); rintro e w7 ⟨rfl, k7, hw7⟩; (have HU7 : Hid (Up w6 w7) := hw7 ▸ Up.drewN _ _); (have c0 := cell_up HM6.out HU7.out); clear hw7)
    | (go_at_call 10; (with_reducible refine (t10 _).mono ?_); rintro e w8 ⟨rfl, U8⟩))
  go_ret
  exact ⟨rfl, (((HU2.out.trans u1.out).trans u4.out).trans HU7.out).trans U8.out⟩
theorem t4 {w : World} {p : Option Addr} {m c x : Nat} {n : Int} {d : Array Nat} (h : SV w p m c d) : Calls Try.prog 4 #[.int .i64 n, .float .f64 x, .slice p m c] w (TU w) := by
  rcases Nat.lt_or_ge 16384 m with h1 | h1
  · exact t4a h1
  · exact t4b h h1
end Go.Proofs.Ytjnggbpifclpcaa
