/- What the statements lean on: a copy with spare room, whether it is kept. -/
import Derived.Test.YtcgbmcnefolgcaaDb
namespace Go.Proofs.Ytcgbmcnefolgcaa
open Go.ChangeShapes Go.WideShapes Go.ChangeAt Go.RowKit Go.Fl Go.Sort
attribute [local go_sem] run_store_float call22 call54 run_neg fold_eq fold_ne fold_lt fold_gt abs_eq

theorem t17k {x y : Nat} (h : ab x = ab y) (w : World) : Calls Try.prog 17 #[.float .f64 x, .float .f64 y] w fun e w' => e = .returned (.bool true) ∧ w' = w := by
  have := t17 x y w
  rwa [h, beq_self_eq_true] at this
theorem t35 {w : World} {pa pb : Option Addr} {n ca cb : Nat} {d : Array Nat} (ha : SV w pa n ca d) (hb : SV w pb n cb d) (hn : n ≤ 1048576) : Calls Try.prog 35 #[.slice pa n ca, .slice pb n cb] w fun e w' => e = .returned (.bool true) ∧ ∃ m, w' = w.drewN m := by
  have HA : Hid (SV w pa n ca d) := ha
  have HB : Hid (SV w pb n cb d) := hb
  have z0 : (n : Int) ≤ 1048576 := by omega
  clear ha hb
  go_enter Try.func35, Try.ntmps35
  go_wp2
  go_loopw [5, 6] (fun vi _ wr => ∃ i m : Nat, i ≤ n ∧ vi = .int .i64 i ∧ wr = w.drewN m) (fun vi _ _ => n - (intOf vi).toNat)
  case atStart => exact ⟨0, 0, by omega, rfl, rfl⟩
  case round =>
    obtain ⟨i, m, hi, rfl, hw⟩ := hrel
    rename World => wr
    have HU : Hid (Up w wr) := by rw [hw]; exact Up.drewN _ _
    have HW : Hid (wr = w.drewN m) := hw
    clear hw
    by_cases hlt : i < n
    · obtain ⟨b1, o1, e1, r1⟩ := HA.out.rd (by omega)
      obtain ⟨b2, o2, e2, r2⟩ := HB.out.rd (by omega)
      subst e1
      subst e2
      have c1 := cell_up (r1 i (by rw [HA.out.len]; exact hlt)) HU.out
      have c2 := cell_up (r2 i (by rw [HA.out.len]; exact hlt)) HU.out
      generalize d[i]! = x at c1 c2
      have z1 : (i : Int) < (n : Int) := by omega
      have z2 : (0 : Int) ≤ (i : Int) := by omega
      clear r1 r2
      go_wp2_with fail
      go_quiet (first | (go_at_call 17; (with_reducible refine Calls.quiet_of_same (t17k rfl _))))
      go_wp2
      go_roundw
      case rel => exact ⟨i + 1, _, by omega, by go_num, by rw [HW.out, World.drewN_drewN]⟩
      case measure => simp [intOf]; omega
    · obtain rfl : i = n := by omega
      go_wp2
      go_ret
      exact ⟨rfl, m, HW.out⟩
/-- A copy with spare room that is marked. -/
def OW (b : Nat) (w : World) (g n cap : Nat) (d : Array Nat) : Prop := w.ownsRow b 24 1 (.slice (some ⟨g, 0, none⟩) (n + 1) cap) (n + 1) ((d ++ #[4635118810238550016]).toList.map fe)
theorem OW.up {b : Nat} {w w' : World} {g n cap : Nat} {d : Array Nat} (h : OW b w g n cap d) (hu : Up w w') : OW b w' g n cap d := owns_up h hu
theorem OW.lt {b : Nat} {w : World} {g n cap : Nat} {d : Array Nat} (h : OW b w g n cap d) : b ≤ g ∧ g < w.heap.size := World.ownsRow.lt h g rfl
theorem one_fit : Fit #[4635118810238550016] := fit_of (L := [4635118810238550016]) (by decide +kernel)
theorem OW.all {b : Nat} {w : World} {g n cap : Nat} {d : Array Nat} (h : OW b w g n cap d) (hl : d.size = n) (hF : Fit d) : SV w (some ⟨g, 0, none⟩) (n + 1) cap (d ++ #[4635118810238550016]) :=
  sv_own h (by simp [hl]) (fit_app hF one_fit)
theorem OW.sv {b : Nat} {w : World} {g n cap : Nat} {d : Array Nat} (h : OW b w g n cap d) (hl : d.size = n) (hF : Fit d) : SV w (some ⟨g, 0, none⟩) n cap d ∧ n + 1 ≤ cap := by
  have k := h.all hl hF
  have hc := k.cap
  obtain ⟨b', o, e, r⟩ := k.rd (by omega)
  refine ⟨⟨hl, by omega, hF, fun _ => ⟨b', o, e, fun j hj => ?_⟩⟩, hc⟩
  have := r j (by simp; omega)
  rw [this, getElem!_pos d j hj, getElem!_pos _ j (by simp; omega), Array.getElem_append_left hj]
theorem OW.mark {b : Nat} {w : World} {g n cap : Nat} {d : Array Nat} (h : OW b w g n cap d) (hl : d.size = n) (hF : Fit d) : w.cell? ⟨g, n, none⟩ = some (.float .f64 4635118810238550016) := by
  obtain ⟨b', o, e, r⟩ := (h.all hl hF).rd (by omega)
  simp only [Option.some.injEq, Addr.mk.injEq] at e
  obtain ⟨rfl, rfl, _⟩ := e
  have r0 := r n (by simp; omega)
  rw [Nat.zero_add, getElem!_pos _ n (by simp; omega), Array.getElem_append_right (by omega)] at r0
  rw [r0]; simp [hl]
theorem sv_mark (w : World) : SV (w.alloc (.cells #[.float .f64 4635118810238550016] 24)) (some ⟨w.heap.size, 0, none⟩) 1 1 #[4635118810238550016] := sv_new w [4635118810238550016] (by decide +kernel) 1 rfl
set_option maxHeartbeats 1000000 in
theorem t10 {w : World} {p : Option Addr} {n cap : Nat} {d : Array Nat} (h : SV w p n cap d) (hn : n ≤ 1048576) : Calls Try.prog 10 #[.slice p n cap] w fun e w' => ∃ g c, e = .returned (.slice (some ⟨g, 0, none⟩) n c) ∧ Hid (OW w.heap.size w' g n c d) ∧ Hid (Up w w') := by
  have H : Hid (SV w p n cap d) := h
  clear h
  go_enter Try.func10, Try.ntmps10
  go_wp2_with (first
    | (at_builtin; refine wpList_app_sv rfl _ _ rfl w.heap.size 0 0 none p n cap [] d rfl rfl (World.ownsRow_nil _ _ _ _) H.out (by omega) (Nat.le_refl _) ?_; intro p1 c1 w1 hown hgr
       have HO : Hid (w1.ownsRow w.heap.size 24 1 (.slice p1 n c1) n (d.toList.map fe)) := by rw [Nat.zero_add] at hown; exact hown
       have HU : Hid (Up w w1) := grown_up (Up.refl _) hgr (fun j hj => by cases hj)
       clear hown hgr)
    | (at_builtin; refine wpList_app_sv rfl _ _ rfl w.heap.size n c1 p1 (some ⟨w1.heap.size, 0, none⟩) 1 1 d.toList #[4635118810238550016] rfl rfl (HO.out.alloc _) (sv_mark w1) (by omega) (Nat.le_trans (RowKit.Below.size HU.out) (by simp)) ?_; intro p2 c2 w2 hown hgr
       have HU2 : Hid (Up w w2) := grown_up (HU.out.trans (Up.alloc _ _)) hgr (fun j hj => (HO.out.lt j hj).1)
       obtain ⟨p3, c3, e3, hp3⟩ := own_form hown
       obtain ⟨g, hg⟩ := hp3 (by omega)
       simp only [Value.slice.injEq] at e3
       have hp2 := e3.1.trans hg
       subst hp2
       have HW : Hid (OW w.heap.size w2 g n c2 d) := by show w2.ownsRow _ _ _ _ _ _; rw [Array.toList_append]; exact hown
       have hc2 := (HW.out.sv H.out.len H.out.fit).2
       clear hown hgr e3 hg hp3))
  go_ret
  exact ⟨g, c2, rfl, HW, HU2⟩
theorem eq77 : eqF (ab 4635118810238550016) (ab 4635118810238550016) = true := by decide +kernel
set_option maxHeartbeats 1000000 in
theorem t14q {w : World} {p : Option Addr} {b g n c cap : Nat} {d : Array Nat} (h : SV w p n cap d) (ho : OW b w g n c d) (hn : n ≤ 1048576) : Calls Try.prog 14 #[.slice (some ⟨g, 0, none⟩) n c, .slice p n cap] w fun e w' => e = .returned (.bool true) ∧ ∃ m, w' = w.drewN m := by
  have H : Hid (SV w p n cap d) := h
  obtain ⟨so, hc⟩ := ho.sv h.len h.fit
  have HS : Hid (SV w (some ⟨g, 0, none⟩) n c d) := so
  have m0 := ho.mark h.len h.fit
  have M0 : Hid _ := m0
  have e7 := eq77
  clear h ho so m0
  go_enter Try.func14, Try.ntmps14
  go_wp2_with (go_at_call 35; (with_reducible refine (t35 HS.out H.out (by omega)).mono ?_); rintro e w1 ⟨rfl, k, hw⟩; (have HU : Hid (Up w w1) := hw ▸ Up.drewN _ _); (have c0 := cell_up M0.out HU.out); have HW : Hid (w1 = w.drewN k) := hw; clear hw)
  go_ret
  exact ⟨rfl, k, HW.out⟩
theorem t14 {w : World} {p : Option Addr} {b g n c cap : Nat} {d : Array Nat} (h : SV w p n cap d) (ho : OW b w g n c d) (hn : n ≤ 1048576) : Calls Try.prog 14 #[.slice (some ⟨g, 0, none⟩) n c, .slice p n cap] w (TU w) :=
  (t14q h ho hn).mono fun _ _ ⟨he, _, hw⟩ => ⟨he, hw ▸ Up.drewN _ _⟩
end Go.Proofs.Ytcgbmcnefolgcaa
