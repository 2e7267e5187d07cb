/- changed: a copy in which what is no cell gets other numbers. -/
import Derived.Test.YtfggdaebahdnfaaTa
import Derived.Test.YtfggdaebahdnfaaTb
namespace Go.Proofs.Ytfggdaebahdnfaa
open Go.ChangeShapes Go.WideShapes Go.ChangeAt Go.RowKit Go.Fl Go.Sort Ieee
attribute [local go_sem] run_store_float run_store_func call35 call46 run_neg fold_eq fold_ne fold_lt fold_gt abs_eq run_max

theorem fit_put {d : Array Nat} (h : Fit d) {k v : Nat} (hv : v < 2 ^ 64) : Fit (d.set! k v) := by
  intro i hi
  have hi' : i < d.size := by simpa using hi
  rw [set_get d k v hi']
  split
  · exact hv
  · exact h i hi'
theorem t19c {w : World} {p : Option Addr} {n cap x : Nat} {a g t m : Int} {b : Bool} (hn : n < 9223372036854775808) (hb : fitsB n g t m x = b) :
    Calls Try.prog 19 #[.slice p n cap, .agg #[.int .i8 a, .int .i64 g, .int .i64 t, .int .i64 m, .float .f64 x]] w fun e w' => e = .returned (.bool b) ∧ Hid (Up w w') := hb ▸ t19 hn
theorem alloc_size (w : World) (o : Obj) : (w.alloc o).heap.size = w.heap.size + 1 := Array.size_push _
/-- What changed leaves. -/
def CH (w : World) (n K G T : Nat) (d : Array Nat) (e : Ending) (w' : World) : Prop := ∃ p c d', e = .returned (.slice p n c) ∧ Hid (SV w' p n c d') ∧ Hid (Alike K G T d d') ∧ Hid (Up w w')
set_option maxHeartbeats 4000000 in
theorem t20 {w : World} {p q : Option Addr} {n cap no co x : Nat} {d o : Array Nat} {way m : Int} {K G T : Nat} (h : SV w p n cap d) (ho : SV w q no co o) (hn : n ≤ 16384) (hno : no < 9223372036854775808) (hK : K < n) (hG : G ≤ 16384) (hT : T ≤ 16384) :
    Calls Try.prog 20 #[.slice p n cap, .slice q no co, .int .i64 K, .agg #[.int .i8 way, .int .i64 G, .int .i64 T, .int .i64 m, .float .f64 x]] w (CH w n K G T d) := by
  have H : Hid (SV w p n cap d) := h
  have O : Hid (SV w q no co o) := ho
  clear h ho
  go_enter Try.func20, Try.ntmps20
  go_upto_region 2 with (at_builtin; refine wpList_app_sv rfl _ _ rfl (w.heap.size + 1) 0 0 none p n cap [] d rfl rfl (World.ownsRow_nil _ _ _ _) (H.out.up (Up.alloc _ _)) (by omega) (by rw [alloc_size]; exact Nat.le_refl _) ?_; intro p1 c1 w4 hown hgr)
  have HO : Hid (w4.ownsRow (w.heap.size + 1) 24 1 (.slice p1 n c1) n (d.toList.map fe)) := by rw [Nat.zero_add] at hown; exact hown
  have HU : Hid (Up (w.alloc (.cells #[.int .i8 way, .int .i64 G, .int .i64 T, .int .i64 m, .float .f64 x] 26)) w4) := grown_up (Up.refl _) hgr (fun j hj => by cases hj)
  have HK : Hid (LK w.heap.size way G T m x w4) := (LK.new w way G T m x).up HU.out
  clear hown hgr
  obtain ⟨p', c', e1, hp1⟩ := own_form HO.out
  obtain ⟨g1, hg1⟩ := hp1 (by omega)
  simp only [Value.slice.injEq] at e1
  have hp2 := e1.1.trans hg1
  subst hp2
  clear e1 hg1 hp1
  have HZ : Hid ((w.alloc (.cells #[.int .i8 way, .int .i64 G, .int .i64 T, .int .i64 m, .float .f64 x] 26)).heap.size = w.heap.size + 1) := alloc_size _ _
  have HK0 : Hid (LK w.heap.size way G T m x (w.alloc (.cells #[.int .i8 way, .int .i64 G, .int .i64 T, .int .i64 m, .float .f64 x] 26))) := LK.new w way G T m x
  have HU0 : Hid (Up w (w.alloc (.cells #[.int .i8 way, .int .i64 G, .int .i64 T, .int .i64 m, .float .f64 x] 26))) := Up.alloc _ _
  generalize w.alloc (.cells #[.int .i8 way, .int .i64 G, .int .i64 T, .int .i64 m, .float .f64 x] 26) = w0 at *
  go_wp2
  go_loopw [10, 11, 16] (fun _ _ vi wr => ∃ (i : Nat) (d' : Array Nat), i ≤ n ∧ vi = .int .i64 i ∧ Hid (wr.ownsRow (w.heap.size + 1) 24 1 (.slice (some ⟨g1, 0, none⟩) n c1) n (d'.toList.map fe)) ∧ Hid (Fit d') ∧ Hid (Alike K G T d d') ∧ Hid (Up w0 wr)) (fun _ _ vi _ => n - (intOf vi).toNat)
  case atStart => exact ⟨0, d, by omega, rfl, HO, H.out.fit, ⟨rfl, fun _ _ _ => rfl⟩, HU⟩
  case round =>
    obtain ⟨i, d', hi, rfl, HOr, HF, HA, HUr⟩ := hrel
    rename World => wr
    by_cases hlt : i < n
    · have HKr : Hid (LK w.heap.size way G T m x wr) := HK0.out.up HUr.out
      obtain ⟨l0, l1, l2, l3, l4⟩ := HKr.out
      have z1 : (i : Int) < (n : Int) := by omega
      obtain ⟨D, hD, hDc⟩ : ∃ D : Nat, max ((i : Int) - (K : Int)) ((K : Int) - (i : Int)) = (D : Int) ∧ ((K ≤ i ∧ D = i - K) ∨ (i ≤ K ∧ D = K - i)) := by
        rcases Nat.le_total K i with c | c
        · exact ⟨i - K, by omega, Or.inl ⟨c, rfl⟩⟩
        · exact ⟨K - i, by omega, Or.inr ⟨c, rfl⟩⟩
      have HD : Hid _ := hDc
      clear hDc
      by_cases hc : D ≤ G ∨ G + T < D
      · have HN : Hid (¬ ((K + G < i ∧ i ≤ K + G + T) ∨ (i + G < K ∧ K ≤ i + G + T))) := by
          have := HD.out
          show ¬ _
          omega
        by_cases ho : i < no
        · have cI : wr.cell? ⟨g1, i, none⟩ = some (.float .f64 d'[i]!) := by
            rw [World.ownsRow.cellAt HOr.out i (by omega)]
            have hs : i < d'.size := by rw [HA.out.1, H.out.len]; exact hlt
            simp [getElem!_pos d' i hs, Array.getElem?_eq_getElem hs]
          have fI := World.ownsRow.frozenAt HOr.out i
          generalize d'[i]! = yI at cI
          obtain ⟨b1, o1, e1, r1⟩ := O.out.rd (by omega)
          subst e1
          have c2 := cell_up (cell_up (r1 i (by rw [O.out.len]; exact ho)) HU0.out) HUr.out
          obtain ⟨v, hv⟩ : ∃ v, o[i]! = v := ⟨_, rfl⟩
          have HV : Hid (v < 2 ^ 64) := hv ▸ O.out.fit i (by rw [O.out.len]; exact ho)
          rw [hv] at c2
          clear r1 hv
          have z2 : (i : Int) < (no : Int) := by omega
          have HS : Hid ((wr.setCell ⟨g1, i, none⟩ (.float .f64 v)).ownsRow (w.heap.size + 1) 24 1 (.slice (some ⟨g1, 0, none⟩) n c1) n ((d'.set! i v).toList.map fe) ∧ Up w0 (wr.setCell ⟨g1, i, none⟩ (.float .f64 v))) := by
            obtain ⟨s1, s2⟩ := World.ownsRow.stored HOr.out i (.float .f64 v)
            refine ⟨?_, But.up s2 HUr.out (by rw [HZ.out]; exact (World.ownsRow.lt HOr.out g1 rfl).1)⟩
            rw [Array.set!_eq_setIfInBounds, Array.toList_setIfInBounds, List.map_set]
            exact s1
          rcases hc with hc | hc
          · have z3 : (D : Int) ≤ (G : Int) := by omega
            go_wp2
            all_goals
              go_roundw
              case rel => exact ⟨i + 1, d'.set! i v, by omega, by go_num, HS.out.1, fit_put HF.out HV.out, HA.out.set HN.out, HS.out.2⟩
              case measure => simp [intOf]; omega
          · have z3 : ¬ (D : Int) ≤ (G : Int) := by omega
            have z4 : (G : Int) + (T : Int) < (D : Int) := by omega
            go_wp2
            all_goals
              go_roundw
              case rel => exact ⟨i + 1, d'.set! i v, by omega, by go_num, HS.out.1, fit_put HF.out HV.out, HA.out.set HN.out, HS.out.2⟩
              case measure => simp [intOf]; omega
        · have z2 : ¬ (i : Int) < (no : Int) := by omega
          rcases hc with hc | hc
          · have z3 : (D : Int) ≤ (G : Int) := by omega
            go_wp2
            all_goals
              go_roundw
              case rel => exact ⟨i + 1, d', by omega, by go_num, HOr, HF, HA, HUr⟩
              case measure => simp [intOf]; omega
          · have z3 : ¬ (D : Int) ≤ (G : Int) := by omega
            have z4 : (G : Int) + (T : Int) < (D : Int) := by omega
            go_wp2
            all_goals
              go_roundw
              case rel => exact ⟨i + 1, d', by omega, by go_num, HOr, HF, HA, HUr⟩
              case measure => simp [intOf]; omega
      · have z3 : ¬ (D : Int) ≤ (G : Int) := by omega
        have z4 : ¬ (G : Int) + (T : Int) < (D : Int) := by omega
        go_wp2
        all_goals
          go_roundw
          case rel => exact ⟨i + 1, d', by omega, by go_num, HOr, HF, HA, HUr⟩
          case measure => simp [intOf]; omega
    · go_wp2
      go_ret
      exact ⟨_, _, d', rfl, sv_own HOr.out (by rw [HA.out.1, H.out.len]) HF.out, HA, HU0.out.trans HUr.out⟩
end Go.Proofs.Ytfggdaebahdnfaa
