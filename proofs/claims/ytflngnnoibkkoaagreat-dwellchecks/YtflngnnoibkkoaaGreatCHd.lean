/- The cells of a place, on the left and on the right. -/
import Derived.Test.YtflngnnoibkkoaaGreatCZ
import Derived.Test.YtflngnnoibkkoaaGreatEd
namespace Go.Proofs.YtflngnnoibkkoaaGreat.Cf
open Go.ChangeShapes Go.WideShapes Go.ChangeAt Go.RowKit Go.Fl Go.Sort
set_option maxRecDepth 200000
set_option maxHeartbeats 8000000
attribute [local go_sem] run_store_float call35 call46 run_neg fold_eq fold_ne fold_lt fold_gt abs_eq

/-- The cells on the left, those on the right. -/
def lef (d : Array Nat) (k G T : Nat) : Array Nat := d.extract (k - G - T) (k - G)
def rig (d : Array Nat) (k G T : Nat) : Array Nat := d.extract (k + G + 1) (k + G + 1 + T)
/-- How a neighbourhood is cut, in memory. -/
def HB (b G T : Nat) (w : World) : Prop := w.cell? ⟨b, 1, none⟩ = some (.int .i64 G) ∧ w.cell? ⟨b, 2, none⟩ = some (.int .i64 T)
theorem SV.cut {w : World} {p : Option Addr} {n cap : Nat} {d : Array Nat} (h : SV w p n cap d) {a b : Nat} (hab : a ≤ b) (hb : b ≤ n) : ∀ q : Option Addr, (∀ (g o : Nat), p = some ⟨g, o, none⟩ → a < b → q = some ⟨g, o + a, none⟩) → SV w q (b - a) (cap - a) (d.extract a b) := by
  intro q hq
  have hl := h.len
  have hc := h.cap
  refine ⟨by simp; omega, by omega, fit_sub h.fit a b (by omega), fun hp => ?_⟩
  obtain ⟨g, o, e, r⟩ := h.rd (by omega)
  exact ⟨g, o + a, hq g o e (by omega), reads_sub r a b (by omega)⟩
theorem at_add (g o k : Nat) : Option.map (fun x : Addr => x.add k) (some ⟨g, o, none⟩) = some ⟨g, o + k, none⟩ := by
  show some (Addr.add _ _) = _
  unfold Addr.add
  split
  · rename_i h; rw [h]; rfl
  · rfl
set_option maxHeartbeats 1000000 in
theorem t49 {w : World} {p : Option Addr} {n cap at0 G T : Nat} {d : Array Nat} (f : Value) (N : Nat) (h : SV w p n cap d) (hn : n ≤ 16384) (hk : at0 < n) (hG : G ≤ 16384) (hT : T ≤ 16384) :
    Calls Tryz.prog 173 #[.agg #[f, .int .i64 G, .int .i64 T, .int .i64 N], .slice p n cap, .int .i64 at0] w fun e w' => ∃ p1 n1 c1 p2 n2 c2, e = .returned (.tuple #[.slice p1 n1 c1, .slice p2 n2 c2]) ∧ Hid (SV w' p1 n1 c1 (lef d at0 G T)) ∧ Hid (SV w' p2 n2 c2 (rig d at0 G T)) ∧ (n1 ≤ 16384 ∧ n2 ≤ 16384) ∧ Hid (Up w w') := by
  have H : Hid (SV w p n cap d) := h
  have hc := h.cap
  clear h
  obtain ⟨lo, hlo⟩ : ∃ lo, at0 - G = lo := ⟨_, rfl⟩
  obtain ⟨be, hbe⟩ : ∃ be, min (at0 + G + 1) n = be := ⟨_, rfl⟩
  obtain ⟨ll, hll⟩ : ∃ ll, lo - T = ll := ⟨_, rfl⟩
  obtain ⟨bb, hbb⟩ : ∃ bb, min (be + T) n = bb := ⟨_, rfl⟩
  have m1 : max ((at0 : Int) - (G : Int)) 0 = (lo : Int) := by omega
  have m2 : min ((at0 : Int) + (G : Int) + 1) (n : Int) = (be : Int) := by omega
  have m3 : max ((lo : Int) - (T : Int)) 0 = (ll : Int) := by omega
  have m4 : min ((be : Int) + (T : Int)) (n : Int) = (bb : Int) := by omega
  have HE : Hid (at0 - G = lo ∧ min (at0 + G + 1) n = be ∧ lo - T = ll ∧ min (be + T) n = bb) := ⟨hlo, hbe, hll, hbb⟩
  clear hlo hbe hll hbb
  go_enter Tryz.func173, Tryz.ntmps173
  go_wp2_with fail
  refine wp_region_ord 14 [(0, none), (1, none), (2, some false), (3, none), (4, none), (5, none), (6, none), (7, some false), (8, none), (9, none), (10, none), (11, none), (12, none), (13, none)] (HB w.heap.size G T) (by kernel_rfl) (by decide) rfl (by kernel_rfl) (fun _ _ d _ _ h => by cases d <;> exact h) (by exact ⟨World.cell?_alloc_at _ _ _ _ rfl, World.cell?_alloc_at _ _ _ _ rfl⟩) ?_
  refine ⟨_, .int .i64 at0, some 10, rfl, rfl, Or.inl ⟨rfl, fun w' hS => ?_⟩, ?_⟩
  · go_simp
  refine ⟨_, .pointer (some ⟨w.heap.size, 1, none⟩), some 11, rfl, rfl, Or.inl ⟨rfl, fun w' hS => ?_⟩, ?_⟩
  · go_simp
  refine ⟨_, .int .i64 G, some 12, rfl, rfl, Or.inl ⟨rfl, fun w' hS => ?_⟩, ?_⟩
  · have l1 := (hS : HB w.heap.size G T w').1
    go_simp
  refine ⟨_, .int .i64 ((at0 : Int) - G), some 13, rfl, rfl, Or.inl ⟨rfl, fun w' hS => ?_⟩, ?_⟩
  · go_simp
    rw [IntKind.wrap_i64]; omega
  refine ⟨_, .int .i64 lo, some 14, rfl, rfl, Or.inl ⟨rfl, fun w' hS => ?_⟩, ?_⟩
  · go_simp
    (split <;> omega)
  refine ⟨_, .int .i64 at0, some 15, rfl, rfl, Or.inl ⟨rfl, fun w' hS => ?_⟩, ?_⟩
  · go_simp
  refine ⟨_, .pointer (some ⟨w.heap.size, 1, none⟩), some 16, rfl, rfl, Or.inl ⟨rfl, fun w' hS => ?_⟩, ?_⟩
  · go_simp
  refine ⟨_, .int .i64 G, some 17, rfl, rfl, Or.inl ⟨rfl, fun w' hS => ?_⟩, ?_⟩
  · have l1 := (hS : HB w.heap.size G T w').1
    go_simp
  refine ⟨_, .int .i64 ((at0 : Int) + G), some 18, rfl, rfl, Or.inl ⟨rfl, fun w' hS => ?_⟩, ?_⟩
  · go_simp
    rw [IntKind.wrap_i64]; omega
  refine ⟨_, .int .i64 ((at0 : Int) + G + 1), some 19, rfl, rfl, Or.inl ⟨rfl, fun w' hS => ?_⟩, ?_⟩
  · go_simp
    rw [IntKind.wrap_i64]; omega
  refine ⟨_, .slice p n cap, some 20, rfl, rfl, Or.inl ⟨rfl, fun w' hS => ?_⟩, ?_⟩
  · go_simp
  refine ⟨_, .int .i64 n, some 21, rfl, rfl, Or.inl ⟨rfl, fun w' hS => ?_⟩, ?_⟩
  · go_simp
  refine ⟨_, .int .i64 be, some 22, rfl, rfl, Or.inl ⟨rfl, fun w' hS => ?_⟩, ?_⟩
  · go_simp
    (split <;> omega)
  refine ⟨_, .int .i64 lo, some 8, rfl, rfl, Or.inl ⟨rfl, fun w' hS => ?_⟩, ?_⟩
  · go_simp
  simp only [OrdW, List.drop_succ_cons, List.drop_zero, Act.put, List.setIfInBounds_toArray, List.set_cons_succ, List.set_cons_zero]
  go_wp2_with fail
  obtain ⟨pl, hpl⟩ : ∃ q, q = (if cap = ll then p else Option.map (fun x => x.add ll) p) := ⟨_, rfl⟩
  obtain ⟨pr, hpr⟩ : ∃ q, q = (if cap = be then p else Option.map (fun x => x.add be) p) := ⟨_, rfl⟩
  have HPL : Hid _ := hpl
  have HPR : Hid _ := hpr
  clear hpl hpr
  obtain ⟨e1, e2, e3, e4⟩ := HE.out
  have q1 : lo ≤ cap := by omega
  have q2 : ll ≤ lo := by omega
  have q3 : bb ≤ cap := by omega
  have q4 : be ≤ bb := by omega
  have q5 : bb - be ≤ 16384 := by omega
  have q6 : lo - ll ≤ 16384 := by omega
  clear e1 e2 e3 e4
  refine wp_region_ord 19 [(0, none), (1, none), (2, none), (3, some false), (4, none), (5, none), (6, none), (7, none), (8, none), (9, none), (10, none), (11, none), (12, some false), (13, none), (14, none), (15, none), (16, none), (17, none), (18, none)] (HB w.heap.size G T) (by kernel_rfl) (by decide) rfl (by kernel_rfl) (fun _ _ d _ _ h => by cases d <;> exact h) (by exact ⟨World.cell?_alloc_at _ _ _ _ rfl, World.cell?_alloc_at _ _ _ _ rfl⟩) ?_
  refine ⟨_, .slice p n cap, some 23, rfl, rfl, Or.inl ⟨rfl, fun w' hS => ?_⟩, ?_⟩
  · go_simp
  refine ⟨_, .int .i64 lo, some 24, rfl, rfl, Or.inl ⟨rfl, fun w' hS => ?_⟩, ?_⟩
  · go_simp
  refine ⟨_, .pointer (some ⟨w.heap.size, 2, none⟩), some 25, rfl, rfl, Or.inl ⟨rfl, fun w' hS => ?_⟩, ?_⟩
  · go_simp
  refine ⟨_, .int .i64 T, some 26, rfl, rfl, Or.inl ⟨rfl, fun w' hS => ?_⟩, ?_⟩
  · have l1 := (hS : HB w.heap.size G T w').2
    go_simp
  refine ⟨_, .int .i64 ((lo : Int) - T), some 27, rfl, rfl, Or.inl ⟨rfl, fun w' hS => ?_⟩, ?_⟩
  · go_simp
    rw [IntKind.wrap_i64]; omega
  refine ⟨_, .int .i64 ll, some 28, rfl, rfl, Or.inl ⟨rfl, fun w' hS => ?_⟩, ?_⟩
  · go_simp
    (split <;> omega)
  refine ⟨_, .int .i64 lo, some 29, rfl, rfl, Or.inl ⟨rfl, fun w' hS => ?_⟩, ?_⟩
  · go_simp
  refine ⟨_, .slice pl (lo - ll) (cap - ll), some 30, rfl, rfl, Or.inl ⟨rfl, fun w' hS => ?_⟩, ?_⟩
  · go_simp
    exact HPL.out.symm
  refine ⟨_, .slice p n cap, some 31, rfl, rfl, Or.inl ⟨rfl, fun w' hS => ?_⟩, ?_⟩
  · go_simp
  refine ⟨_, .int .i64 be, some 32, rfl, rfl, Or.inl ⟨rfl, fun w' hS => ?_⟩, ?_⟩
  · go_simp
  refine ⟨_, .int .i64 be, some 33, rfl, rfl, Or.inl ⟨rfl, fun w' hS => ?_⟩, ?_⟩
  · go_simp
  refine ⟨_, .pointer (some ⟨w.heap.size, 2, none⟩), some 34, rfl, rfl, Or.inl ⟨rfl, fun w' hS => ?_⟩, ?_⟩
  · go_simp
  refine ⟨_, .int .i64 T, some 35, rfl, rfl, Or.inl ⟨rfl, fun w' hS => ?_⟩, ?_⟩
  · have l1 := (hS : HB w.heap.size G T w').2
    go_simp
  refine ⟨_, .int .i64 ((be : Int) + T), some 36, rfl, rfl, Or.inl ⟨rfl, fun w' hS => ?_⟩, ?_⟩
  · go_simp
    rw [IntKind.wrap_i64]; omega
  refine ⟨_, .slice p n cap, some 37, rfl, rfl, Or.inl ⟨rfl, fun w' hS => ?_⟩, ?_⟩
  · go_simp
  refine ⟨_, .int .i64 n, some 38, rfl, rfl, Or.inl ⟨rfl, fun w' hS => ?_⟩, ?_⟩
  · go_simp
  refine ⟨_, .int .i64 bb, some 39, rfl, rfl, Or.inl ⟨rfl, fun w' hS => ?_⟩, ?_⟩
  · go_simp
    (split <;> omega)
  refine ⟨_, .slice pr (bb - be) (cap - be), some 40, rfl, rfl, Or.inl ⟨rfl, fun w' hS => ?_⟩, ?_⟩
  · go_simp
    exact HPR.out.symm
  refine ⟨_, .slice pl (lo - ll) (cap - ll), some 6, rfl, rfl, Or.inl ⟨rfl, fun w' hS => ?_⟩, ?_⟩
  · go_simp
  simp only [OrdW, List.drop_succ_cons, List.drop_zero, Act.put, List.setIfInBounds_toArray, List.set_cons_succ, List.set_cons_zero]
  go_wp2
  go_ret2
  refine ⟨pl, lo - ll, cap - ll, pr, bb - be, cap - be, rfl, ?_, ?_, ⟨q6, q5⟩, ((Up.alloc _ _).trans (Up.drewN _ 1)).trans (Up.drewN _ 1)⟩
  · have := (H.out.up ((Up.alloc w (.cells #[f, .int .i64 G, .int .i64 T, .int .i64 N] 146)).trans (Up.drewN _ 2))).cut (a := ll) (b := lo) q2 (by have := HE.out; omega) pl (fun g o e h => by rw [HPL.out, if_neg (by omega), e]; exact at_add g o ll)
    obtain ⟨e1, e2, e3, e4⟩ := HE.out
    show SV _ _ _ _ (lef d at0 G T)
    unfold lef
    rw [e1, e3]; exact this
  · have := (H.out.up ((Up.alloc w (.cells #[f, .int .i64 G, .int .i64 T, .int .i64 N] 146)).trans (Up.drewN _ 2))).cut (a := be) (b := bb) q4 (by have := HE.out; omega) pr (fun g o e h => by rw [HPR.out, if_neg (by omega), e]; exact at_add g o be)
    obtain ⟨e1, e2, e3, e4⟩ := HE.out
    show SV _ _ _ _ (rig d at0 G T)
    rw [show rig d at0 G T = d.extract be bb by
      have hl := H.out.len
      refine Array.ext (by unfold rig; simp; omega) (fun i h1 h2 => ?_)
      have h3 : i < min (at0 + G + 1 + T) d.size - (at0 + G + 1) := by simpa [rig] using h1
      simp only [rig, Array.getElem_extract]
      have : at0 + G + 1 = be := by omega
      simp only [this]]
    exact this
end Go.Proofs.YtflngnnoibkkoaaGreat.Cf
/- The level of a place; whether what stands there is an echo. -/
namespace Go.Proofs.YtflngnnoibkkoaaGreat.Cf
open Go.ChangeShapes Go.WideShapes Go.ChangeAt Go.RowKit Go.Fl Go.Sort
set_option maxRecDepth 200000
set_option maxHeartbeats 8000000
attribute [local go_sem] run_store_float call35 call46 run_neg fold_eq fold_ne fold_lt fold_gt abs_eq

/-- The level of cells on both sides. -/
def levD (way : Int) (nth : Nat) (L R : Array Nat) : Option Nat :=
  if L.size + R.size = 0 then some 9218868437227405312 else if way = 3 then nthD (L ++ R) (min nth (L.size + R.size - 1)) else if way = 1 ∨ way = 2 then oneD way L R else meanD (L ++ R)
def lvD (way : Int) (G T nth : Nat) (d : Array Nat) (k : Nat) : Option Nat := levD way nth (lef d k G T) (rig d k G T)
theorem beq_no {n1 n2 : Nat} (h : ((n1 : Int) + (n2 : Int) == 0) = false) : 0 < n1 + n2 := by
  rw [beq_eq_false_iff_ne] at h; omega
theorem beq_yes {n1 n2 : Nat} (h : ((n1 : Int) + (n2 : Int) == 0) = true) : n1 + n2 = 0 := by
  rw [beq_iff_eq] at h; omega
theorem box4 (w : World) (a b c d : Value) (k : Nat) (v : Value) (h : #[a, b, c, d][k]? = some v) : (w.alloc (.cells #[a, b, c, d] 146)).cell? ⟨w.heap.size, k, none⟩ = some v := (World.cell?_alloc_at _ _ _ _ rfl).trans h
theorem inf_ab : ab 9218868437227405312 = some 9218868437227405312 := by decide +kernel
set_option maxHeartbeats 1000000 in
theorem t32 {w : World} {p : Option Addr} {n cap at0 G T N : Nat} {d : Array Nat} {way : Int} {f : Value} (hL : Lev w way f) (h : SV w p n cap d) (hn : n ≤ 16384) (hk : at0 < n) (hG : G ≤ 16384) (hT : T ≤ 16384) :
    Calls Tryz.prog 145 #[.agg #[f, .int .i64 G, .int .i64 T, .int .i64 N], .slice p n cap, .int .i64 at0] w (FU w (lvD way G T N d at0)) := by
  have H : Hid (SV w p n cap d) := h
  have HL : Hid (Lev w way f) := hL
  clear h hL
  have C49 : Hid (∀ W, Up w W → Calls Tryz.prog 173 #[.agg #[f, .int .i64 G, .int .i64 T, .int .i64 N], .slice p n cap, .int .i64 at0] W fun e w' => ∃ p1 n1 c1 p2 n2 c2, e = .returned (.tuple #[.slice p1 n1 c1, .slice p2 n2 c2]) ∧ Hid (SV w' p1 n1 c1 (lef d at0 G T)) ∧ Hid (SV w' p2 n2 c2 (rig d at0 G T)) ∧ (n1 ≤ 16384 ∧ n2 ≤ 16384) ∧ Hid (Up W w')) := fun W hu => t49 f N (H.out.up hu) hn hk hG hT
  rcases HL.out with ⟨b, hw, rfl, hb⟩ | ⟨rfl, rfl⟩ | ⟨hw1, hw2, hw3, rfl⟩
  · clear HL
    go_enter Tryz.func145, Tryz.ntmps145
    go_wp2_with (first
      | (go_at_call 173; (with_reducible refine (C49.out _ (Up.alloc _ _)).mono ?_); rintro e w1 ⟨p1, n1, c1, p2, n2, c2, rfl, S1, S2, ⟨b1, b2⟩, HU⟩; (have x0 := cell_up (box4 w _ _ _ _ 0 _ rfl) HU.out); (have x3 := cell_up (box4 w _ _ _ _ 3 _ rfl) HU.out); clear C49)
      | (go_at_call 174; (with_reducible refine (t50 _).mono ?_); rintro e w' ⟨rfl, hw⟩; subst w')
      | (go_at_call 196; (with_reducible refine (t69 (way := way) _ hw (cell_up hb ((Up.alloc _ _).trans HU.out)) S1.out S2.out (by omega) (by omega) (beq_no (by assumption))).mono ?_); rintro e w2 ⟨r, rfl, hr, HU2⟩))
    · go_ret
      refine FU.mk ?_ ((Up.alloc _ _).trans HU.out)
      unfold lvD levD
      rw [if_pos (by rw [S1.out.len, S2.out.len]; exact beq_yes (by assumption))]; exact inf_ab
    · go_ret
      refine FU.mk ?_ (((Up.alloc _ _).trans HU.out).trans HU2.out)
      unfold lvD levD
      rw [hr.out, if_neg (by rw [S1.out.len, S2.out.len]; exact Nat.ne_of_gt (beq_no (by assumption))), if_neg (by omega), if_pos hw]
  · clear HL
    go_enter Tryz.func145, Tryz.ntmps145
    go_wp2_with (first
      | (go_at_call 173; (with_reducible refine (C49.out _ (Up.alloc _ _)).mono ?_); rintro e w1 ⟨p1, n1, c1, p2, n2, c2, rfl, S1, S2, ⟨b1, b2⟩, HU⟩; (have x0 := cell_up (box4 w _ _ _ _ 0 _ rfl) HU.out); (have x3 := cell_up (box4 w _ _ _ _ 3 _ rfl) HU.out); clear C49)
      | (go_at_call 174; (with_reducible refine (t50 _).mono ?_); rintro e w' ⟨rfl, hw⟩; subst w')
      | (go_at_call 171; (with_reducible refine (t63 (k := N) S1.out S2.out (by omega) (by omega) (beq_no (by assumption))).mono ?_); rintro e w2 ⟨r, rfl, hr, HU2⟩))
    · go_ret
      refine FU.mk ?_ ((Up.alloc _ _).trans HU.out)
      unfold lvD levD
      rw [if_pos (by rw [S1.out.len, S2.out.len]; exact beq_yes (by assumption))]; exact inf_ab
    · go_ret
      refine FU.mk ?_ (((Up.alloc _ _).trans HU.out).trans HU2.out)
      unfold lvD levD
      rw [hr.out, if_neg (by rw [S1.out.len, S2.out.len]; exact Nat.ne_of_gt (beq_no (by assumption))), if_pos rfl, S1.out.len, S2.out.len]
  · clear HL
    go_enter Tryz.func145, Tryz.ntmps145
    go_wp2_with (first
      | (go_at_call 173; (with_reducible refine (C49.out _ (Up.alloc _ _)).mono ?_); rintro e w1 ⟨p1, n1, c1, p2, n2, c2, rfl, S1, S2, ⟨b1, b2⟩, HU⟩; (have x0 := cell_up (box4 w _ _ _ _ 0 _ rfl) HU.out); (have x3 := cell_up (box4 w _ _ _ _ 3 _ rfl) HU.out); clear C49)
      | (go_at_call 174; (with_reducible refine (t50 _).mono ?_); rintro e w' ⟨rfl, hw⟩; subst w')
      | (go_at_call 167; (with_reducible refine (t59 _ S1.out S2.out (by omega) (by omega) (beq_no (by assumption))).mono ?_); rintro e w2 ⟨r, rfl, hr, HU2⟩))
    · go_ret
      refine FU.mk ?_ ((Up.alloc _ _).trans HU.out)
      unfold lvD levD
      rw [if_pos (by rw [S1.out.len, S2.out.len]; exact beq_yes (by assumption))]; exact inf_ab
    · go_ret
      refine FU.mk ?_ (((Up.alloc _ _).trans HU.out).trans HU2.out)
      unfold lvD levD
      rw [hr.out, if_neg (by rw [S1.out.len, S2.out.len]; exact Nat.ne_of_gt (beq_no (by assumption))), if_neg hw3, if_neg (by omega)]
end Go.Proofs.YtflngnnoibkkoaaGreat.Cf
/- Whether what stands at a place is an echo. -/
namespace Go.Proofs.YtflngnnoibkkoaaGreat.Cf
open Go.ChangeShapes Go.WideShapes Go.ChangeAt Go.RowKit Go.Fl Go.Sort
set_option maxRecDepth 200000
set_option maxHeartbeats 8000000
attribute [local go_sem] run_store_float call35 call46 run_neg fold_eq fold_ne fold_lt fold_gt abs_eq

theorem wpOp_fl {P : Program} {ops : Array Oper} {Q : Exit → Act → World → Prop} {K : Act → World → Prop} {a : Act} {w : World} {m : Nat} {o : Oper} {op : BinOp} {t1 t2 : TypeId} {x y : Operand} (ho : ops[m]? = some o) (hg : o.guard = none) (hop : o.op = .binOp op t1 x y t2) (p q : Nat) (hx : a.eval x = .float .f64 p) (hy : a.eval y = .float .f64 q) (h4 : op = .add ∨ op = .sub ∨ op = .mul ∨ op = .quo)
    (h : ∀ r n, Hid (ab r = bin op (ab p) (ab q)) → K (a.put o.dst (.float .f64 r)) (w.drewN n)) : wpOp P ops Q m K a w := by
  unfold wpOp
  have hw : Region.wanted o (yielded ops a.tmps) = true := by simp [Region.wanted, hg]
  simp only [ho, hw, if_true]
  left
  unfold Oper.wp
  obtain ⟨r, n, e, hr⟩ := run_fl (P := P) op t1 p q w h4
  have e2 : (execOp a.eval o).run P w = .ok (.value (.float .f64 r)) (w.drewN n) := by
    rcases h4 with rfl | rfl | rfl | rfl <;> simp [execOp, hop, hx, hy, eqGuard, e]
  rw [e2]
  exact h r n hr
/-- Greater than its level, so many times. -/
def echoD (way : Int) (G T nth : Nat) (t : Option Nat) (d : Array Nat) (k : Nat) : Bool := gtF (ab d[k]!) (bin .mul (lvD way G T nth d k) t)
def EB (w : World) (v : Bool) (e : Ending) (w' : World) : Prop := e = .returned (.bool v) ∧ Hid (Up w w')
def EC (b blk k x : Nat) (f : Value) (G T N : Nat) (W : World) : Prop := W.cell? ⟨blk, k, none⟩ = some (.float .f64 x) ∧ W.cell? ⟨b, 0, none⟩ = some f ∧ W.cell? ⟨b, 1, none⟩ = some (.int .i64 G) ∧ W.cell? ⟨b, 2, none⟩ = some (.int .i64 T) ∧ W.cell? ⟨b, 3, none⟩ = some (.int .i64 N)
theorem EC.up {b blk k x : Nat} {f : Value} {G T N : Nat} {W W' : World} (h : EC b blk k x f G T N W) (hu : Up W W') : EC b blk k x f G T N W' := ⟨cell_up h.1 hu, cell_up h.2.1 hu, cell_up h.2.2.1 hu, cell_up h.2.2.2.1 hu, cell_up h.2.2.2.2 hu⟩
theorem eg32 (args : Array Value) (w : World) : (callFunc 145 args).run Tryz.prog w = .ok (.enter 145 args) w := enters Tryz.func145 (by kernel_rfl) (by kernel_rfl) _ _
theorem lev_one {w : World} {way : Int} {f : Value} (h : Lev w way f) : ∃ k a b, f = .func k a b := by
  rcases h with ⟨b, _, rfl, _⟩ | ⟨_, rfl⟩ | ⟨_, _, _, rfl⟩ <;> exact ⟨_, _, _, rfl⟩
set_option maxHeartbeats 1000000 in
theorem t38 {w : World} {p : Option Addr} {n cap at0 G T N t : Nat} {d : Array Nat} {way : Int} {f : Value} (hL : Lev w way f) (h : SV w p n cap d) (hn : n ≤ 16384) (hk : at0 < n) (hG : G ≤ 16384) (hT : T ≤ 16384) :
    Calls Tryz.prog 119 #[.agg #[f, .int .i64 G, .int .i64 T, .int .i64 N], .slice p n cap, .int .i64 at0, .float .f64 t] w (EB w (echoD way G T N (ab t) d at0)) := by
  have H : Hid (SV w p n cap d) := h
  have HL : Hid (Lev w way f) := hL
  obtain ⟨blk, off, rfl, hr⟩ := h.rd (by omega)
  obtain ⟨x, hx⟩ : ∃ x, d[at0]! = x := ⟨_, rfl⟩
  have cx := hr at0 (by rw [h.len]; exact hk)
  rw [hx] at cx
  have HX : Hid (d[at0]! = x) := hx
  have CX : Hid (w.cell? ⟨blk, off + at0, none⟩ = some (.float .f64 x)) := cx
  clear h hL hr hx cx
  obtain ⟨fk, fa, fb, hf⟩ := lev_one HL.out
  have q1 : (at0 : Int) < (n : Int) := by omega
  have C32 : Hid (∀ W, Up w W → Calls Tryz.prog 145 #[.agg #[f, .int .i64 G, .int .i64 T, .int .i64 N], .slice (some ⟨blk, off, none⟩) n cap, .int .i64 at0] W (FU W (lvD way G T N d at0))) := fun W hu => t32 (HL.out.up hu) (H.out.up hu) hn hk hG hT
  subst hf
  go_enter Tryz.func119, Tryz.ntmps119
  go_wp2_with fail
  refine wp_region_ord 10 [(0, none), (1, none), (2, none), (3, some false), (4, some false), (5, none), (6, none), (8, none), (7, some true), (9, some true)] (EC w.heap.size blk (off + at0) x (.func fk fa fb) G T N) (by kernel_rfl) (by decide) rfl (by kernel_rfl) (fun _ _ d _ _ h => by cases d <;> exact h) (by exact ⟨cell_up CX.out ((Up.alloc _ _).trans (Up.drewN _ 1)), box4 w _ _ _ _ 0 _ rfl, box4 w _ _ _ _ 1 _ rfl, box4 w _ _ _ _ 2 _ rfl, box4 w _ _ _ _ 3 _ rfl⟩) ?_
  refine ⟨_, .slice (some ⟨blk, off, none⟩) n cap, some 9, rfl, rfl, Or.inl ⟨rfl, fun w' hS => ?_⟩, ?_⟩
  · go_simp
  refine ⟨_, .int .i64 at0, some 10, rfl, rfl, Or.inl ⟨rfl, fun w' hS => ?_⟩, ?_⟩
  · go_simp
  refine ⟨_, .pointer (some ⟨blk, off + at0, none⟩), some 11, rfl, rfl, Or.inl ⟨rfl, fun w' hS => ?_⟩, ?_⟩
  · go_simp
  refine ⟨_, .float .f64 x, some 12, rfl, rfl, Or.inl ⟨rfl, fun w' hS => ?_⟩, ?_⟩
  · obtain ⟨l0, l1, l2, l3, l4⟩ := hS
    go_simp
  refine ⟨_, .agg #[.func fk fa fb, .int .i64 G, .int .i64 T, .int .i64 N], some 13, rfl, rfl, Or.inl ⟨rfl, fun w' hS => ?_⟩, ?_⟩
  · obtain ⟨l0, l1, l2, l3, l4⟩ := hS
    go_simp
  refine ⟨_, .slice (some ⟨blk, off, none⟩) n cap, some 14, rfl, rfl, Or.inl ⟨rfl, fun w' hS => ?_⟩, ?_⟩
  · go_simp
  refine ⟨_, .int .i64 at0, some 15, rfl, rfl, Or.inl ⟨rfl, fun w' hS => ?_⟩, ?_⟩
  · go_simp
  refine ⟨_, .float .f64 t, some 17, rfl, rfl, Or.inl ⟨rfl, fun w' hS => ?_⟩, ?_⟩
  · go_simp
  refine wpOp_call (f := 145) rfl rfl rfl #[.agg #[.func fk fa fb, .int .i64 G, .int .i64 T, .int .i64 N], .slice (some ⟨blk, off, none⟩) n cap, .int .i64 at0] (by kernel_rfl) (eg32 _ _) ?_
  refine (C32.out _ ((Up.alloc _ _).trans (Up.drewN _ 1))).mono ?_
  rintro e w1 ⟨r, rfl, hr, HU⟩
  refine ⟨_, rfl, EC.up ?_ HU.out, ?_⟩
  · exact ⟨cell_up CX.out ((Up.alloc _ _).trans (Up.drewN _ 1)), box4 w _ _ _ _ 0 _ rfl, box4 w _ _ _ _ 1 _ rfl, box4 w _ _ _ _ 2 _ rfl, box4 w _ _ _ _ 3 _ rfl⟩
  refine wpOp_fl rfl rfl rfl r t (by kernel_rfl) (by kernel_rfl) (Or.inr (Or.inr (Or.inl rfl))) ?_
  intro r2 k2 hr2
  refine ⟨EC.up (EC.up ?_ HU.out) (Up.drewN _ _), ?_⟩
  · exact ⟨cell_up CX.out ((Up.alloc _ _).trans (Up.drewN _ 1)), box4 w _ _ _ _ 0 _ rfl, box4 w _ _ _ _ 1 _ rfl, box4 w _ _ _ _ 2 _ rfl, box4 w _ _ _ _ 3 _ rfl⟩
  simp only [OrdW, List.drop_succ_cons, List.drop_zero, Act.put, List.setIfInBounds_toArray, List.set_cons_succ, List.set_cons_zero]
  go_wp2
  go_ret
  refine ⟨?_, (((Up.alloc _ _).trans (Up.drewN _ 1)).trans HU.out).trans (Up.drewN _ _)⟩
  unfold echoD
  rw [HX.out, ← hr.out, ← hr2.out]
  rfl
end Go.Proofs.YtflngnnoibkkoaaGreat.Cf
