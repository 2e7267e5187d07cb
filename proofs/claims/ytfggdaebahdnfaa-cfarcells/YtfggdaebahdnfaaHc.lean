/- The levellers: the mean of all, one side's mean, what stands at a place in order; the table of them. -/
import Derived.Test.YtfggdaebahdnfaaHb
import Derived.Test.YtfggdaebahdnfaaE
import Derived.BigQuiet
namespace Go.Proofs.Ytfggdaebahdnfaa
open Go.ChangeShapes Go.WideShapes Go.ChangeAt Go.RowKit Go.Fl Go.Sort
attribute [local go_sem] run_store_float call35 call46 run_neg fold_eq fold_ne fold_lt fold_gt abs_eq

theorem run_min {P : Program} (ts : Array TypeId) (t : TypeId) (x y : Int) (w : World) : (Builtin.min_ ts t #[.int .i64 x, .int .i64 y]).run P w = .ok (.int .i64 (min x y)) w := by
  rcases Int.lt_or_le y x with h | h
  · rw [show min x y = y by omega]
    simp [Builtin.min_, Builtin.min2]; omega
  · rw [show min x y = x by omega]
    simp [Builtin.min_, Builtin.min2]; omega
theorem run_max {P : Program} (ts : Array TypeId) (t : TypeId) (x y : Int) (w : World) : (Builtin.max_ ts t #[.int .i64 x, .int .i64 y]).run P w = .ok (.int .i64 (max x y)) w := by
  rcases Int.lt_or_le x y with h | h
  · rw [show max x y = y by omega]
    simp [Builtin.max_, Builtin.max2]; omega
  · rw [show max x y = x by omega]
    simp [Builtin.max_, Builtin.max2]; omega
/-- The float of a key. -/
def unk (k : Nat) : Option Nat := if k = 2 ^ 64 - 1 then none else some (if 2 ^ 63 ≤ k then k - 2 ^ 63 else 2 ^ 64 - 1 - k)
theorem unk_key {x : Nat} (h : x < 2 ^ 64) : unk (key x) = ab x := by
  cases hN : isN x with
  | true => rw [key_nan hN, ab_none hN]; rfl
  | false =>
    have h1 := key_num hN h
    rw [ab_some hN]
    have e : key x = if x < 2 ^ 63 then x + 2 ^ 63 else 2 ^ 64 - 1 - x := by simp only [key, hN]; rfl
    unfold unk
    rw [if_neg (by omega), e]
    by_cases hx : x < 2 ^ 63
    · rw [if_pos hx, if_pos (by omega), Nat.add_sub_cancel]
    · rw [if_neg hx, if_neg (by omega), show 2 ^ 64 - 1 - (2 ^ 64 - 1 - x) = x by omega]
/-- What stands at a place in order. -/
def nthD (d : Array Nat) (k : Nat) : Option Nat := unk (kth d k)
theorem nth70 {w : World} {p : Option Addr} {n cap k : Nat} {i : Int} {d : Array Nat} (h : SV w p n cap d) (hi : i = (k : Int)) (hk : k < n) (hn : n ≤ 1000000) : Calls Try.prog 70 #[.slice p n cap, .int .i64 i] w fun e w' => ∃ x, e = .returned (.tuple #[.float .f64 x, .int .i64 0]) ∧ Hid (ab x = nthD d k) ∧ Hid (Up w w') := by
  subst hi
  obtain ⟨b, o, rfl, r⟩ := h.rd (by omega)
  have hl := h.len
  subst hl
  refine (t70 b o cap k d w r h.fit hk (by omega)).mono ?_
  rintro e w' ⟨x, he, hx, hu⟩
  exact ⟨x, he, by show _ = _; rw [← unk_key hx.out.1, hx.out.2]; rfl, hu⟩
theorem nth52 {w : World} {p : Option Addr} {n cap k : Nat} {i : Int} {d : Array Nat} (h : SV w p n cap d) (hi : i = (k : Int)) (hk : k < n) (hn : n ≤ 1000000) : Calls Try.prog 52 #[.slice p n cap, .int .i64 i] w fun e w' => ∃ x, e = .returned (.tuple #[.float .f64 x, .int .i64 0]) ∧ Hid (ab x = nthD d k) ∧ Hid (Up w w') := by
  subst hi
  obtain ⟨b, o, rfl, r⟩ := h.rd (by omega)
  have hl := h.len
  subst hl
  refine (t52 b o cap k d w r h.fit hk h.cap (by omega)).mono ?_
  rintro e w' ⟨x, he, hx, hu⟩
  exact ⟨x, he, by show _ = _; rw [← unk_key hx.out.1, hx.out.2]; rfl, hu⟩
theorem two_cells (w : World) (a b : Value) (k : Nat) : ((w.alloc (.cells #[a, b] 22)).drewN k).cell? ⟨w.heap.size, 0, none⟩ = some a ∧ ((w.alloc (.cells #[a, b] 22)).drewN k).cell? ⟨w.heap.size, 1, none⟩ = some b := ⟨World.cell?_alloc_at _ _ _ _ rfl, World.cell?_alloc_at _ _ _ _ rfl⟩
theorem cat68 {w : World} {n1 n2 c1 c2 : Nat} {p1 p2 : Option Addr} {d1 d2 : Array Nat} (s1 : SV w p1 n1 c1 d1) (s2 : SV w p2 n2 c2 d2) (b1 : n1 ≤ 20000) (b2 : n2 ≤ 20000) :
    Calls Try.prog 68 #[.slice (some ⟨w.heap.size, 0, none⟩) 2 2] (w.alloc (.cells #[.slice p1 n1 c1, .slice p2 n2 c2] 22)) (RV w (n1 + n2) (d1 ++ d2)) :=
  (t68 (two_cells w _ _ 0).1 (two_cells w _ _ 0).2 (s1.up (Up.alloc _ _)) (s2.up (Up.alloc _ _)) b1 b2).mono fun _ _ ⟨p, c, he, hs, hu⟩ => ⟨p, c, he, hs, (Up.alloc _ _).trans hu.out⟩
/-- The mean of all. -/
theorem t59 {w : World} {n1 n2 c1 c2 : Nat} {p1 p2 : Option Addr} {d1 d2 : Array Nat} (nth : Value) (s1 : SV w p1 n1 c1 d1) (s2 : SV w p2 n2 c2 d2) (b1 : n1 ≤ 20000) (b2 : n2 ≤ 20000) (hp : 0 < n1 + n2) :
    Calls Try.prog 59 #[.slice p1 n1 c1, .slice p2 n2 c2, nth] w (FU w (meanD (d1 ++ d2))) := by
  have S1 : Hid (SV w p1 n1 c1 d1) := s1
  have S2 : Hid (SV w p2 n2 c2 d2) := s2
  clear s1 s2
  go_enter Try.func59, Try.ntmps59
  go_wp2_with (first
    | (go_at_call 68; (with_reducible refine (cat68 S1.out S2.out b1 b2).mono ?_); rintro e w1 ⟨p, c, rfl, HS, HU⟩)
    | (go_at_call 67; (with_reducible refine (t67 HS.out hp (by omega)).mono ?_); rintro e w2 ⟨r, rfl, hr, HU2⟩))
  go_ret
  exact FU.mk hr.out (HU.out.trans HU2.out)
set_option maxHeartbeats 1000000 in
theorem t63 {w : World} {n1 n2 c1 c2 k : Nat} {p1 p2 : Option Addr} {d1 d2 : Array Nat} (s1 : SV w p1 n1 c1 d1) (s2 : SV w p2 n2 c2 d2) (b1 : n1 ≤ 20000) (b2 : n2 ≤ 20000) (hp : 0 < n1 + n2) :
    Calls Try.prog 63 #[.slice p1 n1 c1, .slice p2 n2 c2, .int .i64 k] w (FU w (nthD (d1 ++ d2) (min k (n1 + n2 - 1)))) := by
  have S1 : Hid (SV w p1 n1 c1 d1) := s1
  have S2 : Hid (SV w p2 n2 c2 d2) := s2
  clear s1 s2
  obtain ⟨N, hN⟩ : ∃ N, n1 + n2 = N := ⟨_, rfl⟩
  have HN : Hid (n1 + n2 = N) := hN
  obtain ⟨j, hj⟩ : ∃ j, min k (N - 1) = j := ⟨_, rfl⟩
  have HJ : Hid _ := hj
  have hmin : min (k : Int) ((N : Int) - 1) = (j : Int) := by omega
  have C68 : Hid (∀ W, SV W p1 n1 c1 d1 → SV W p2 n2 c2 d2 → Calls Try.prog 68 #[.slice (some ⟨W.heap.size, 0, none⟩) 2 2] (W.alloc (.cells #[.slice p1 n1 c1, .slice p2 n2 c2] 22)) (RV W N (d1 ++ d2))) := fun W h1 h2 => hN ▸ cat68 h1 h2 b1 b2
  have jN : j < N := by omega
  have bN : N ≤ 40000 := by omega
  have pN : (0 : Int) < (N : Int) := by omega
  rw [hN, hj]
  clear hN hj
  go_enter Try.func63, Try.ntmps63
  go_wp2_with (first
    | (go_at_call 68; (with_reducible refine (C68.out _ S1.out S2.out).mono ?_); rintro e w1 ⟨p, c, rfl, HS, HU⟩)
    | (go_at_call 70; (with_reducible refine (nth70 (k := j) HS.out (by omega) jN (by omega)).mono ?_); rintro e w2 ⟨x, rfl, hx, HU2⟩))
  all_goals (go_ret; exact FU.mk hx.out (HU.out.trans HU2.out))
/-- The greater or the lesser of two means, the right one's first. -/
def pickD (way : Int) (r l : Option Nat) : Option Nat := if way = 1 ∧ gtF r l = true ∨ way = 2 ∧ ltF r l = true then r else l
def oneD (way : Int) (L R : Array Nat) : Option Nat := if L.size = 0 then meanD R else if R.size = 0 then meanD L else pickD way (meanD R) (meanD L)
theorem t61 (x y : Nat) (w : World) : Calls Try.prog 61 #[.float .f64 x, .float .f64 y] w fun e w' => e = .returned (.bool (gtF (ab x) (ab y))) ∧ w' = w := by
  go_enter Try.func61, Try.ntmps61
  go_wp2
  go_ret
  exact ⟨rfl, rfl⟩
theorem t62 (x y : Nat) (w : World) : Calls Try.prog 62 #[.float .f64 x, .float .f64 y] w fun e w' => e = .returned (.bool (ltF (ab x) (ab y))) ∧ w' = w := by
  go_enter Try.func62, Try.ntmps62
  go_wp2
  go_ret
  exact ⟨rfl, rfl⟩
/-- What tells which side's mean is rather taken. -/
def ratherV (way : Int) : Value := if way = 1 then .func (.func 61) #[] #[] else .func (.func 62) #[] #[]
set_option maxHeartbeats 1000000 in
theorem t69 {w : World} {way : Int} {b n1 n2 c1 c2 : Nat} {p1 p2 : Option Addr} {d1 d2 : Array Nat} (nth : Value) (hw : way = 1 ∨ way = 2) (hb : w.cell? ⟨b, 0, none⟩ = some (ratherV way)) (s1 : SV w p1 n1 c1 d1) (s2 : SV w p2 n2 c2 d2) (b1 : n1 ≤ 20000) (b2 : n2 ≤ 20000) (hp : 0 < n1 + n2) :
    Calls Try.prog 69 #[.slice p1 n1 c1, .slice p2 n2 c2, nth, .pointer (some ⟨b, 0, none⟩)] w (FU w (oneD way d1 d2)) := by
  have S1 : Hid (SV w p1 n1 c1 d1) := s1
  have S2 : Hid (SV w p2 n2 c2 d2) := s2
  clear s1 s2
  rcases Nat.eq_zero_or_pos n1 with rfl | q1
  · go_enter Try.func69, Try.ntmps69
    go_wp2_with (go_at_call 67; (with_reducible refine (t67 S2.out (by omega) (by omega)).mono ?_); rintro e w2 ⟨r, rfl, hr, HU2⟩)
    go_ret
    refine FU.mk ?_ HU2.out
    rw [hr.out]; unfold oneD; rw [if_pos S1.out.len]
  rcases Nat.eq_zero_or_pos n2 with rfl | q2
  · have e1 : ((n1 : Int) == 0) = false := by rw [beq_eq_false_iff_ne]; omega
    go_enter Try.func69, Try.ntmps69
    go_wp2_with (go_at_call 67; (with_reducible refine (t67 S1.out (by omega) (by omega)).mono ?_); rintro e w2 ⟨r, rfl, hr, HU2⟩)
    go_ret
    refine FU.mk ?_ HU2.out
    rw [hr.out]; unfold oneD; rw [if_neg (by rw [S1.out.len]; omega), if_pos S2.out.len]
  have e1 : ((n1 : Int) == 0) = false := by rw [beq_eq_false_iff_ne]; omega
  have e2 : ((n2 : Int) == 0) = false := by rw [beq_eq_false_iff_ne]; omega
  have eD : oneD way d1 d2 = pickD way (meanD d2) (meanD d1) := by unfold oneD; rw [if_neg (by rw [S1.out.len]; omega), if_neg (by rw [S2.out.len]; omega)]
  rw [eD]
  clear eD
  rcases hw with rfl | rfl
  · have hb' : w.cell? ⟨b, 0, none⟩ = some (.func (.func 61) #[] #[]) := hb
    clear hb
    go_enter Try.func69, Try.ntmps69
    go_wp2_with (first
      | (go_at_call 67; (with_reducible refine (t67 S1.out q1 (by omega)).mono ?_); rintro e w2 ⟨r, rfl, hr, HU2⟩; have S2b : Hid (SV w2 p2 n2 c2 d2) := S2.out.up HU2.out)
      | (go_at_call 67; (with_reducible refine (t67 S2b.out q2 (by omega)).mono ?_); rintro e w3 ⟨r3, rfl, hr3, HU3⟩; have hb3 : w3.cell? ⟨b, 0, none⟩ = some (.func (.func 61) #[] #[]) := cell_up hb' (HU2.out.trans HU3.out))
      | (go_at_call 61; (with_reducible refine (t61 _ _ _).mono ?_); rintro e w' ⟨rfl, hw⟩; subst w'))
    all_goals
      go_ret
      go_tidy
      refine FU.mk ?_ (HU2.out.trans HU3.out)
      rw [← hr.out, ← hr3.out]
      simp_all [pickD]
  · have hb' : w.cell? ⟨b, 0, none⟩ = some (.func (.func 62) #[] #[]) := hb
    clear hb
    go_enter Try.func69, Try.ntmps69
    go_wp2_with (first
      | (go_at_call 67; (with_reducible refine (t67 S1.out q1 (by omega)).mono ?_); rintro e w2 ⟨r, rfl, hr, HU2⟩; have S2b : Hid (SV w2 p2 n2 c2 d2) := S2.out.up HU2.out)
      | (go_at_call 67; (with_reducible refine (t67 S2b.out q2 (by omega)).mono ?_); rintro e w3 ⟨r3, rfl, hr3, HU3⟩; have hb3 : w3.cell? ⟨b, 0, none⟩ = some (.func (.func 62) #[] #[]) := cell_up hb' (HU2.out.trans HU3.out))
      | (go_at_call 62; (with_reducible refine (t62 _ _ _).mono ?_); rintro e w' ⟨rfl, hw⟩; subst w'))
    all_goals
      go_ret
      go_tidy
      refine FU.mk ?_ (HU2.out.trans HU3.out)
      rw [← hr.out, ← hr3.out]
      simp_all [pickD]
/-- The leveller of a way. -/
def Lev (w : World) (way : Int) (f : Value) : Prop :=
  (∃ b, (way = 1 ∨ way = 2) ∧ f = .func (.func 69) #[] #[.pointer (some ⟨b, 0, none⟩)] ∧ w.cell? ⟨b, 0, none⟩ = some (ratherV way)) ∨ (way = 3 ∧ f = .func (.func 63) #[] #[]) ∨ (way ≠ 1 ∧ way ≠ 2 ∧ way ≠ 3 ∧ f = .func (.func 59) #[] #[])
theorem Lev.up {w w' : World} {way : Int} {f : Value} (h : Lev w way f) (hu : Up w w') : Lev w' way f := by
  rcases h with ⟨b, h1, h2, h3⟩ | h | h
  · exact Or.inl ⟨b, h1, h2, cell_up h3 hu⟩
  · exact Or.inr (Or.inl h)
  · exact Or.inr (Or.inr h)
theorem t60 (k : FuncId) (w : World) : Calls Try.prog 60 #[.func (.func k) #[] #[]] w fun e w' => e = .returned (.func (.func 69) #[] #[.pointer (some ⟨w.heap.size, 0, none⟩)]) ∧ Hid (w'.cell? ⟨w.heap.size, 0, none⟩ = some (.func (.func k) #[] #[])) ∧ Hid (Up w w') := by
  go_enter Try.func60, Try.ntmps60
  go_wp2
  go_ret
  exact ⟨rfl, World.cell?_alloc_at _ _ _ _ rfl, Up.alloc _ _⟩
theorem t47 (w : World) : Calls Try.prog 47 #[] w fun e w' => ∃ g b1 b2, e = .returned (.slice (some ⟨g, 0, none⟩) 4 4) ∧ Hid (w'.cell? ⟨b1, 0, none⟩ = some (ratherV 1)) ∧ Hid (w'.cell? ⟨b2, 0, none⟩ = some (ratherV 2)) ∧ Hid (w'.cell? ⟨g, 0, none⟩ = some (.func (.func 59) #[] #[])) ∧ Hid (w'.cell? ⟨g, 1, none⟩ = some (.func (.func 69) #[] #[.pointer (some ⟨b1, 0, none⟩)])) ∧ Hid (w'.cell? ⟨g, 2, none⟩ = some (.func (.func 69) #[] #[.pointer (some ⟨b2, 0, none⟩)])) ∧ Hid (w'.cell? ⟨g, 3, none⟩ = some (.func (.func 63) #[] #[])) ∧ Hid (Up w w') := by
  go_enter Try.func47, Try.ntmps47
  go_wp2_with (first
    | (go_at_call 60; (with_reducible refine (t60 61 w).mono ?_); rintro e w1 ⟨rfl, H1, HU1⟩)
    | (go_at_call 60; (with_reducible refine (t60 62 w1).mono ?_); rintro e w2 ⟨rfl, H2, HU2⟩))
  go_ret
  exact ⟨w2.heap.size, w.heap.size, w1.heap.size, rfl, cell_up H1.out (HU2.out.trans (Up.alloc _ _)), cell_up H2.out (Up.alloc _ _), World.cell?_alloc_at _ _ _ _ rfl, World.cell?_alloc_at _ _ _ _ rfl, World.cell?_alloc_at _ _ _ _ rfl, World.cell?_alloc_at _ _ _ _ rfl, (HU1.out.trans HU2.out).trans (Up.alloc _ _)⟩
theorem t30 {way : Int} (h1 : -128 ≤ way) (h2 : way ≤ 127) (w : World) : Calls Try.prog 30 #[.int .i8 way] w fun e w' => ∃ f, e = .returned f ∧ Hid (Lev w' way f) ∧ Hid (Up w w') := by
  rcases (show way = 1 ∨ way = 2 ∨ way = 3 ∨ way = 0 ∨ way < 0 ∨ 4 ≤ way by omega) with rfl | rfl | rfl | rfl | hn | hn
  · go_enter Try.func30, Try.ntmps30
    go_wp2_with (go_at_call 47; (with_reducible refine (t47 w).mono ?_); rintro e w1 ⟨g, b1, b2, rfl, R1, R2, C0, C1, C2, C3, HU⟩; have c0 := C0.out; have c1 := C1.out; have c2 := C2.out; have c3 := C3.out; clear C0 C1 C2 C3)
    all_goals (go_ret; go_tidy)
    all_goals exact ⟨_, rfl, Or.inl ⟨b1, Or.inl rfl, rfl, R1.out⟩, HU⟩
  · go_enter Try.func30, Try.ntmps30
    go_wp2_with (go_at_call 47; (with_reducible refine (t47 w).mono ?_); rintro e w1 ⟨g, b1, b2, rfl, R1, R2, C0, C1, C2, C3, HU⟩; have c0 := C0.out; have c1 := C1.out; have c2 := C2.out; have c3 := C3.out; clear C0 C1 C2 C3)
    all_goals (go_ret; go_tidy)
    all_goals exact ⟨_, rfl, Or.inl ⟨b2, Or.inr rfl, rfl, R2.out⟩, HU⟩
  · go_enter Try.func30, Try.ntmps30
    go_wp2_with (go_at_call 47; (with_reducible refine (t47 w).mono ?_); rintro e w1 ⟨g, b1, b2, rfl, R1, R2, C0, C1, C2, C3, HU⟩; have c0 := C0.out; have c1 := C1.out; have c2 := C2.out; have c3 := C3.out; clear C0 C1 C2 C3)
    all_goals (go_ret; go_tidy)
    all_goals exact ⟨_, rfl, Or.inr (Or.inl ⟨rfl, rfl⟩), HU⟩
  · go_enter Try.func30, Try.ntmps30
    go_wp2_with (go_at_call 47; (with_reducible refine (t47 w).mono ?_); rintro e w1 ⟨g, b1, b2, rfl, R1, R2, C0, C1, C2, C3, HU⟩; have c0 := C0.out; have c1 := C1.out; have c2 := C2.out; have c3 := C3.out; clear C0 C1 C2 C3)
    all_goals (go_ret; go_tidy)
    all_goals exact ⟨_, rfl, Or.inr (Or.inr ⟨by omega, by omega, by omega, rfl⟩), HU⟩
  · go_enter Try.func30, Try.ntmps30
    go_wp2_with (go_at_call 47; (with_reducible refine (t47 w).mono ?_); rintro e w1 ⟨g, b1, b2, rfl, R1, R2, C0, C1, C2, C3, HU⟩; have c0 := C0.out; have c1 := C1.out; have c2 := C2.out; have c3 := C3.out; clear C0 C1 C2 C3)
    all_goals (go_ret; go_tidy)
    all_goals exact ⟨_, rfl, Or.inr (Or.inr ⟨by omega, by omega, by omega, rfl⟩), HU⟩
  · go_enter Try.func30, Try.ntmps30
    go_wp2_with (go_at_call 47; (with_reducible refine (t47 w).mono ?_); rintro e w1 ⟨g, b1, b2, rfl, R1, R2, C0, C1, C2, C3, HU⟩; have c0 := C0.out; have c1 := C1.out; have c2 := C2.out; have c3 := C3.out; clear C0 C1 C2 C3)
    all_goals (go_ret; go_tidy)
    all_goals exact ⟨_, rfl, Or.inr (Or.inr ⟨by omega, by omega, by omega, rfl⟩), HU⟩
end Go.Proofs.Ytfggdaebahdnfaa
