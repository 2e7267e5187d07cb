/- A map is fed: the reference's. -/
import Derived.Test.YtgalgnopjcpocaaRb
namespace Go.Proofs.Ytgalgnopjcpocaa
open Go.ChangeShapes Go.WideShapes Go.ChangeAt Go.RowKit Go.Fl Ieee
attribute [local go_sem] run_store_float isSome_set call20 call33 run_neg fold_eq fold_ne fold_lt fold_gt abs_eq
theorem one_new' (w : World) (x : Value) (t : TypeId) {g : Nat} (hg : g = w.heap.size) : ∀ (j : Nat) (u : Value), [x][j]? = some u → (w.alloc (.cells #[x] t)).cell? ((⟨g, 0, none⟩ : Addr).add j) = some u := by
  subst hg; exact one_new w x t
/-- The reference's map under way: the first k gates are done. -/
structure FT (lo : Nat) (w wr : World) (M L n s pb po k : Nat) (fed : Bool) (lv : Nat → Option Nat) (f : Nat → Nat) (d vs : List Nat) (v : Value) : Prop where
  mp : MP lo wr M L n s fed d
  own : FO w.heap.size wr v vs
  two : Two M L w wr
  rf : RF wr pb po n f
  np : pb ≠ M
  nl : pb ≠ L
  ng : pb < w.heap.size
  lm : M < w.heap.size
  ll : L < w.heap.size
  done : ∀ i, i < k → ab vs[i]! = overF fed lv f i ∧ ab d[i]! = nextF (ab s) fed lv f i
  rest : ∀ i, k ≤ i → i < n → fed = true → ab d[i]! = lv i
theorem FT.drewN {lo : Nat} {w wr : World} {M L n s pb po k : Nat} {fed : Bool} {lv : Nat → Option Nat} {f : Nat → Nat} {d vs : List Nat} {v : Value} (h : FT lo w wr M L n s pb po k fed lv f d vs v) (j : Nat) : FT lo w (wr.drewN j) M L n s pb po k fed lv f d vs v :=
  ⟨h.mp.up (Up.drewN _ _), OR.up h.own (Up.drewN _ _), h.two.trans (Two.of_up (Up.drewN _ _)), h.rf.up (Up.drewN _ _), h.np, h.nl, h.ng, h.lm, h.ll, h.done, h.rest⟩
/-- A level is laid at the gate k. -/
theorem FT.lay {lo : Nat} {w wr : World} {M L n s pb po k : Nat} {fed : Bool} {lv : Nat → Option Nat} {f : Nat → Nat} {d vs : List Nat} {v : Value} (h : FT lo w wr M L n s pb po k fed lv f d vs v) (hk : k < n) (r : Nat) : MP lo (wr.setCell ⟨L, k, none⟩ (.float .f64 r)) M L n s fed (d.set k r) ∧ FO w.heap.size (wr.setCell ⟨L, k, none⟩ (.float .f64 r)) v vs ∧ Two M L w (wr.setCell ⟨L, k, none⟩ (.float .f64 r)) ∧ RF (wr.setCell ⟨L, k, none⟩ (.float .f64 r)) pb po n f ∧ (∀ i, i < k → ab vs[i]! = overF fed lv f i ∧ ab (d.set k r)[i]! = nextF (ab s) fed lv f i) ∧ (∀ i, k < i → i < n → fed = true → ab (d.set k r)[i]! = lv i) ∧ (d.set k r)[k]! = r := by
  obtain ⟨s1, s2⟩ := h.mp.put k r
  have g2 := h.ll
  have hl := h.mp.len
  refine ⟨s1, OR.far h.own s2 (fun e => by have := (h.own.lt L e).1; omega), h.two.trans (Two.of_x s2), h.rf.but s2 h.nl, fun i hi => ?_, fun i h1 h2 h3 => ?_, by rw [get_set' d k r (by omega), if_pos rfl]⟩
  · obtain ⟨q1, q2⟩ := h.done i hi
    exact ⟨q1, by rw [get_set' d k r (by omega), if_neg (by omega)]; exact q2⟩
  · rw [get_set' d k r (by omega), if_neg (by omega)]; exact h.rest i (by omega) h2 h3
/-- The level is laid anew, what is told is put behind. -/
theorem FT.next {lo : Nat} {w wr w1 : World} {M L n s pb po k : Nat} {fed : Bool} {lv : Nat → Option Nat} {f : Nat → Nat} {d vs : List Nat} {v : Value} {g cap x : Nat} {t : TypeId}
    (h1 : MP lo wr M L n s fed d) (h2 : FO w.heap.size wr v vs) (h3 : Two M L w wr) (h4 : RF wr pb po n f) (h5 : ∀ i, i < k → ab vs[i]! = overF fed lv f i ∧ ab d[i]! = nextF (ab s) fed lv f i) (h6 : ∀ i, k < i → i < n → fed = true → ab d[i]! = lv i)
    (np : pb ≠ M) (nl : pb ≠ L) (ng : pb < w.heap.size) (lm : M < w.heap.size) (ll : L < w.heap.size) (hv : vs.length = k) (hr : ab d[k]! = nextF (ab s) fed lv f k) (hx : ab x = overF fed lv f k)
    (hown : w1.ownsRow w.heap.size 26 1 (.slice (some ⟨g, 0, none⟩) (k + 1) cap) (k + 1) (vs.map (Value.float .f64) ++ [.float .f64 x])) (hg : (wr.alloc (.cells #[.float .f64 x] t)).grownBy w1 v.ownBlock) :
    FT lo w w1 M L n s pb po (k + 1) fed lv f d (vs ++ [x]) (.slice (some ⟨g, 0, none⟩) (k + 1) cap) := by
  have hb : ∀ j, v.ownBlock = some j → w.heap.size ≤ j := fun j hj => (h2.lt j hj).1
  have ua := Up.alloc wr (.cells #[.float .f64 x] t)
  have hc : ∀ {b o : Nat} {u : Value}, b < w.heap.size → wr.cell? ⟨b, o, none⟩ = some u → w1.cell? ⟨b, o, none⟩ = some u := fun {b o u} hlt hu => by
    rw [hg.cell_far _ (Nat.lt_of_lt_of_le (World.block_lt_of_cell? wr _ hu) ua.size) (fun e => by have := hb b e.symm; omega)]
    exact cell_up hu ua
  have hfz : w1.frozen? ⟨M, 2, none⟩ = false := by
    rw [hg.frozen_far ⟨M, 2, none⟩ (Nat.lt_of_lt_of_le h1.lt ua.size) (fun e => by have := hb M e.symm; omega), World.frozen?_of_block (w := wr) (ua.block M h1.lt)]
    exact h1.fz
  have hrow : FO lo w1 (.slice (some ⟨L, 0, none⟩) n n) d := World.ownsRow.kept (World.ownsRow.alloc h1.row _) hg (Or.inr (fun e => by have := hb L (by rw [← e]; rfl); omega))
  refine ⟨⟨hc lm h1.c0, hc lm h1.c1, hc lm h1.c2, hfz, hrow, h1.ne, h1.lo⟩, ?_, (h3.trans (Two.of_up ua)).grown hg hb, fun i hi => hc ng (h4 i hi), np, nl, ng, lm, ll, fun i hi => ?_, fun i a b c => h6 i (by omega) b c⟩
  · show OR _ _ _ _ _ _
    unfold OR
    rw [List.map_append, List.length_append, hv]
    exact hown
  · by_cases e : i = k
    · subst e
      refine ⟨?_, hr⟩
      rw [getElem!_pos _ i (by simp; omega), List.getElem_append_right (by omega)]
      simp only [hv, Nat.sub_self, List.getElem_cons_zero]
      exact hx
    · obtain ⟨q1, q2⟩ := h5 i (by omega)
      refine ⟨?_, q2⟩
      rw [getElem!_pos _ i (by simp; omega), List.getElem_append_left (by omega)]
      rw [getElem!_pos _ i (by omega)] at q1
      exact q1
theorem FT.fin {lo : Nat} {w wr : World} {M L n s pb po : Nat} {fed : Bool} {lv : Nat → Option Nat} {f : Nat → Nat} {d vs : List Nat} {p : Option Addr} {cap : Nat} (h : FT lo w wr M L n s pb po n fed lv f d vs (.slice p n cap)) (h1 : 1 ≤ n) : FE lo w M L n s fed lv f (.returned (.tuple #[.slice p n cap, .int .i64 0])) (wr.setCell ⟨M, 2, none⟩ (.bool true)) := by
  obtain ⟨m1, m2⟩ := h.mp.mark
  have hl := OR.len h.own
  obtain ⟨p', c', e, q⟩ := OR.form h.own
  obtain ⟨g, e2⟩ := q (by omega)
  simp only [Value.slice.injEq] at e
  obtain ⟨e3, _, _⟩ := e
  rw [e2] at e3
  subst e3
  have hG := OR.at_ h.own
  have := h.lm
  exact ⟨g, cap, d, vs, rfl, OR.far h.own m2 (by simp [Value.ownBlock]; omega), m1, h.two.trans (Two.of_a m2), fun i hi => (h.done i hi).1, fun i hi => (h.done i hi).2⟩
set_option maxRecDepth 20000 in
theorem t14e {lo : Nat} {w : World} {M L n s : Nat} {fed : Bool} {d : List Nat} (h : MP lo w M L n s fed d) {p : Option Addr} {m c : Nat} (hm : m ≠ n) : Calls Try.prog 14 #[.pointer (some ⟨M, 0, none⟩), .slice p m c] w fun e w' => e = .returned (.tuple #[.slice none 0 0, .int .i64 5]) ∧ w' = w := by
  have c0 := h.c0
  have z1 : ¬ (m : Int) = (n : Int) := by omega
  clear h
  go_enter Try.func14, Try.ntmps14
  go_wp2
  go_ret2
  exact ⟨rfl, rfl⟩
set_option maxRecDepth 20000 in
set_option maxHeartbeats 4000000 in
theorem t14t {lo : Nat} {w : World} {M L n s : Nat} {d : List Nat} {lv : Nat → Option Nat} {f : Nat → Nat} {pb po pc : Nat} (h : MP lo w M L n s true d) (hlv : ∀ i, i < n → ab d[i]! = lv i) (hr : RF w pb po n f) (h1 : 1 ≤ n) (hn : n ≤ 16384) (hm : pb ≠ M) (hl : pb ≠ L) :
    Calls Try.prog 14 #[.pointer (some ⟨M, 0, none⟩), .slice (some ⟨pb, po, none⟩) n pc] w (FE lo w M L n s true lv f) := by
  obtain ⟨i0, hi, hz0, hz1, hz2⟩ := info_parts info26
  obtain ⟨fed, hfd⟩ : ∃ fed, fed = true := ⟨_, rfl⟩
  have HFD : Hid (fed = true) := hfd
  have c0 := h.c0
  rw [← hfd]
  have HS : Hid (FT lo w w M L n s pb po 0 fed lv f d [] (.slice none 0 0)) := ⟨by rw [hfd]; exact h, OR.nil _ _ _ _, Two.refl _ _ _, hr, hm, hl, World.block_lt_of_cell? w _ (hr 0 (by omega)), h.lt, h.lt2.2, fun i hi => by omega, fun i _ hi hf => hlv i hi⟩
  have z1 : (1 : Int) ≤ (n : Int) := by omega
  clear h hlv hr hm hl hfd
  go_enter Try.func14, Try.ntmps14
  go_wp2
  go_loopw [6, 7, 8] (fun v6 vi _ wr => ∃ (k cap : Nat) (p : Option Addr) (d vs : List Nat), k ≤ n ∧ vi = .int .i64 k ∧ v6 = .slice p k cap ∧ Hid (FT lo w wr M L n s pb po k fed lv f d vs (.slice p k cap))) (fun _ vi _ _ => n - (intOf vi).toNat)
  case atStart => exact ⟨0, 0, none, _, _, by omega, rfl, rfl, HS⟩
  case round =>
    clear HS c0
    obtain ⟨k, cap, p, d, vs, hk, rfl, rfl, HS⟩ := hrel
    have c2 := HS.out.mp.c2
    rw [HFD.out] at c2
    have c0 := HS.out.mp.c0
    by_cases hlt : k < n
    · have z2 : (k : Int) < (n : Int) := by omega
      have z3 : (0 : Int) ≤ (k : Int) := by omega
      have z4 : (n : Int) ≤ 16384 := by omega
      have cx := HS.out.rf k hlt
      obtain ⟨x, hx⟩ : ∃ x, f k = x := ⟨_, rfl⟩
      have HX : Hid (f k = x) := hx
      rw [hx] at cx
      clear hx
      have cy := HS.out.mp.row.cell (i := k) (by rw [HS.out.mp.len]; exact hlt)
      have fy := HS.out.mp.row.frz k
      have HVL : Hid (vs.length = k) := OR.len HS.out.own
      have HY : Hid (ab d[k]! = baseF fed lv f k) := by
        show _ = _
        rw [HS.out.rest k (Nat.le_refl _) hlt HFD.out, HFD.out]; rfl
      generalize d[k]! = y at cy HY
      go_wp2_with fail
      refine wp_region_ord 11 [(0, none), (1, none), (2, none), (3, some false), (4, none), (5, none), (6, none), (7, some false), (8, none), (9, none), (10, some false)] (fun w' => w'.cell? ⟨M, 0, none⟩ = some (.slice (some ⟨L, 0, none⟩) n n) ∧ w'.cell? ⟨pb, po + k, none⟩ = some (.float .f64 x) ∧ w'.cell? ⟨L, k, none⟩ = some (.float .f64 y)) (by kernel_rfl) (by decide) rfl (by kernel_rfl) (fun _ _ d _ _ h => by cases d <;> exact h) (⟨cell_up c0 (Up.drew1 _), cell_up cx (Up.drew1 _), cell_up cy (Up.drew1 _)⟩) ?_
      refine ⟨_, .slice (some ⟨pb, po, none⟩) n pc, some 38, rfl, rfl, Or.inl ⟨rfl, fun w' hS => ?_⟩, ?_⟩
      · go_simp
      refine ⟨_, .int .i64 k, some 39, rfl, rfl, Or.inl ⟨rfl, fun w' hS => ?_⟩, ?_⟩
      · go_simp
      refine ⟨_, .pointer (some ⟨pb, po + k, none⟩), some 40, rfl, rfl, Or.inl ⟨rfl, fun w' hS => ?_⟩, ?_⟩
      · go_simp
      refine ⟨_, .float .f64 x, some 41, rfl, rfl, Or.inl ⟨rfl, fun w' hS => ?_⟩, ?_⟩
      · obtain ⟨h0, h1, h2⟩ := hS
        go_simp
      refine ⟨_, .pointer (some ⟨M, 0, none⟩), some 42, rfl, rfl, Or.inl ⟨rfl, fun w' hS => ?_⟩, ?_⟩
      · go_simp
      refine ⟨_, .pointer (some ⟨M, 0, none⟩), some 43, rfl, rfl, Or.inl ⟨rfl, fun w' hS => ?_⟩, ?_⟩
      · go_simp
      refine ⟨_, .pointer (some ⟨M, 0, none⟩), some 44, rfl, rfl, Or.inl ⟨rfl, fun w' hS => ?_⟩, ?_⟩
      · go_simp
      refine ⟨_, .slice (some ⟨L, 0, none⟩) n n, some 45, rfl, rfl, Or.inl ⟨rfl, fun w' hS => ?_⟩, ?_⟩
      · obtain ⟨h0, h1, h2⟩ := hS
        go_simp
      refine ⟨_, .int .i64 k, some 46, rfl, rfl, Or.inl ⟨rfl, fun w' hS => ?_⟩, ?_⟩
      · go_simp
      refine ⟨_, .pointer (some ⟨L, k, none⟩), some 47, rfl, rfl, Or.inl ⟨rfl, fun w' hS => ?_⟩, ?_⟩
      · go_simp
      refine ⟨_, .float .f64 y, some 48, rfl, rfl, Or.inl ⟨rfl, fun w' hS => ?_⟩, ?_⟩
      · obtain ⟨h0, h1, h2⟩ := hS
        go_simp
      simp only [OrdW, List.drop_succ_cons, List.drop_zero, Act.put, List.setIfInBounds_toArray, List.set_cons_succ, List.set_cons_zero]
      go_wp2_with ((with_reducible refine upon_fl (by simp) ?_); intro r nr hr)
      have HR : Hid (ab r = overF fed lv f k) := by
        show _ = _
        rw [hr.out, overF, ← HY.out, HX.out]
      have HS5 : Hid (FT lo w (wr.drewN (1 + nr)) M L n s pb po k fed lv f d vs (.slice p k cap)) := HS.out.drewN _
      have e0 := HS5.out.mp.c0
      have e1 := HS5.out.mp.c1
      have e2 := cell_up cy (Up.drewN wr (1 + nr))
      have f2 := HS5.out.mp.row.frz k
      generalize (wr.drewN (1 + nr)) = w5 at *
      clear c0 cx cy fy HS hr
      refine wp_region_ord 19 [(0, none), (1, none), (2, none), (3, some false), (4, none), (5, none), (6, none), (7, none), (8, some false), (9, none), (10, none), (11, some false), (12, none), (13, none), (14, none), (15, some false), (16, none), (17, some true), (18, some true)] (fun w' => w'.cell? ⟨M, 0, none⟩ = some (.slice (some ⟨L, 0, none⟩) n n) ∧ w'.cell? ⟨M, 1, none⟩ = some (.float .f64 s) ∧ w'.cell? ⟨L, k, none⟩ = some (.float .f64 y)) (by kernel_rfl) (by decide) rfl (by kernel_rfl) (fun _ _ d _ _ h => by cases d <;> exact h) (⟨cell_up e0 (Up.drew1 _), cell_up e1 (Up.drew1 _), cell_up e2 (Up.drew1 _)⟩) ?_
      refine ⟨_, .pointer (some ⟨M, 0, none⟩), some 50, rfl, rfl, Or.inl ⟨rfl, fun w' hS => ?_⟩, ?_⟩
      · go_simp
      refine ⟨_, .pointer (some ⟨M, 0, none⟩), some 51, rfl, rfl, Or.inl ⟨rfl, fun w' hS => ?_⟩, ?_⟩
      · go_simp
      refine ⟨_, .pointer (some ⟨M, 0, none⟩), some 52, rfl, rfl, Or.inl ⟨rfl, fun w' hS => ?_⟩, ?_⟩
      · go_simp
      refine ⟨_, .slice (some ⟨L, 0, none⟩) n n, some 53, rfl, rfl, Or.inl ⟨rfl, fun w' hS => ?_⟩, ?_⟩
      · obtain ⟨h0, h1, h2⟩ := hS
        go_simp
      refine ⟨_, .int .i64 k, some 54, rfl, rfl, Or.inl ⟨rfl, fun w' hS => ?_⟩, ?_⟩
      · go_simp
      refine ⟨_, .pointer (some ⟨M, 0, none⟩), some 55, rfl, rfl, Or.inl ⟨rfl, fun w' hS => ?_⟩, ?_⟩
      · go_simp
      refine ⟨_, .pointer (some ⟨M, 0, none⟩), some 56, rfl, rfl, Or.inl ⟨rfl, fun w' hS => ?_⟩, ?_⟩
      · go_simp
      refine ⟨_, .pointer (some ⟨M, 0, none⟩), some 57, rfl, rfl, Or.inl ⟨rfl, fun w' hS => ?_⟩, ?_⟩
      · go_simp
      refine ⟨_, .slice (some ⟨L, 0, none⟩) n n, some 58, rfl, rfl, Or.inl ⟨rfl, fun w' hS => ?_⟩, ?_⟩
      · obtain ⟨h0, h1, h2⟩ := hS
        go_simp
      refine ⟨_, .int .i64 k, some 59, rfl, rfl, Or.inl ⟨rfl, fun w' hS => ?_⟩, ?_⟩
      · go_simp
      refine ⟨_, .pointer (some ⟨L, k, none⟩), some 60, rfl, rfl, Or.inl ⟨rfl, fun w' hS => ?_⟩, ?_⟩
      · go_simp
      refine ⟨_, .float .f64 y, some 61, rfl, rfl, Or.inl ⟨rfl, fun w' hS => ?_⟩, ?_⟩
      · obtain ⟨h0, h1, h2⟩ := hS
        go_simp
      refine ⟨_, .pointer (some ⟨M, 0, none⟩), some 62, rfl, rfl, Or.inl ⟨rfl, fun w' hS => ?_⟩, ?_⟩
      · go_simp
      refine ⟨_, .pointer (some ⟨M, 0, none⟩), some 63, rfl, rfl, Or.inl ⟨rfl, fun w' hS => ?_⟩, ?_⟩
      · go_simp
      refine ⟨_, .pointer (some ⟨M, 1, none⟩), some 64, rfl, rfl, Or.inl ⟨rfl, fun w' hS => ?_⟩, ?_⟩
      · go_simp
      refine ⟨_, .float .f64 s, some 65, rfl, rfl, Or.inl ⟨rfl, fun w' hS => ?_⟩, ?_⟩
      · obtain ⟨h0, h1, h2⟩ := hS
        go_simp
      refine ⟨_, .float .f64 r, some 66, rfl, rfl, Or.inl ⟨rfl, fun w' hS => ?_⟩, ?_⟩
      · go_simp
      refine wpOp_fl rfl rfl rfl s r (by kernel_rfl) (by kernel_rfl) (Or.inr (Or.inr (Or.inl rfl))) ?_
      intro r2 n2 hr2
      refine ⟨⟨cell_up e0 ((Up.drew1 _).trans (Up.drewN _ _)), cell_up e1 ((Up.drew1 _).trans (Up.drewN _ _)), cell_up e2 ((Up.drew1 _).trans (Up.drewN _ _))⟩, ?_⟩
      refine wpOp_fl rfl rfl rfl y r2 (by kernel_rfl) (by kernel_rfl) (Or.inl rfl) ?_
      intro r3 n3 hr3
      refine ⟨⟨cell_up e0 (((Up.drew1 _).trans (Up.drewN _ _)).trans (Up.drewN _ _)), cell_up e1 (((Up.drew1 _).trans (Up.drewN _ _)).trans (Up.drewN _ _)), cell_up e2 (((Up.drew1 _).trans (Up.drewN _ _)).trans (Up.drewN _ _))⟩, ?_⟩
      simp only [OrdW, List.drop_succ_cons, List.drop_zero, Act.put, List.setIfInBounds_toArray, List.set_cons_succ, List.set_cons_zero]
      have H3 : Hid (ab r3 = nextF (ab s) fed lv f k) := by
        show _ = _
        rw [hr3.out, hr2.out, nextF, ← HY.out, ← HR.out]
      obtain ⟨l1, l2, l3, l4, l5, l6, l7⟩ := (HS5.out.drewN (1 + n2 + n3)).lay hlt r3
      have HW : Hid (((w5.drewN (1 + n2 + n3)).setCell ⟨L, k, none⟩ (.float .f64 r3)).ownsRow w.heap.size 26 1 (.slice p k cap) k (vs.map (Value.float .f64))) := by
        have q := l2
        unfold FO OR at q
        rw [HVL.out] at q; exact q
      have hsz : w.heap.size ≤ w5.heap.size := HS5.out.two.size
      go_wp2_with (at_builtin; refine wpList_append_lies _ rfl _ _ 28 rfl w.heap.size 26 i0 (.float .f64 0) 1 8 Try.underlying28 hi hz0 hz1 hz2 rfl (by omega) (.slice p k cap) k _ rfl (HW.out.alloc _) ⟨w5.heap.size, 0, none⟩ 1 1 [.float .f64 r] rfl rfl (one_new' _ _ _ (by simp)) (one_cell rfl) (by omega) (by unfold maxLen; omega) (by omega) (by simp; omega) (w5.heap.size + 1) (by simp) ?_; intro gg cap' w7 hown hgrow _ _
                   have HF : Hid (FT lo w w7 M L n s pb po (k + 1) fed lv f _ _ (.slice (some ⟨gg, 0, none⟩) (k + 1) cap')) := FT.next l1 l2 l3 l4 l5 l6 HS5.out.np HS5.out.nl HS5.out.ng HS5.out.lm HS5.out.ll HVL.out (by rw [l7]; exact H3.out) HR.out hown hgrow
                   clear l1 l2 l3 l4 l5 l6 l7 HW hown hgrow HS5 e0 e1 e2 f2)
      go_roundw
      case rel => exact ⟨k + 1, _, _, _, _, by omega, by go_num, rfl, HF⟩
      case measure => simp [intOf]; omega
    · obtain rfl : k = n := by omega
      have fz := HS.out.mp.fz
      go_wp2
      go_ret2
      exact HS.out.fin h1
set_option maxRecDepth 20000 in
set_option maxHeartbeats 4000000 in
theorem t14f {lo : Nat} {w : World} {M L n s : Nat} {d : List Nat} {lv : Nat → Option Nat} {f : Nat → Nat} {pb po pc : Nat} (h : MP lo w M L n s false d) (hr : RF w pb po n f) (h1 : 1 ≤ n) (hn : n ≤ 16384) (hm : pb ≠ M) (hl : pb ≠ L) :
    Calls Try.prog 14 #[.pointer (some ⟨M, 0, none⟩), .slice (some ⟨pb, po, none⟩) n pc] w (FE lo w M L n s false lv f) := by
  obtain ⟨i0, hi, hz0, hz1, hz2⟩ := info_parts info26
  obtain ⟨fed, hfd⟩ : ∃ fed, fed = false := ⟨_, rfl⟩
  have HFD : Hid (fed = false) := hfd
  have c0 := h.c0
  rw [← hfd]
  have HS : Hid (FT lo w w M L n s pb po 0 fed lv f d [] (.slice none 0 0)) := ⟨by rw [hfd]; exact h, OR.nil _ _ _ _, Two.refl _ _ _, hr, hm, hl, World.block_lt_of_cell? w _ (hr 0 (by omega)), h.lt, h.lt2.2, fun i hi => by omega, fun i _ hi hf => by rw [hfd] at hf; cases hf⟩
  have z1 : (1 : Int) ≤ (n : Int) := by omega
  clear h hr hm hl hfd
  go_enter Try.func14, Try.ntmps14
  go_wp2
  go_loopw [6, 7, 8] (fun v6 vi _ wr => ∃ (k cap : Nat) (p : Option Addr) (d vs : List Nat), k ≤ n ∧ vi = .int .i64 k ∧ v6 = .slice p k cap ∧ Hid (FT lo w wr M L n s pb po k fed lv f d vs (.slice p k cap))) (fun _ vi _ _ => n - (intOf vi).toNat)
  case atStart => exact ⟨0, 0, none, _, _, by omega, rfl, rfl, HS⟩
  case round =>
    clear HS c0
    obtain ⟨k, cap, p, d, vs, hk, rfl, rfl, HS⟩ := hrel
    have c2 := HS.out.mp.c2
    rw [HFD.out] at c2
    have c0 := HS.out.mp.c0
    by_cases hlt : k < n
    · have z2 : (k : Int) < (n : Int) := by omega
      have z3 : (0 : Int) ≤ (k : Int) := by omega
      have z4 : (n : Int) ≤ 16384 := by omega
      have cx := HS.out.rf k hlt
      obtain ⟨x, hx⟩ : ∃ x, f k = x := ⟨_, rfl⟩
      have HX : Hid (f k = x) := hx
      rw [hx] at cx
      clear hx
      have cy := HS.out.mp.row.cell (i := k) (by rw [HS.out.mp.len]; exact hlt)
      have fy := HS.out.mp.row.frz k
      have HVL : Hid (vs.length = k) := OR.len HS.out.own
      generalize d[k]! = y0 at cy
      go_wp2_with fail
      refine wp_region_ord 9 [(0, none), (1, none), (2, none), (3, some false), (4, none), (5, none), (6, none), (7, none), (8, some false)] (fun w' => w'.cell? ⟨M, 0, none⟩ = some (.slice (some ⟨L, 0, none⟩) n n) ∧ w'.cell? ⟨pb, po + k, none⟩ = some (.float .f64 x)) (by kernel_rfl) (by decide) rfl (by kernel_rfl) (fun _ _ d _ _ h => by cases d <;> exact h) (⟨cell_up c0 (Up.drew1 _), cell_up cx (Up.drew1 _)⟩) ?_
      refine ⟨_, .pointer (some ⟨M, 0, none⟩), some 28, rfl, rfl, Or.inl ⟨rfl, fun w' hS => ?_⟩, ?_⟩
      · go_simp
      refine ⟨_, .pointer (some ⟨M, 0, none⟩), some 29, rfl, rfl, Or.inl ⟨rfl, fun w' hS => ?_⟩, ?_⟩
      · go_simp
      refine ⟨_, .pointer (some ⟨M, 0, none⟩), some 30, rfl, rfl, Or.inl ⟨rfl, fun w' hS => ?_⟩, ?_⟩
      · go_simp
      refine ⟨_, .slice (some ⟨L, 0, none⟩) n n, some 31, rfl, rfl, Or.inl ⟨rfl, fun w' hS => ?_⟩, ?_⟩
      · obtain ⟨h0, h1⟩ := hS
        go_simp
      refine ⟨_, .int .i64 k, some 32, rfl, rfl, Or.inl ⟨rfl, fun w' hS => ?_⟩, ?_⟩
      · go_simp
      refine ⟨_, .slice (some ⟨pb, po, none⟩) n pc, some 33, rfl, rfl, Or.inl ⟨rfl, fun w' hS => ?_⟩, ?_⟩
      · go_simp
      refine ⟨_, .int .i64 k, some 34, rfl, rfl, Or.inl ⟨rfl, fun w' hS => ?_⟩, ?_⟩
      · go_simp
      refine ⟨_, .pointer (some ⟨pb, po + k, none⟩), some 35, rfl, rfl, Or.inl ⟨rfl, fun w' hS => ?_⟩, ?_⟩
      · go_simp
      refine ⟨_, .float .f64 x, some 36, rfl, rfl, Or.inl ⟨rfl, fun w' hS => ?_⟩, ?_⟩
      · obtain ⟨h0, h1⟩ := hS
        go_simp
      simp only [OrdW, List.drop_succ_cons, List.drop_zero, Act.put, List.setIfInBounds_toArray, List.set_cons_succ, List.set_cons_zero]
      go_wp2_with fail
      obtain ⟨l1, l2, l3, l4, l5, l6, l7⟩ := (HS.out.drewN 1).lay hlt x
      have HS2 : Hid (FT lo w ((wr.drewN 1).setCell ⟨L, k, none⟩ (.float .f64 x)) M L n s pb po k fed lv f (d.set k x) vs (.slice p k cap)) := ⟨l1, l2, l3, l4, HS.out.np, HS.out.nl, HS.out.ng, HS.out.lm, HS.out.ll, l5, fun i a b c => by rw [HFD.out] at c; cases c⟩
      have HL7 : Hid ((d.set k x)[k]! = x) := l7
      clear l1 l2 l3 l4 l5 l6 l7 HS c0 c2 cx cy fy
      obtain ⟨w4, hw4⟩ : ∃ w4, (wr.drewN 1).setCell ⟨L, k, none⟩ (.float .f64 x) = w4 := ⟨_, rfl⟩
      have hw4' : (wr.setCell ⟨L, k, none⟩ (.float .f64 x)).drew = w4 := hw4
      rw [hw4] at HS2
      rw [hw4']
      obtain ⟨y, hy⟩ : ∃ y, x = y := ⟨_, rfl⟩
      have HY : Hid (ab y = baseF fed lv f k) := by
        show _ = _
        rw [← hy, HFD.out]; unfold baseF; rw [HX.out]; rfl
      generalize hd : d.set k x = d2 at *
      have HS : Hid (FT lo w w4 M L n s pb po k fed lv f d2 vs (.slice p k cap)) := HS2
      have c0 := HS.out.mp.c0
      have cx := HS.out.rf k hlt
      rw [HX.out] at cx
      have cy := HS.out.mp.row.cell (i := k) (by rw [HS.out.mp.len]; exact hlt)
      have fy := HS.out.mp.row.frz k
      rw [HL7.out, hy] at cy
      clear hw4 hw4' HS2 HL7 hy hd
      refine wp_region_ord 11 [(0, none), (1, none), (2, none), (3, some false), (4, none), (5, none), (6, none), (7, some false), (8, none), (9, none), (10, some false)] (fun w' => w'.cell? ⟨M, 0, none⟩ = some (.slice (some ⟨L, 0, none⟩) n n) ∧ w'.cell? ⟨pb, po + k, none⟩ = some (.float .f64 x) ∧ w'.cell? ⟨L, k, none⟩ = some (.float .f64 y)) (by kernel_rfl) (by decide) rfl (by kernel_rfl) (fun _ _ d _ _ h => by cases d <;> exact h) (⟨cell_up c0 (Up.drew1 _), cell_up cx (Up.drew1 _), cell_up cy (Up.drew1 _)⟩) ?_
      refine ⟨_, .slice (some ⟨pb, po, none⟩) n pc, some 38, rfl, rfl, Or.inl ⟨rfl, fun w' hS => ?_⟩, ?_⟩
      · go_simp
      refine ⟨_, .int .i64 k, some 39, rfl, rfl, Or.inl ⟨rfl, fun w' hS => ?_⟩, ?_⟩
      · go_simp
      refine ⟨_, .pointer (some ⟨pb, po + k, none⟩), some 40, rfl, rfl, Or.inl ⟨rfl, fun w' hS => ?_⟩, ?_⟩
      · go_simp
      refine ⟨_, .float .f64 x, some 41, rfl, rfl, Or.inl ⟨rfl, fun w' hS => ?_⟩, ?_⟩
      · obtain ⟨h0, h1, h2⟩ := hS
        go_simp
      refine ⟨_, .pointer (some ⟨M, 0, none⟩), some 42, rfl, rfl, Or.inl ⟨rfl, fun w' hS => ?_⟩, ?_⟩
      · go_simp
      refine ⟨_, .pointer (some ⟨M, 0, none⟩), some 43, rfl, rfl, Or.inl ⟨rfl, fun w' hS => ?_⟩, ?_⟩
      · go_simp
      refine ⟨_, .pointer (some ⟨M, 0, none⟩), some 44, rfl, rfl, Or.inl ⟨rfl, fun w' hS => ?_⟩, ?_⟩
      · go_simp
      refine ⟨_, .slice (some ⟨L, 0, none⟩) n n, some 45, rfl, rfl, Or.inl ⟨rfl, fun w' hS => ?_⟩, ?_⟩
      · obtain ⟨h0, h1, h2⟩ := hS
        go_simp
      refine ⟨_, .int .i64 k, some 46, rfl, rfl, Or.inl ⟨rfl, fun w' hS => ?_⟩, ?_⟩
      · go_simp
      refine ⟨_, .pointer (some ⟨L, k, none⟩), some 47, rfl, rfl, Or.inl ⟨rfl, fun w' hS => ?_⟩, ?_⟩
      · go_simp
      refine ⟨_, .float .f64 y, some 48, rfl, rfl, Or.inl ⟨rfl, fun w' hS => ?_⟩, ?_⟩
      · obtain ⟨h0, h1, h2⟩ := hS
        go_simp
      simp only [OrdW, List.drop_succ_cons, List.drop_zero, Act.put, List.setIfInBounds_toArray, List.set_cons_succ, List.set_cons_zero]
      go_wp2_with ((with_reducible refine upon_fl (by simp) ?_); intro r nr hr)
      have HR : Hid (ab r = overF fed lv f k) := by
        show _ = _
        rw [hr.out, overF, ← HY.out, HX.out]
      have HS5 : Hid (FT lo w (w4.drewN (1 + nr)) M L n s pb po k fed lv f d2 vs (.slice p k cap)) := HS.out.drewN _
      have e0 := HS5.out.mp.c0
      have e1 := HS5.out.mp.c1
      have e2 := cell_up cy (Up.drewN w4 (1 + nr))
      have f2 := HS5.out.mp.row.frz k
      generalize (w4.drewN (1 + nr)) = w5 at *
      clear c0 cx cy fy HS hr
      refine wp_region_ord 19 [(0, none), (1, none), (2, none), (3, some false), (4, none), (5, none), (6, none), (7, none), (8, some false), (9, none), (10, none), (11, some false), (12, none), (13, none), (14, none), (15, some false), (16, none), (17, some true), (18, some true)] (fun w' => w'.cell? ⟨M, 0, none⟩ = some (.slice (some ⟨L, 0, none⟩) n n) ∧ w'.cell? ⟨M, 1, none⟩ = some (.float .f64 s) ∧ w'.cell? ⟨L, k, none⟩ = some (.float .f64 y)) (by kernel_rfl) (by decide) rfl (by kernel_rfl) (fun _ _ d _ _ h => by cases d <;> exact h) (⟨cell_up e0 (Up.drew1 _), cell_up e1 (Up.drew1 _), cell_up e2 (Up.drew1 _)⟩) ?_
      refine ⟨_, .pointer (some ⟨M, 0, none⟩), some 50, rfl, rfl, Or.inl ⟨rfl, fun w' hS => ?_⟩, ?_⟩
      · go_simp
      refine ⟨_, .pointer (some ⟨M, 0, none⟩), some 51, rfl, rfl, Or.inl ⟨rfl, fun w' hS => ?_⟩, ?_⟩
      · go_simp
      refine ⟨_, .pointer (some ⟨M, 0, none⟩), some 52, rfl, rfl, Or.inl ⟨rfl, fun w' hS => ?_⟩, ?_⟩
      · go_simp
      refine ⟨_, .slice (some ⟨L, 0, none⟩) n n, some 53, rfl, rfl, Or.inl ⟨rfl, fun w' hS => ?_⟩, ?_⟩
      · obtain ⟨h0, h1, h2⟩ := hS
        go_simp
      refine ⟨_, .int .i64 k, some 54, rfl, rfl, Or.inl ⟨rfl, fun w' hS => ?_⟩, ?_⟩
      · go_simp
      refine ⟨_, .pointer (some ⟨M, 0, none⟩), some 55, rfl, rfl, Or.inl ⟨rfl, fun w' hS => ?_⟩, ?_⟩
      · go_simp
      refine ⟨_, .pointer (some ⟨M, 0, none⟩), some 56, rfl, rfl, Or.inl ⟨rfl, fun w' hS => ?_⟩, ?_⟩
      · go_simp
      refine ⟨_, .pointer (some ⟨M, 0, none⟩), some 57, rfl, rfl, Or.inl ⟨rfl, fun w' hS => ?_⟩, ?_⟩
      · go_simp
      refine ⟨_, .slice (some ⟨L, 0, none⟩) n n, some 58, rfl, rfl, Or.inl ⟨rfl, fun w' hS => ?_⟩, ?_⟩
      · obtain ⟨h0, h1, h2⟩ := hS
        go_simp
      refine ⟨_, .int .i64 k, some 59, rfl, rfl, Or.inl ⟨rfl, fun w' hS => ?_⟩, ?_⟩
      · go_simp
      refine ⟨_, .pointer (some ⟨L, k, none⟩), some 60, rfl, rfl, Or.inl ⟨rfl, fun w' hS => ?_⟩, ?_⟩
      · go_simp
      refine ⟨_, .float .f64 y, some 61, rfl, rfl, Or.inl ⟨rfl, fun w' hS => ?_⟩, ?_⟩
      · obtain ⟨h0, h1, h2⟩ := hS
        go_simp
      refine ⟨_, .pointer (some ⟨M, 0, none⟩), some 62, rfl, rfl, Or.inl ⟨rfl, fun w' hS => ?_⟩, ?_⟩
      · go_simp
      refine ⟨_, .pointer (some ⟨M, 0, none⟩), some 63, rfl, rfl, Or.inl ⟨rfl, fun w' hS => ?_⟩, ?_⟩
      · go_simp
      refine ⟨_, .pointer (some ⟨M, 1, none⟩), some 64, rfl, rfl, Or.inl ⟨rfl, fun w' hS => ?_⟩, ?_⟩
      · go_simp
      refine ⟨_, .float .f64 s, some 65, rfl, rfl, Or.inl ⟨rfl, fun w' hS => ?_⟩, ?_⟩
      · obtain ⟨h0, h1, h2⟩ := hS
        go_simp
      refine ⟨_, .float .f64 r, some 66, rfl, rfl, Or.inl ⟨rfl, fun w' hS => ?_⟩, ?_⟩
      · go_simp
      refine wpOp_fl rfl rfl rfl s r (by kernel_rfl) (by kernel_rfl) (Or.inr (Or.inr (Or.inl rfl))) ?_
      intro r2 n2 hr2
      refine ⟨⟨cell_up e0 ((Up.drew1 _).trans (Up.drewN _ _)), cell_up e1 ((Up.drew1 _).trans (Up.drewN _ _)), cell_up e2 ((Up.drew1 _).trans (Up.drewN _ _))⟩, ?_⟩
      refine wpOp_fl rfl rfl rfl y r2 (by kernel_rfl) (by kernel_rfl) (Or.inl rfl) ?_
      intro r3 n3 hr3
      refine ⟨⟨cell_up e0 (((Up.drew1 _).trans (Up.drewN _ _)).trans (Up.drewN _ _)), cell_up e1 (((Up.drew1 _).trans (Up.drewN _ _)).trans (Up.drewN _ _)), cell_up e2 (((Up.drew1 _).trans (Up.drewN _ _)).trans (Up.drewN _ _))⟩, ?_⟩
      simp only [OrdW, List.drop_succ_cons, List.drop_zero, Act.put, List.setIfInBounds_toArray, List.set_cons_succ, List.set_cons_zero]
      have H3 : Hid (ab r3 = nextF (ab s) fed lv f k) := by
        show _ = _
        rw [hr3.out, hr2.out, nextF, ← HY.out, ← HR.out]
      obtain ⟨l1, l2, l3, l4, l5, l6, l7⟩ := (HS5.out.drewN (1 + n2 + n3)).lay hlt r3
      have HW : Hid (((w5.drewN (1 + n2 + n3)).setCell ⟨L, k, none⟩ (.float .f64 r3)).ownsRow w.heap.size 26 1 (.slice p k cap) k (vs.map (Value.float .f64))) := by
        have q := l2
        unfold FO OR at q
        rw [HVL.out] at q; exact q
      have hsz : w.heap.size ≤ w5.heap.size := HS5.out.two.size
      go_wp2_with (at_builtin; refine wpList_append_lies _ rfl _ _ 28 rfl w.heap.size 26 i0 (.float .f64 0) 1 8 Try.underlying28 hi hz0 hz1 hz2 rfl (by omega) (.slice p k cap) k _ rfl (HW.out.alloc _) ⟨w5.heap.size, 0, none⟩ 1 1 [.float .f64 r] rfl rfl (one_new' _ _ _ (by simp)) (one_cell rfl) (by omega) (by unfold maxLen; omega) (by omega) (by simp; omega) (w5.heap.size + 1) (by simp) ?_; intro gg cap' w7 hown hgrow _ _
                   have HF : Hid (FT lo w w7 M L n s pb po (k + 1) fed lv f _ _ (.slice (some ⟨gg, 0, none⟩) (k + 1) cap')) := FT.next l1 l2 l3 l4 l5 l6 HS5.out.np HS5.out.nl HS5.out.ng HS5.out.lm HS5.out.ll HVL.out (by rw [l7]; exact H3.out) HR.out hown hgrow
                   clear l1 l2 l3 l4 l5 l6 l7 HW hown hgrow HS5 e0 e1 e2 f2)
      go_roundw
      case rel => exact ⟨k + 1, _, _, _, _, by omega, by go_num, rfl, HF⟩
      case measure => simp [intOf]; omega
    · obtain rfl : k = n := by omega
      have fz := HS.out.mp.fz
      go_wp2
      go_ret2
      exact HS.out.fin h1
end Go.Proofs.Ytgalgnopjcpocaa
