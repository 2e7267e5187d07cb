/- StillMaps: what is carried along. -/
import Derived.Test.YtgalgnopjcpocaaFc
import Derived.Deep.CutRange
import Derived.Deep.Upon
namespace Go.Proofs.Ytgalgnopjcpocaa
open Go.ChangeShapes Go.WideShapes Go.ChangeAt Go.RowKit Go.Fl Ieee
attribute [local go_sem] run_store_float run_store_c isSome_set call20 call33 run_neg fold_eq fold_ne fold_lt fold_gt abs_eq

/-- Rows of floats that were handed in. -/
structure GR (w : World) (R ro n : Nat) (P : Nat → Option Addr) (Ln Cp : Nat → Nat) (f : Nat → Nat → Nat) : Prop where
  hdr : ∀ i, i < n → w.cell? ⟨R, ro + i, none⟩ = some (.slice (P i) (Ln i) (Cp i))
  row : ∀ i, i < n → VF w (P i) (Ln i) (f i)
  small : ∀ i, i < n → Ln i ≤ 17592186044416
/-- Three maps: two of one share, fed alike. -/
structure SM (w wr : World) (M L M1 L1 M2 L2 N s a b : Nat) (fed fo : Bool) (lv : Nat → Option Nat) : Prop where
  m : ∃ d, MP w.heap.size wr M L N s fed d ∧ ∀ i, i < N → ab d[i]! = lv i
  p : ∃ d, MP w.heap.size wr M1 L1 N s fed d ∧ ∀ i, i < N → ab d[i]! = lv i
  o : ∃ (d : List Nat) (lv2 : Nat → Option Nat), MP w.heap.size wr M2 L2 N 4607182418800017408 fo d ∧ ∀ i, i < N → ab d[i]! = lv2 i
  apart : M < a ∧ L < a ∧ a ≤ M1 ∧ a ≤ L1 ∧ M1 < b ∧ L1 < b ∧ b ≤ M2 ∧ b ≤ L2
  up : Up w wr
theorem SM.grow {w wr w' : World} {M L M1 L1 M2 L2 N s a b : Nat} {fed fo : Bool} {lv : Nat → Option Nat} (h : SM w wr M L M1 L1 M2 L2 N s a b fed fo lv) (hu : Up wr w') : SM w w' M L M1 L1 M2 L2 N s a b fed fo lv := by
  obtain ⟨⟨d0, m0, v0⟩, ⟨d1, m1, v1⟩, ⟨d2, lv2, m2, v2⟩, h4, h5⟩ := h
  exact ⟨⟨d0, m0.up hu, v0⟩, ⟨d1, m1.up hu, v1⟩, ⟨d2, lv2, m2.up hu, v2⟩, h4, h5.trans hu⟩
/-- All their blocks lie so low. -/
def Low (M L M1 L1 M2 L2 x : Nat) : Prop := M < x ∧ L < x ∧ M1 < x ∧ L1 < x ∧ M2 < x ∧ L2 < x
theorem SM.low {w wr : World} {M L M1 L1 M2 L2 N s a b : Nat} {fed fo : Bool} {lv : Nat → Option Nat} (h : SM w wr M L M1 L1 M2 L2 N s a b fed fo lv) : Low M L M1 L1 M2 L2 wr.heap.size := by
  obtain ⟨⟨d0, m0, v0⟩, ⟨d1, m1, v1⟩, ⟨d2, lv2, m2, v2⟩, h4, h5⟩ := h
  exact ⟨m0.lt, m0.lt2.2, m1.lt, m1.lt2.2, m2.lt, m2.lt2.2⟩
theorem SM.but {w wr w' : World} {M L M1 L1 M2 L2 N s a b g x : Nat} {fed fo : Bool} {lv : Nat → Option Nat} (h : SM w wr M L M1 L1 M2 L2 N s a b fed fo lv) (hb : But g wr w') (hl : Low M L M1 L1 M2 L2 x) (hx : x ≤ g) : SM w w' M L M1 L1 M2 L2 N s a b fed fo lv := by
  obtain ⟨⟨d0, m0, v0⟩, ⟨d1, m1, v1⟩, ⟨d2, lv2, m2, v2⟩, h4, h5⟩ := h
  obtain ⟨l1, l2, l3, l4, l5, l6⟩ := hl
  have q := m0.lo
  exact ⟨⟨d0, m0.but hb (by omega) (by omega), v0⟩, ⟨d1, m1.but hb (by omega) (by omega), v1⟩, ⟨d2, lv2, m2.but hb (by omega) (by omega), v2⟩, h4, hb.up h5 (by omega)⟩
/-- The document's map is fed, and then the program's. -/
theorem SM.fed2 {w wr w1 w2 : World} {M L M1 L1 M2 L2 N s a b : Nat} {fed fo : Bool} {lv : Nat → Option Nat} {f f' : Nat → Nat} {d1 d2 : List Nat} (h : SM w wr M L M1 L1 M2 L2 N s a b fed fo lv) (hp : MP w.heap.size w1 M1 L1 N s true d1) (t1 : Two M1 L1 wr w1) (v1 : ∀ i, i < N → ab d1[i]! = nextF (ab s) fed lv f i)
    (hm : MP w.heap.size w2 M L N s true d2) (t2 : Two M L w1 w2) (v2 : ∀ i, i < N → ab d2[i]! = nextF (ab s) fed lv f' i) (hf : ∀ i, i < N → f' i = f i) : SM w w2 M L M1 L1 M2 L2 N s a b true fo (nextF (ab s) fed lv f) := by
  obtain ⟨⟨e0, m0, x0⟩, ⟨e1, m1, x1⟩, ⟨e2, lv2, m2, x2⟩, h4, h5⟩ := h
  have q1 := m0.lo
  have q2 := m0.lt2.1
  have q3 := m1.lo
  have q4 := m1.lt2.1
  refine ⟨⟨d2, hm, fun i hi => ?_⟩, ⟨d1, hp.two t2 (by omega) (by omega) (by omega) (by omega), v1⟩, ⟨e2, lv2, (m2.two t1 (by omega) (by omega) (by omega) (by omega)).two t2 (by omega) (by omega) (by omega) (by omega), x2⟩, h4, t2.up (t1.up h5 q3 q4) q1 q2⟩
  rw [v2 i hi]
  unfold nextF overF baseF
  rw [hf i hi]
/-- The third one is fed. -/
theorem SM.fed3 {w wr w1 : World} {M L M1 L1 M2 L2 N s a b : Nat} {fed fo : Bool} {lv : Nat → Option Nat} {d2 : List Nat} (h : SM w wr M L M1 L1 M2 L2 N s a b fed fo lv) (ho : MP w.heap.size w1 M2 L2 N 4607182418800017408 true d2) (t1 : Two M2 L2 wr w1) : SM w w1 M L M1 L1 M2 L2 N s a b fed true lv := by
  obtain ⟨⟨e0, m0, x0⟩, ⟨e1, m1, x1⟩, ⟨e2, lv2, m2, x2⟩, h4, h5⟩ := h
  have q3 := m2.lo
  have q4 := m2.lt2.1
  exact ⟨⟨e0, m0.two t1 (by omega) (by omega) (by omega) (by omega), x0⟩, ⟨e1, m1.two t1 (by omega) (by omega) (by omega) (by omega), x1⟩, ⟨d2, fun i => ab d2[i]!, ho, fun i hi => rfl⟩, h4, t1.up h5 q3 q4⟩
/-- Beside them rows of one's own that are written over. -/
structure S3 (w W wr : World) (M L M1 L1 M2 L2 N s a b : Nat) (fed fo : Bool) (lv : Nat → Option Nat) (gm cm n' : Nat) (pg : Option Addr) (ng cg bg : Nat) : Prop where
  sm : SM w wr M L M1 L1 M2 L2 N s a b fed fo lv
  mine : ∃ dm, FO W.heap.size wr (.slice (some ⟨gm, 0, none⟩) (n' + 1) cm) dm
  got : ∃ dg, FO bg wr (.slice pg ng cg) dg
  low : Low M L M1 L1 M2 L2 W.heap.size
  gb : gm < bg
  wb : W.heap.size ≤ bg
theorem S3.putMine {w W wr : World} {M L M1 L1 M2 L2 N s a b : Nat} {fed fo : Bool} {lv : Nat → Option Nat} {gm cm n' : Nat} {pg : Option Addr} {ng cg bg : Nat} (h : S3 w W wr M L M1 L1 M2 L2 N s a b fed fo lv gm cm n' pg ng cg bg) (k x : Nat) : S3 w W (wr.setCell ⟨gm, k, none⟩ (.float .f64 x)) M L M1 L1 M2 L2 N s a b fed fo lv gm cm n' pg ng cg bg := by
  obtain ⟨sm, ⟨dm, hm⟩, ⟨dg, hg⟩, low, gb, wb⟩ := h
  obtain ⟨s1, s2⟩ := OR.put hm k x
  exact ⟨sm.but s2 low (OR.at_ hm).1, ⟨_, s1⟩, ⟨dg, OR.far hg s2 (fun e => by have := (hg.lt gm e).1; omega)⟩, low, gb, wb⟩
theorem S3.putGot {w W wr : World} {M L M1 L1 M2 L2 N s a b : Nat} {fed fo : Bool} {lv : Nat → Option Nat} {gm cm n' gg : Nat} {ng cg bg : Nat} (h : S3 w W wr M L M1 L1 M2 L2 N s a b fed fo lv gm cm n' (some ⟨gg, 0, none⟩) ng cg bg) (k x : Nat) : S3 w W (wr.setCell ⟨gg, k, none⟩ (.float .f64 x)) M L M1 L1 M2 L2 N s a b fed fo lv gm cm n' (some ⟨gg, 0, none⟩) ng cg bg := by
  obtain ⟨sm, ⟨dm, hm⟩, ⟨dg, hg⟩, low, gb, wb⟩ := h
  obtain ⟨s1, s2⟩ := OR.put hg k x
  have q := (OR.at_ hg).1
  exact ⟨sm.but s2 low (by omega), ⟨dm, OR.far hm s2 (by simp [Value.ownBlock]; omega)⟩, ⟨_, s1⟩, low, gb, wb⟩
theorem FO.at_cell {b : Nat} {w : World} {p : Option Addr} {n cap i : Nat} {d : List Nat} (h : FO b w (.slice p n cap) d) (hi : i < n) : ∃ g, p = some ⟨g, 0, none⟩ ∧ w.cell? ⟨g, i, none⟩ = some (.float .f64 d[i]!) ∧ w.frozen? ⟨g, i, none⟩ = false := by
  have hl := OR.len h
  obtain ⟨p', cap', he, hp⟩ := OR.form h
  simp only [Value.slice.injEq] at he
  obtain ⟨e1, _, _⟩ := he
  obtain ⟨g, rfl⟩ := hp (by omega)
  subst e1
  exact ⟨g, rfl, OR.cell h (by omega), OR.frz h i⟩
theorem FO.vf {b : Nat} {w : World} {p : Option Addr} {n cap : Nat} {d : List Nat} (h : FO b w (.slice p n cap) d) : VF w p n (fun i => d[i]!) := fun hp => by
  obtain ⟨g, e, _, _⟩ := FO.at_cell h hp
  subst e
  exact ⟨g, 0, rfl, FO.rf h⟩
theorem mine_at (f : Nat → Nat) (n x : Nat) {i : Nat} (hi : i < n) : (cutN f n ++ [x])[i]! = f i := by
  rw [getElem!_pos _ i (by simp [cutN_len]; omega), List.getElem_append_left (by rw [cutN_len]; exact hi)]
  simp [cutN]
theorem mine_last (f : Nat → Nat) (n x : Nat) : (cutN f n ++ [x])[n]! = x := by
  rw [getElem!_pos _ n (by simp [cutN_len]), List.getElem_append_right (by rw [cutN_len]; exact Nat.le_refl _)]
  simp [cutN_len]
theorem share_one : shareF (ab 4607182418800017408) = true := by decide +kernel
theorem rep_ab {N i : Nat} (h : i < N) : ab (List.replicate N 0)[i]! = some 0 := by rw [rep_at 0 h]; decide +kernel
theorem new_range {g : Int} {s : Option Nat} (h : newE g s = 0) : 1 ≤ g ∧ g ≤ 16384 := by
  unfold newE at h
  by_cases h1 : g < 1
  · rw [if_pos h1] at h; cases h
  · rw [if_neg h1] at h
    by_cases h2 : shareF s = false
    · rw [if_pos h2] at h; cases h
    · rw [if_neg h2] at h
      by_cases h3 : 16384 < g
      · rw [if_pos h3] at h; cases h
      · omega
theorem new_share {g : Int} {s : Option Nat} (h : newE g s = 0) : shareF s = true := by
  unfold newE at h
  by_cases h1 : g < 1
  · rw [if_pos h1] at h; cases h
  · rw [if_neg h1] at h
    cases h2 : shareF s
    · rw [if_pos h2] at h; cases h
    · rfl
theorem own_empty (w : World) {b : Nat} (hb : b ≤ w.heap.size) : (w.alloc (.cells #[] 26)).ownsRow b 26 1 (.slice (some ⟨w.heap.size, 0, none⟩) 0 0) 0 [] := World.ownsRow_lit w #[] 0 hb (by unfold maxLen; omega) rfl
theorem mine_own {b : Nat} {w : World} {g n cap : Nat} {f : Nat → Nat} {x : Nat} (h : w.ownsRow b 26 1 (.slice (some ⟨g, 0, none⟩) (n + 1) cap) (n + 1) ((cutN f n).map (Value.float .f64) ++ [.float .f64 x])) : FO b w (.slice (some ⟨g, 0, none⟩) (n + 1) cap) (cutN f n ++ [x]) ∧ n + 1 ≤ cap := by
  refine ⟨?_, ?_⟩
  · show OR _ _ _ _ _ _
    unfold OR
    rw [List.map_append, List.length_append, cutN_len]
    exact h
  · rcases h.2 with ⟨h0, _⟩ | ⟨g0, c0, cur, e, _, _, h4, _⟩
    · cases h0
    · simp only [Value.slice.injEq] at e
      rw [e.2.2]; exact h4
theorem news1 {w : World} {b : Nat} {x : Value} (h : w.cell? ⟨b, 0, none⟩ = some x) : ∀ (j : Nat) (u : Value), [x][j]? = some u → w.cell? ((⟨b, 0, none⟩ : Addr).add j) = some u := by
  intro j u hj
  match j, hj with
  | 0, hj => simp at hj; subst hj; exact h
theorem new_cell1 (w : World) (o : Obj) (cs : Array Value) (t : TypeId) (k : Nat) (v : Value) (h : cs[k]? = some v) : ((w.alloc o).alloc (.cells cs t)).cell? ⟨w.heap.size + 1, k, none⟩ = some v := by
  have := new_cell (w.alloc o) cs t k v h
  simpa using this
end Go.Proofs.Ytgalgnopjcpocaa
