/- What Near and Best are asked; FoldNears. -/
import Derived.Test.YtpahjenfkgcdlaaQ
import Derived.Maps.AppendAt
namespace Go.Proofs.Ytpahjenfkgcdlaa
open Go.ChangeShapes Go.WideShapes Go.ChangeAt Go.RowKit

/-- The near ones, none where it is refused. -/
def nearD (C : Int) (r m : Nat → Int) (k : Nat) (off most : Int) : List Int := if nearC C r m k off most ≠ 0 then [] else nears r m k off most
theorem nearD_len (C : Int) (r m : Nat → Int) (k : Nat) (off most : Int) : (nearD C r m k off most).length ≤ 65536 := by
  unfold nearD
  split
  · simp
  · rename_i h
    unfold nearC at h
    by_cases hc : C ≠ 0
    · rw [if_pos hc] at h; exact absurd hc h
    · rw [if_neg hc] at h
      by_cases hl : 65536 < (nears r m k off most).length
      · rw [if_pos hl] at h; exact absurd (by decide) h
      · omega
/-- A row, whatever its address. -/
def Row (w : World) (e : Ending) (c : Int) (d : List Int) (w' : World) : Prop := ∃ p cap, e = .returned (.tuple #[.slice p d.length cap, .int .i64 c]) ∧ Hid (OI w.heap.size w' (.slice p d.length cap) d ∧ Up w w')
theorem NearP.row {w : World} {C : Int} {r m : Nat → Int} {k : Nat} {off most : Int} {e : Ending} {w' : World} (h : NearP w C r m k off most e w') : Row w e (nearC C r m k off most) (nearD C r m k off most) w' := by
  obtain ⟨hu, h⟩ := h
  rcases h with ⟨hc, rfl⟩ | ⟨hc, v, rfl, ho⟩
  · have : nearD C r m k off most = [] := by unfold nearD; rw [if_pos hc]
    rw [this]
    exact ⟨none, 0, rfl, OI.nil _ _, hu.out⟩
  · have : nearD C r m k off most = nears r m k off most := by unfold nearD; rw [if_neg (by omega)]
    rw [this, hc]
    obtain ⟨p, cap, rfl, _⟩ := own_form ho.out
    exact ⟨p, cap, rfl, ho.out, hu.out⟩
/-- What is asked, in memory. -/
def A4 (w : World) (g : Nat) (x y : Value) (off most : Int) : Prop := w.heap[g]? = some (.cells #[x, y, .int .i64 off, .int .i64 most] 33)
theorem A4.cells {w : World} {g : Nat} {x y : Value} {off most : Int} (h : A4 w g x y off most) : w.cell? ⟨g, 0, none⟩ = some x ∧ w.cell? ⟨g, 1, none⟩ = some y ∧ w.cell? ⟨g, 2, none⟩ = some (.int .i64 off) ∧ w.cell? ⟨g, 3, none⟩ = some (.int .i64 most) := by
  unfold A4 at h
  unfold World.cell?
  simp [h]
theorem A4.lt {w : World} {g : Nat} {x y : Value} {off most : Int} (h : A4 w g x y off most) : g < w.heap.size := by
  unfold A4 at h
  exact (Array.getElem?_eq_some_iff.1 h).1
theorem A4.up {w w' : World} {g : Nat} {x y : Value} {off most : Int} (h : A4 w g x y off most) (hu : Up w w') : A4 w' g x y off most := by
  have := hu.block g h.lt
  unfold A4 at *
  rw [this]; exact h
theorem A4.ups {w w' : World} {g : Nat} {x y : Value} {off most : Int} (h : A4 w g x y off most) (hu : Up w w') : w'.cell? ⟨g, 0, none⟩ = some x ∧ w'.cell? ⟨g, 1, none⟩ = some y ∧ w'.cell? ⟨g, 2, none⟩ = some (.int .i64 off) ∧ w'.cell? ⟨g, 3, none⟩ = some (.int .i64 most) := (h.up hu).cells
def greatB (n1 n2 : Nat) (most : Int) : Bool := decide (1048576 < (n1 : Int)) || decide (1048576 < (n2 : Int)) || (decide (131072 < most) && decide (most ≤ 4194304))
theorem t16 (p q : Option Addr) (n1 n2 c1 c2 : Nat) (off most : Int) (w : World) : Calls Try.prog 16 #[.agg #[.slice p n1 c1, .slice q n2 c2, .int .i64 off, .int .i64 most]] w fun e w' => e = .returned (.bool (greatB n1 n2 most)) ∧ Hid (Up w w') := by
  go_enter Try.func16, Try.ntmps16
  go_wp2
  all_goals (go_ret; refine ⟨?_, Up.alloc _ _⟩)
  all_goals (refine congrArg Ending.returned (congrArg Value.bool ?_); unfold greatB)
  all_goals (rw [Bool.eq_iff_iff]; simp only [Bool.or_eq_true, Bool.and_eq_true, decide_eq_true_eq, true_iff]; omega)
theorem Grow.trans {a b c : World} {row : Option Nat} (h : a.grownBy b row) (k : b.grownBy c row) : a.grownBy c row := by
  obtain ⟨h1, h2, h3, h4, h5⟩ := h
  obtain ⟨k1, k2, k3, k4, k5⟩ := k
  exact ⟨k1.trans h1, k2.trans h2, k3.trans h3, Nat.le_trans h4 k4, fun j hj hn => (k5 j (Nat.lt_of_lt_of_le hj h4) hn).trans (h5 j hj hn)⟩
theorem grow_own {w w' : World} {row : Option Nat} (h : w.grownBy w' row) {b n : Nat} {t : TypeId} {s : Nat} {v : Value} {xs : List Value} (ho : w.ownsRow b t s v n xs) (hne : ∀ j, v.ownBlock = some j → row ≠ some j) : w'.ownsRow b t s v n xs := by
  have hlt := ho.lt
  obtain ⟨h1, h2⟩ := ho
  refine ⟨h1, ?_⟩
  rcases h2 with h2 | ⟨g, cap, cur, rfl, k2, k3, k4⟩
  · exact Or.inl h2
  · refine Or.inr ⟨g, cap, cur, rfl, k2, ?_, k4⟩
    rw [h.block g (hlt g rfl).2 (Ne.symm (hne g rfl))]; exact k3
theorem A4.grow {w w' : World} {row : Option Nat} (h : w.grownBy w' row) {g : Nat} {x y : Value} {off most : Int} (ha : A4 w g x y off most) (hne : row ≠ some g) : A4 w' g x y off most := by
  have := h.block g ha.lt (Ne.symm hne)
  unfold A4 at *
  rw [this]; exact ha
theorem Lent.grow {w0 w w' : World} {gr cr gl : Nat} {o : List Int} (h : Lent w0 w gr cr o) (hg : w.grownBy w' (some gl)) (hne : gr ≠ gl) (hb : w0.heap.size ≤ gl) : Lent w0 w' gr cr o :=
  ⟨grow_own hg h.row (fun j hj => by simp [Value.ownBlock] at hj; subst hj; simpa using Ne.symm hne), Below.grown h.up hg h.up.size (fun k hk => by cases hk; exact hb), h.le⟩
/-- Where the row lies that is written about in: g, or nowhere. -/
def OnB (p : Option Addr) (gl n : Nat) : Prop := (∃ h : Nat, p = some ⟨h, 0, none⟩ ∧ h = gl) ∨ (p = none ∧ gl = n)
theorem OnB.ex {b : Nat} {w : World} {p : Option Addr} {n cap : Nat} {d : List Int} (h : OI b w (.slice p n cap) d) (N : Nat) : ∃ gl, OnB p gl N ∧ (gl = N ∨ (b ≤ gl ∧ gl < w.heap.size)) := by
  have hl := h.lt
  rcases h.2 with ⟨h0, _⟩ | ⟨g, cap', cur, h0, hb, hg, _⟩
  · simp only [Value.slice.injEq] at h0
    exact ⟨N, Or.inr ⟨h0.1, rfl⟩, Or.inl rfl⟩
  · simp only [Value.slice.injEq] at h0
    obtain ⟨rfl, _, _⟩ := h0
    exact ⟨g, Or.inl ⟨g, rfl, rfl⟩, Or.inr ⟨hb, (hl g rfl).2⟩⟩
theorem OI.lower {b : Nat} {w : World} {p : Option Addr} {n cap : Nat} {d : List Int} (h : OI b w (.slice p n cap) d) {j : Nat} (hj : (Value.slice p n cap).ownBlock = some j) : b ≤ j ∧ j < w.heap.size := h.lt j hj
/-- The state of the second loop. -/
def L2 (ws : World) (gl b n : Nat) (wr : World) (j : Nat) (v : Value) : Prop := ∃ d : List Int, d.length = n + j ∧ OI b wr v d ∧ ws.grownBy wr (some gl) ∧ ∀ x, v.ownBlock = some x → x = gl ∨ ws.heap.size ≤ x
theorem L2.next {ws : World} {gl b n : Nat} {wr w3 : World} {j : Nat} {v v2 : Value} {d : List Int} {o : Obj} (hd : d.length = n + j) (hg : ws.grownBy wr (some gl)) (hx : ∀ x, v.ownBlock = some x → x = gl ∨ ws.heap.size ≤ x) (h2 : w3.ownsRow b 2 1 v2 (d.length + 1) (d.map (Value.int .i64) ++ [.int .i64 (-6)])) (hgr : (wr.alloc o).grownBy w3 v.ownBlock) (hat : v2.ownBlock = v.ownBlock ∨ v2.ownBlock = some (wr.alloc o).heap.size) : L2 ws gl b n w3 (j + 1) v2 := by
  refine ⟨d ++ [-6], by simp; omega, ?_, ?_, fun x hxx => ?_⟩
  · unfold OI
    rw [List.map_append, List.length_append]
    exact h2
  · have ua := Up.alloc wr o
    refine ⟨hgr.os.trans (ua.os.trans hg.os), hgr.tape.trans (ua.tape.trans hg.tape), hgr.output.trans (ua.output.trans hg.output), Nat.le_trans hg.size (Nat.le_trans ua.size hgr.size), fun k hk hne => ?_⟩
    have hk2 : k < wr.heap.size := Nat.lt_of_lt_of_le hk hg.size
    rw [hgr.block k (Nat.lt_of_lt_of_le hk2 ua.size) (fun e => by
      rcases hx k e.symm with rfl | h
      · exact hne rfl
      · omega), ua.block k hk2, hg.block k hk hne]
  · rcases hat with e | e
    · exact hx x (by rw [← e]; exact hxx)
    · rw [e] at hxx
      simp at hxx
      have := hg.size
      right
      omega
theorem OI.put {b g n cap : Nat} {w : World} {d : List Int} (h : OI b w (.slice (some ⟨g, 0, none⟩) n cap) d) (hn : d.length = n) (k : Nat) (r : Int) : OI b (w.setCell ⟨g, k, none⟩ (.int .i64 r)) (.slice (some ⟨g, 0, none⟩) n cap) (d.set k r) ∧ w.grownBy (w.setCell ⟨g, k, none⟩ (.int .i64 r)) (some g) := by
  subst hn
  obtain ⟨s1, s2⟩ := World.ownsRow.stored h k (.int .i64 r)
  refine ⟨?_, s2⟩
  unfold OI
  rw [List.length_set, List.map_set]
  exact s1
/-- What FoldNears still needs. -/
def Fin' (w : World) (w1 w2 w3 w5 : World) (x y : Value) (off most : Int) (ga ca gb cb : Nat) (r m D : List Int) (vw vk : Value) (wz : World) : Prop :=
  A4 wz w.heap.size x y off most ∧ Lent w1 wz ga ca r ∧ Lent w2 wz gb cb m ∧ OI w3.heap.size wz vw D ∧ OI w5.heap.size wz vk D ∧ Up w wz
theorem Fin'.grow {w w1 w2 w3 w4 w5 w8 : World} {x y : Value} {off most : Int} {ga ca gb cb : Nat} {r m D : List Int} {vw vk : Value} {gl : Nat} (h : Fin' w w1 w2 w3 w5 x y off most ga ca gb cb r m D vw vk w8) (u1 : Up w w1) (u2 : Up w1 w2) (u3 : Up w2 w3) (u4 : Up w3 w4) (hga : ga < w4.heap.size) (hgb : gb < w4.heap.size) (hg0 : w.heap.size < w4.heap.size) (hw : ∀ j, vw.ownBlock = some j → j < w4.heap.size) (h48 : w4.heap.size ≤ w8.heap.size) (hgl : gl = w8.heap.size ∨ (w4.heap.size ≤ gl ∧ gl < w5.heap.size)) {wz : World} (hg : w8.grownBy wz (some gl)) : Fin' w w1 w2 w3 w5 x y off most ga ca gb cb r m D vw vk wz := by
  obtain ⟨f1, f2, f3, f4, f5, f6⟩ := h
  have s1 := u1.size
  have s2 := u2.size
  have s3 := u3.size
  have s4 := u4.size
  refine ⟨A4.grow hg f1 (by simp; omega), f2.grow hg (by omega) (by omega), f3.grow hg (by omega) (by omega), grow_own hg f4 (fun j hj => by have := hw j hj; simp; omega), grow_own hg f5 (fun j hj => ?_), Below.grown f6 hg f6.size (fun k hk => by cases hk; omega)⟩
  have := f5.lt j hj
  simp
  omega
set_option maxHeartbeats 8000000 in
set_option maxRecDepth 100000 in
theorem t5 (r m : List Int) (p q : Option Addr) (c1 c2 : Nat) (off most : Int) (w : World) (hr : IR w p r.length (fun i => r[i]!)) (hp : p = none → r.length = 0 ∧ c1 = 0) (hm : IR w q m.length (fun i => m[i]!)) (hq : q = none → m.length = 0 ∧ c2 = 0) (hoff : off ≤ 9223372036854775807) : Calls Try.prog 5 #[.agg #[.slice p r.length c1, .slice q m.length c2, .int .i64 off, .int .i64 most]] w (TU w) := by
  cases hgb : greatB r.length m.length most with
  | true =>
    have H16 : Hid (∀ w, Calls Try.prog 16 #[.agg #[.slice p r.length c1, .slice q m.length c2, .int .i64 off, .int .i64 most]] w fun e w' => e = .returned (.bool true) ∧ Hid (Up w w')) := fun w => by
      have := t16 p q r.length m.length c1 c2 off most w
      rw [hgb] at this
      exact this
    clear hr hp hm hq hgb
    go_enter Try.func5, Try.ntmps5
    go_wp2_with (first
      | (go_at_call 16; (with_reducible refine (H16.out _).mono ?_); rintro e w1 ⟨rfl, HU1⟩)
      | (go_at_call 11; (with_reducible refine (t11 _).mono ?_); rintro e w7 ⟨rfl, HU7⟩))
    go_ret
    exact ⟨rfl, ((Up.alloc _ _).trans HU1.out).trans HU7.out⟩
  | false =>
    have H16 : Hid (∀ w, Calls Try.prog 16 #[.agg #[.slice p r.length c1, .slice q m.length c2, .int .i64 off, .int .i64 most]] w fun e w' => e = .returned (.bool false) ∧ Hid (Up w w')) := fun w => by
      have := t16 p q r.length m.length c1 c2 off most w
      rw [hgb] at this
      exact this
    have hb : r.length ≤ 1048576 ∧ m.length ≤ 1048576 := by
      unfold greatB at hgb
      simp only [Bool.or_eq_false_iff, decide_eq_false_iff_not] at hgb
      omega
    obtain ⟨hb1, hb2⟩ := hb
    have HR : Hid (IR w p r.length (fun i => r[i]!)) := hr
    have HP : Hid (p = none → r.length = 0 ∧ c1 = 0) := hp
    have HM : Hid (IR w q m.length (fun i => m[i]!)) := hm
    have HQ : Hid (q = none → m.length = 0 ∧ c2 = 0) := hq
    obtain ⟨C, hC⟩ : ∃ C, ringsC (fun i => m[i]!) r.length m.length (decide (off < 0) || decide (most < 0)) most = C := ⟨_, rfl⟩
    obtain ⟨D, hD⟩ : ∃ D, nearD C (fun i => r[i]!) (fun i => m[i]!) (min r.length m.length) off most = D := ⟨_, rfl⟩
    obtain ⟨E, hE⟩ : ∃ E, nearC C (fun i => r[i]!) (fun i => m[i]!) (min r.length m.length) off most = E := ⟨_, rfl⟩
    have hDl : D.length ≤ 65536 := by rw [← hD]; exact nearD_len _ _ _ _ _ _
    have HDl : Hid (D.length ≤ 65536) := hDl
    have H17 : Hid (∀ w p q c1 c2, IR w p r.length (fun i => r[i]!) → IR w q m.length (fun i => m[i]!) → Calls Try.prog 17 #[.slice p r.length c1, .slice q m.length c2, .int .i64 off, .int .i64 most] w fun e w' => Row w e E D w') := fun w p q c1 c2 h1 h2 => (t17 p q r.length m.length c1 c2 (fun i => r[i]!) (fun i => m[i]!) off most w h1 h2).mono fun e w' h => by
      rw [hC] at h
      have := h.row
      rw [hD, hE] at this
      exact this
    have H18 : Hid (∀ w p q c1 c2, IR w p r.length (fun i => r[i]!) → IR w q m.length (fun i => m[i]!) → Calls Try.prog 18 #[.slice p r.length c1, .slice q m.length c2, .int .i64 off, .int .i64 most] w fun e w' => Row w e E D w') := fun w p q c1 c2 h1 h2 => (t18 p q r.length m.length c1 c2 (fun i => r[i]!) (fun i => m[i]!) off most w h1 h2 hoff).mono fun e w' h => by
      rw [hC] at h
      have := h.row
      rw [hD, hE] at this
      exact this
    have HB2 : Hid (∃ X O c, (∀ w p q c1 c2, IR w p r.length (fun i => r[i]!) → IR w q m.length (fun i => m[i]!) → Calls Try.prog 20 #[.slice p r.length c1, .slice q m.length c2, .int .i64 most] w fun e w' => e = .returned (.tuple #[.int .i64 X, .int .i64 O, .int .i64 c]) ∧ Hid (Up w w')) ∧ (∀ w p q c1 c2, IR w p r.length (fun i => r[i]!) → IR w q m.length (fun i => m[i]!) → Calls Try.prog 21 #[.slice p r.length c1, .slice q m.length c2, .int .i64 most] w fun e w' => e = .returned (.tuple #[.int .i64 X, .int .i64 O, .int .i64 c]) ∧ Hid (Up w w'))) := by
      by_cases hb : ∃ y, Bst (fun x => worst (fun i => r[i]!) (fun i => m[i]!) x (min r.length m.length)) most y ∧ ringsC (fun i => m[i]!) r.length m.length (decide (most < 1)) most = 0
      · obtain ⟨y, hy, hz⟩ := hb
        refine ⟨y, worst (fun i => r[i]!) (fun i => m[i]!) y (min r.length m.length), 0, fun w p q c1 c2 h1 h2 => (t20 p q r.length m.length c1 c2 _ _ most w h1 h2).mono ?_, fun w p q c1 c2 h1 h2 => (t21 p q r.length m.length c1 c2 _ _ most w h1 h2).mono ?_⟩
        all_goals
          rintro e w' ⟨hu, h⟩
          rcases h with ⟨h, _⟩ | ⟨_, z, rfl, hb⟩
          · exact absurd hz h
          · obtain rfl := hy.uniq hb.out
            exact ⟨rfl, hu⟩
      · refine ⟨0, 0, ringsC (fun i => m[i]!) r.length m.length (decide (most < 1)) most, fun w p q c1 c2 h1 h2 => (t20 p q r.length m.length c1 c2 _ _ most w h1 h2).mono ?_, fun w p q c1 c2 h1 h2 => (t21 p q r.length m.length c1 c2 _ _ most w h1 h2).mono ?_⟩
        all_goals
          rintro e w' ⟨hu, h⟩
          rcases h with ⟨_, rfl⟩ | ⟨hz, z, rfl, hb'⟩
          · exact ⟨rfl, hu⟩
          · exact absurd ⟨z, hb'.out, hz⟩ hb
    obtain ⟨X, O, cc, h20, h21⟩ := HB2.out
    have H20 := h20
    have H20' : Hid (∀ w p q c1 c2, IR w p r.length (fun i => r[i]!) → IR w q m.length (fun i => m[i]!) → Calls Try.prog 20 #[.slice p r.length c1, .slice q m.length c2, .int .i64 most] w fun e w' => e = .returned (.tuple #[.int .i64 X, .int .i64 O, .int .i64 cc]) ∧ Hid (Up w w')) := h20
    have H21' : Hid (∀ w p q c1 c2, IR w p r.length (fun i => r[i]!) → IR w q m.length (fun i => m[i]!) → Calls Try.prog 21 #[.slice p r.length c1, .slice q m.length c2, .int .i64 most] w fun e w' => e = .returned (.tuple #[.int .i64 X, .int .i64 O, .int .i64 cc]) ∧ Hid (Up w w')) := h21
    clear hr hp hm hq hgb HB2 H20 h20 h21 hC hD hE
    have HA0 : Hid (A4 (w.alloc (.cells #[.slice p r.length c1, .slice q m.length c2, .int .i64 off, .int .i64 most] 33)) w.heap.size (.slice p r.length c1) (.slice q m.length c2) off most) := heap_alloc_last _ _
    have HUb : Hid (Up w (w.alloc (.cells #[.slice p r.length c1, .slice q m.length c2, .int .i64 off, .int .i64 most] 33))) := Up.alloc _ _
    obtain ⟨i0, hi, hz0, hz1, hz2⟩ := info_parts info2
    go_enter Try.func5, Try.ntmps5
    go_wp2_with (first
      | (go_at_call 16; (with_reducible refine (H16.out _).mono ?_); rintro e w1 ⟨rfl, HU1⟩; have U1 : Hid (Up w w1) := HUb.out.trans HU1.out; have A1 : Hid (A4 w1 w.heap.size (.slice p r.length c1) (.slice q m.length c2) off most) := HA0.out.up HU1.out; obtain ⟨x0, x1, x2, x3⟩ := A1.out.cells)
      | (go_at_call 12; (with_reducible refine (t12 r p c1 w1 (HR.out.up U1.out) HP.out hb1).mono ?_); rintro e w2 ⟨ga, ca, rfl, L1⟩; obtain ⟨y0, y1, y2, y3⟩ := A1.out.ups L1.out.up)
      | (go_at_call 12; (with_reducible refine (t12 m q c2 w2 (HM.out.up (U1.out.trans L1.out.up)) HQ.out hb2).mono ?_); rintro e w3 ⟨gb, cb, rfl, L2'⟩; have A3 : Hid (A4 w3 w.heap.size (.slice p r.length c1) (.slice q m.length c2) off most) := (A1.out.up L1.out.up).up L2'.out.up; have U3 : Hid (Up w w3) := (U1.out.trans L1.out.up).trans L2'.out.up; obtain ⟨z0, z1, z2, z3⟩ := A3.out.cells)
      | (go_at_call 17; (with_reducible refine (H17.out w3 p q c1 c2 (HR.out.up U3.out) (HM.out.up U3.out)).mono ?_); rintro e w4 ⟨pw, cw, rfl, Q4⟩; obtain ⟨t0, t1, t2, t3⟩ := A3.out.ups Q4.out.2)
      | (go_at_call 18; (with_reducible refine (H18.out w4 (some ⟨ga, 0, none⟩) (some ⟨gb, 0, none⟩) ca cb ((L1.out.upon L2'.out.up).upon Q4.out.2).ir (L2'.out.upon Q4.out.2).ir).mono ?_); rintro e w5 ⟨pl, cl, rfl, Q5⟩; obtain ⟨s0, s1, s2, s3⟩ := (A3.out.up Q4.out.2).ups Q5.out.2)
      | (go_at_call 18; (with_reducible refine (H18.out w5 (some ⟨ga, 0, none⟩) (some ⟨gb, 0, none⟩) ca cb (((L1.out.upon L2'.out.up).upon Q4.out.2).upon Q5.out.2).ir ((L2'.out.upon Q4.out.2).upon Q5.out.2).ir).mono ?_); rintro e w6 ⟨pk, ck, rfl, Q6⟩)
      | (go_at_call 19; (with_reducible refine (t19 pl pw D.length cl cw (fun i => D[i]!) w6 (by omega) (Q5.out.1.up Q6.out.2).ir.2 ((Q4.out.1.up Q5.out.2).up Q6.out.2).ir.2).mono ?_); rintro e w7 ⟨rfl, HU7⟩)
      | (go_at_call 19; (with_reducible refine (t19 pk pw D.length ck cw (fun i => D[i]!) w7 (by omega) (Q6.out.1.up HU7.out).ir.2 (((Q4.out.1.up Q5.out.2).up Q6.out.2).up HU7.out).ir.2).mono ?_); rintro e w8 ⟨rfl, HU8⟩))
    have H8 : Hid (Fin' w w1 w2 w3 w5 (.slice p r.length c1) (.slice q m.length c2) off most ga ca gb cb r m D (.slice pw D.length cw) (.slice pk D.length ck) w8) :=
      ⟨((((A3.out.up Q4.out.2).up Q5.out.2).up Q6.out.2).up HU7.out).up HU8.out, (((((L1.out.upon L2'.out.up).upon Q4.out.2).upon Q5.out.2).upon Q6.out.2).upon HU7.out).upon HU8.out, ((((L2'.out.upon Q4.out.2).upon Q5.out.2).upon Q6.out.2).upon HU7.out).upon HU8.out, (((Q4.out.1.up Q5.out.2).up Q6.out.2).up HU7.out).up HU8.out, (Q6.out.1.up HU7.out).up HU8.out, ((((U3.out.trans Q4.out.2).trans Q5.out.2).trans Q6.out.2).trans HU7.out).trans HU8.out⟩
    obtain ⟨gl, hOn, hgl⟩ := OnB.ex Q5.out.1 w8.heap.size
    have HON : Hid (OnB pl gl w8.heap.size) := hOn
    have u48 : Up w4 w8 := ((Q5.out.2.trans Q6.out.2).trans HU7.out).trans HU8.out
    have HG8 : Hid (∀ wz, w8.grownBy wz (some gl) → Fin' w w1 w2 w3 w5 (.slice p r.length c1) (.slice q m.length c2) off most ga ca gb cb r m D (.slice pw D.length cw) (.slice pk D.length ck) wz) := fun wz hg =>
      H8.out.grow U1.out L1.out.up L2'.out.up Q4.out.2 (Nat.lt_of_lt_of_le (L1.out.row.lt ga rfl).2 (L2'.out.up.trans Q4.out.2).size) (Nat.lt_of_lt_of_le (L2'.out.row.lt gb rfl).2 Q4.out.2.size) (by have := (A3.out.up Q4.out.2).lt; exact this) (fun j hj => (Q4.out.1.lt j hj).2) u48.size hgl hg
    have HL8 : Hid (OI w4.heap.size w8 (.slice pl D.length cl) D) := ((Q5.out.1.up Q6.out.2).up HU7.out).up HU8.out
    have h48 : w4.heap.size ≤ w8.heap.size := u48.size
    have HR8 : Hid (Up w w8) := H8.out.2.2.2.2.2
    clear x0 x1 x2 x3 y0 y1 y2 y3 z0 z1 z2 z3 t0 t1 t2 t3 s0 s1 s2 s3 HA0 HUb A1 A3 U1 U3 L1 L2' Q4 Q5 Q6 HU1 HU7 HU8 H8 hOn hgl u48 H16 H17 H18 HP HQ
    have hDz : (D.length : Int) ≤ 65536 := by omega
    go_loopw [11] (fun v11 wr => ∃ (i : Nat) (d1 : List Int), i ≤ D.length ∧ v11 = .int .i64 i ∧ Hid (d1.length = D.length ∧ OI w4.heap.size wr (.slice pl D.length cl) d1 ∧ w8.grownBy wr (some gl))) (fun v11 _ => D.length - (intOf v11).toNat)
    case atStart => exact ⟨0, D, by omega, rfl, rfl, HL8.out, ⟨rfl, rfl, rfl, Nat.le_refl _, fun _ _ _ => rfl⟩⟩
    case round =>
      obtain ⟨i, d1, hi1, rfl, HI⟩ := hrel
      by_cases hlt : i < D.length
      · have hpl : pl = some ⟨gl, 0, none⟩ := by
          rcases HON.out with ⟨h, rfl, rfl⟩ | ⟨rfl, _⟩
          · rfl
          · obtain ⟨p', cap', he, hp'⟩ := own_form HI.out.2.1
            simp only [Value.slice.injEq] at he
            obtain ⟨g, hg⟩ := hp' (by have := HI.out.1; omega)
            rw [← he.1] at hg
            cases hg
        subst hpl
        have ec := HI.out.2.1.cell (i := i) (by have := HI.out.1; omega)
        have ef : wr.frozen? ⟨gl, i, none⟩ = false := by
          have := HI.out.2.1
          unfold OI at this
          rw [HI.out.1] at this
          exact World.ownsRow.frozenAt this i
        generalize d1[i]! = z at ec
        have hiz : (i : Int) < (D.length : Int) := by omega
        have hiz0 : (0 : Int) ≤ (i : Int) := by omega
        have HLT : Hid (i < D.length) := hlt
        go_wp2
        go_roundw
        case rel =>
          obtain ⟨s1, s2⟩ := HI.out.2.1.put HI.out.1 i (-5)
          exact ⟨i + 1, d1.set i (-5), HLT.out, by go_num, by simp [HI.out.1], s1, Grow.trans HI.out.2.2 s2⟩
        case measure => have := HLT.out; simp [intOf]; omega
      · obtain rfl : i = D.length := by omega
        have HS2 : Hid (L2 w8 gl w4.heap.size D.length wr 0 (.slice pl D.length cl)) := ⟨d1, by rw [HI.out.1]; rfl, HI.out.2.1, HI.out.2.2, fun x hx => by
          rcases HON.out with ⟨h, rfl, rfl⟩ | ⟨rfl, _⟩
          · simp [Value.ownBlock] at hx
            exact Or.inl hx.symm
          · simp [Value.ownBlock] at hx⟩
        clear HI
        go_wp2
        go_loopw [12, 7] (fun v12 v7 wr2 => ∃ (j n2 cap2 : Nat) (p2 : Option Addr), j ≤ 20 ∧ v12 = .int .i64 j ∧ v7 = .slice p2 n2 cap2 ∧ n2 = D.length + j ∧ Hid (L2 w8 gl w4.heap.size D.length wr2 j (.slice p2 n2 cap2))) (fun v12 _ _ => 20 - (intOf v12).toNat)
        case atStart => exact ⟨0, D.length, cl, pl, by omega, rfl, rfl, by omega, HS2⟩
        case round =>
          clear HS2
          obtain ⟨j, n2, cap2, p2, hj, rfl, rfl, hn2, HJ⟩ := hrel
          by_cases hjl : j < 20
          · obtain ⟨d, hd, ho, hg, hx⟩ := HJ.out
            have HO : Hid (OI w4.heap.size wr (.slice p2 n2 cap2) d) := ho
            have HGR : Hid (w8.grownBy wr (some gl) ∧ ∀ x, (Value.slice p2 n2 cap2).ownBlock = some x → x = gl ∨ w8.heap.size ≤ x) := ⟨hg, hx⟩
            have hsz : w4.heap.size ≤ wr.heap.size := Nat.le_trans h48 hg.size
            have hjz : (j : Int) < 20 := by omega
            clear ho hg hx HJ
            go_wp2_with (at_builtin; refine wpList_append_own_at _ rfl _ _ 27 rfl w4.heap.size 2 i0 (.int .i64 0) 1 8 Try.underlying27 hi hz0 hz1 hz2 rfl (by decide) _ _ _ rfl (HO.out.alloc _) ⟨wr.heap.size, 0, none⟩ 1 1 [.int .i64 (-6)] rfl rfl (one_new _ _ _) (one_one _) (by unfold maxLen; omega) (by omega) (by simp; omega) ?_; intro v2 w9 h2 hg2 _ hat; have HO2 : Hid (L2 w8 gl w4.heap.size D.length w9 (j + 1) v2) := L2.next hd HGR.out.1 HGR.out.2 h2 hg2 hat; clear h2 hg2 hat)
            obtain ⟨d2, hd2, ho2, _⟩ := HO2.out
            obtain ⟨p3, cap3, hv, _⟩ := own_form ho2
            subst hv
            go_roundw
            case rel => exact ⟨j + 1, d2.length, cap3, p3, by omega, by go_num, rfl, by omega, HO2⟩
            case measure => simp [intOf]; omega
          · obtain rfl : j = 20 := by omega
            obtain ⟨d, hd, ho, hg, hx⟩ := HJ.out
            have HF : Hid (Fin' w w1 w2 w3 w5 (.slice p r.length c1) (.slice q m.length c2) off most ga ca gb cb r m D (.slice pw D.length cw) (.slice pk D.length ck) wr) := HG8.out wr hg
            have hlen : (n2 : Int) = (D.length : Int) + 20 := by omega
            have FA : Hid (A4 wr w.heap.size (.slice p r.length c1) (.slice q m.length c2) off most) := HF.out.1
            have FLA : Hid (Lent w1 wr ga ca r) := HF.out.2.1
            have FLB : Hid (Lent w2 wr gb cb m) := HF.out.2.2.1
            have FW : Hid (OI w3.heap.size wr (.slice pw D.length cw) D) := HF.out.2.2.2.1
            have FK : Hid (OI w5.heap.size wr (.slice pk D.length ck) D) := HF.out.2.2.2.2.1
            have FU : Hid (Up w wr) := HF.out.2.2.2.2.2
            obtain ⟨a0, a1, a2, a3⟩ := FA.out.cells
            clear HF
            clear ho hg hx HJ hd hn2 HG8 HL8 HON
            go_wp2_with (first
              | (go_at_call 20; (with_reducible refine (H20'.out wr (some ⟨ga, 0, none⟩) (some ⟨gb, 0, none⟩) ca cb FLA.out.ir FLB.out.ir).mono ?_); rintro e wa ⟨rfl, HUa⟩; obtain ⟨b0, b1, b2, b3⟩ := FA.out.ups HUa.out)
              | (go_at_call 21; (with_reducible refine (H21'.out wa p q c1 c2 (HR.out.up (FU.out.trans HUa.out)) (HM.out.up (FU.out.trans HUa.out))).mono ?_); rintro e wc ⟨rfl, HUc⟩; obtain ⟨e0, e1, e2, e3⟩ := (FA.out.up HUa.out).ups HUc.out)
              | (go_at_call 19; (with_reducible refine (t19 pk pw D.length ck cw (fun i => D[i]!) wc (by omega) ((FK.out.up HUa.out).up HUc.out).ir.2 ((FW.out.up HUa.out).up HUc.out).ir.2).mono ?_); rintro e wd ⟨rfl, HUd⟩; obtain ⟨g0, g1, g2, g3⟩ := ((FA.out.up HUa.out).up HUc.out).ups HUd.out)
              | (go_at_call 15; (with_reducible refine (t15 r p c1 ga ca w1 wd (HR.out.up (((FU.out.trans HUa.out).trans HUc.out).trans HUd.out)) (((FLA.out.upon HUa.out).upon HUc.out).upon HUd.out) hb1).mono ?_); rintro e we ⟨rfl, HUe⟩; obtain ⟨k0, k1, k2, k3⟩ := (((FA.out.up HUa.out).up HUc.out).up HUd.out).ups HUe.out)
              | (go_at_call 15; (with_reducible refine (t15 m q c2 gb cb w2 we (HM.out.up ((((FU.out.trans HUa.out).trans HUc.out).trans HUd.out).trans HUe.out)) ((((FLB.out.upon HUa.out).upon HUc.out).upon HUd.out).upon HUe.out) hb2).mono ?_); rintro e wf' ⟨rfl, HUf⟩)
              | (go_at_call 11; (with_reducible refine (t11 _).mono ?_); rintro e wg ⟨rfl, HUg⟩))
            go_ret
            exact ⟨rfl, (((((FU.out.trans HUa.out).trans HUc.out).trans HUd.out).trans HUe.out).trans HUf.out).trans HUg.out⟩
end Go.Proofs.Ytpahjenfkgcdlaa
