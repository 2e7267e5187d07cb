/- A spot is taken out of those that are left. -/
import Derived.Test.YtflngnnoibkkoaaGreatKRa
import Derived.Maps.AppendAt
import Derived.Test.YtflngnnoibkkoaaGreatEd
namespace Go.Proofs.YtflngnnoibkkoaaGreat.Pk
open Go.ChangeShapes Go.WideShapes Go.ChangeAt Go.RowKit Go.Fl Go.Sort Go.Shelf Go.Lib Go.Maps
set_option maxRecDepth 200000
set_option maxHeartbeats 8000000
attribute [local go_sem] run_store_float run_neg fold_eq fold_ne fold_lt fold_gt abs_eq eqg57

abbrev cellOf (s : Spt) : Int × Int := (s.1, s.2.1)
def atC (c : Int × Int) (s : Spt) : Bool := decide (cellOf s = c)
/-- What a list has at a cell. -/
def fR (R : List Spt) (c : Int × Int) : Option Spt := R.find? (atC c)
def dropC (R : List Spt) (c : Int × Int) : List Spt := R.filter (fun s => !atC c s)
/-- A cell's spot is taken, if it is left. -/
def takeL (st : List Spt × List Spt) (c : Int × Int) : List Spt × List Spt :=
  match fR st.2 c with
  | some s => (st.1 ++ [s], dropC st.2 c)
  | none => st
theorem fR_drop (R : List Spt) (c x : Int × Int) : fR (dropC R c) x = if x = c then none else fR R x := by
  unfold fR dropC
  induction R with
  | nil => simp
  | cons a l ih =>
    by_cases ha : atC c a = true
    · rw [List.filter_cons_of_neg (by simp [ha]), ih]
      split
      · rfl
      · rename_i hx
        rw [List.find?_cons_of_neg (by simp [atC] at ha ⊢; intro e; exact hx (e.symm.trans ha))]
    · rw [List.filter_cons_of_pos (by simpa using ha)]
      by_cases hx : atC x a = true
      · rw [List.find?_cons_of_pos hx, List.find?_cons_of_pos hx]
        rw [if_neg (fun e : x = c => ha (e ▸ hx))]
      · rw [List.find?_cons_of_neg hx, List.find?_cons_of_neg hx, ih]
theorem fR_some {R : List Spt} {c : Int × Int} {s : Spt} (h : fR R c = some s) : s ∈ R ∧ cellOf s = c := by
  unfold fR at h
  have h1 := List.mem_of_find?_eq_some h
  have h2 := List.find?_some h
  exact ⟨h1, by simpa [atC] using h2⟩
theorem drop_len {R : List Spt} {c : Int × Int} {s : Spt} (h : fR R c = some s) : (dropC R c).length + 1 ≤ R.length := by
  obtain ⟨h1, h2⟩ := fR_some h
  unfold dropC
  have h3 : (R.filter (fun s => !atC c s)).length + (R.filter (fun s => atC c s)).length = R.length := by
    induction R with
    | nil => rfl
    | cons a l ih =>
      clear ih
      have : ∀ l : List Spt, (l.filter (fun s => !atC c s)).length + (l.filter (fun s => atC c s)).length = l.length := by
        intro l
        induction l with
        | nil => rfl
        | cons b r ih =>
          cases hb : atC c b <;> simp [hb] <;> omega
      exact this _
  have h4 : 0 < (R.filter (fun s => atC c s)).length := List.length_pos_of_mem (List.mem_filter.2 ⟨h1, by simp [atC, h2]⟩)
  omega
/-- What is known while spots are taken. -/
structure HS (base lB gB mb N n : Nat) (v : Value) (M : Nat) (st : List Spt × List Spt) (F : Nat → Prop) (W : World) : Prop where
  lb : W.cell? ⟨lB, 0, none⟩ = some (.map (some mb))
  gb : W.cell? ⟨gB, 0, none⟩ = some v
  fz : W.frozen? ⟨gB, 0, none⟩ = false
  row : W.ownsRow base 151 3 v M (st.1.flatMap spC)
  len : st.1.length = M
  most : M + st.2.length ≤ n
  map : MM W mb N (fR st.2)
  bd : ∀ k, F k → k < W.heap.size
  n1 : ¬ F gB
  n2 : ¬ F mb
  n3 : ∀ r, v.ownBlock = some r → ¬ F r
  d1 : gB ≠ lB
  d2 : mb ≠ lB
  d3 : mb ≠ gB
  d4 : ∀ r, v.ownBlock = some r → r ≠ lB ∧ r ≠ gB ∧ r ≠ mb
  hb : base ≤ W.heap.size
theorem HS.up {base lB gB mb N n : Nat} {v : Value} {M : Nat} {st : List Spt × List Spt} {F : Nat → Prop} {W W' : World} (h : HS base lB gB mb N n v M st F W) (hu : Up W W') : HS base lB gB mb N n v M st (More F W W') W' where
  lb := cell_up h.lb hu
  gb := cell_up h.gb hu
  fz := frozen_up h.fz hu (lt_of_cell h.gb)
  row := owns_up h.row hu
  len := h.len
  most := h.most
  map := h.map.up hu
  bd := fun k hk => by
    have hs := RowKit.Below.size hu
    rcases hk with hk | hk
    · have := h.bd k hk; omega
    · exact hk.2
  n1 := by rintro (k | k); exact h.n1 k; have := lt_of_cell h.gb; omega
  n2 := by rintro (k | k); exact h.n2 k; have := h.map.lt; omega
  n3 := fun r hr => by rintro (k | k); exact h.n3 r hr k; have := (h.row.lt r hr).2; omega
  d1 := h.d1
  d2 := h.d2
  d3 := h.d3
  d4 := h.d4
  hb := Nat.le_trans h.hb (RowKit.Below.size hu)
theorem HS.mono {base lB gB mb N n : Nat} {v : Value} {M : Nat} {st : List Spt × List Spt} {F G : Nat → Prop} {W : World} (h : HS base lB gB mb N n v M st F W) (hG : ∀ k, G k → F k) : HS base lB gB mb N n v M st G W :=
  { h with bd := fun k hk => h.bd k (hG k hk), n1 := fun k => h.n1 (hG _ k), n2 := fun k => h.n2 (hG _ k), n3 := fun r hr k => h.n3 r hr (hG _ k) }
theorem grown_kp {w w' : World} {row : Option Nat} {F : Nat → Prop} (h : w.grownBy w' row) (hF : ∀ r, row = some r → ¬ F r) : Kp F w w' :=
  ⟨h.os, h.tape, h.output, h.size, fun k hk hl => h.block k hl (fun e => hF k e.symm hk)⟩
theorem takeL_some {st : List Spt × List Spt} {c : Int × Int} {s : Spt} (h : fR st.2 c = some s) : takeL st c = (st.1 ++ [s], dropC st.2 c) := by unfold takeL; rw [h]
theorem takeL_none {st : List Spt × List Spt} {c : Int × Int} (h : fR st.2 c = none) : takeL st c = st := by unfold takeL; rw [h]
theorem owns_kp {w w' : World} {b s n : Nat} {t : TypeId} {v : Value} {xs : List Value} {F : Nat → Prop} (h : w.ownsRow b t s v n xs) (hk : Kp F w w') (hF : ∀ r, v.ownBlock = some r → F r) : w'.ownsRow b t s v n xs := by
  have hl := h.lt
  obtain ⟨h1, h2⟩ := h
  refine ⟨h1, ?_⟩
  rcases h2 with h2 | ⟨g0, cap0, cur, rfl, k2, k3, k4⟩
  · exact Or.inl h2
  · exact Or.inr ⟨g0, cap0, cur, rfl, k2, (hk.block g0 (hF g0 rfl) (hl g0 rfl).2).trans k3, k4⟩
theorem frozen_kp {w w' : World} {b k : Nat} {F : Nat → Prop} (h : w.frozen? ⟨b, k, none⟩ = false) (hk : Kp F w w') (hF : F b) (hb : b < w.heap.size) : w'.frozen? ⟨b, k, none⟩ = false := by
  rw [World.frozen?_of_block (hk.block b hF hb)]; exact h
def cell2 (w : World) (b : Nat) (u v : Value) : Prop := w.cell? ⟨b, 0, none⟩ = some u ∧ w.cell? ⟨b, 1, none⟩ = some v
/-- What is known when the spot is appended, and what when the row's head is laid. -/
structure HA (base lB gB mb N B0 : Nat) (v v' : Value) (M : Nat) (L R : List Spt) (x y : Int) (W2 w3 : World) : Prop where
  lb : w3.cell? ⟨lB, 0, none⟩ = some (.map (some mb))
  bx : cell2 w3 B0 (.int .i64 x) (.int .i64 y)
  row : w3.ownsRow base 151 3 v' (M + 1) (L.flatMap spC)
  map : MM w3 mb N (fR R)
  nb : ∀ r, v'.ownBlock = some r → v.ownBlock = some r ∨ W2.heap.size ≤ r
  kp : Kp (fun k => v.ownBlock ≠ some k ∧ k ≠ gB) W2 w3
theorem app_facts {base lB gB mb N n B0 : Nat} {v v' : Value} {M : Nat} {st : List Spt × List Spt} {F2 : Nat → Prop} {W2 w3 : World} {s : Spt} {x y : Int} {o : Obj} (h : HS base lB gB mb N n v M st F2 W2) (hB : F2 B0) (hc : cell2 W2 B0 (.int .i64 x) (.int .i64 y))
    (hown' : w3.ownsRow base 151 3 v' (M + 1) (st.1.flatMap spC ++ [.int .i64 s.1, .int .i64 s.2.1, .float .f64 s.2.2])) (hg : (W2.alloc o).grownBy w3 v.ownBlock) {m : Nat} (hm : W2.heap.size ≤ m) (hat : v'.ownBlock = v.ownBlock ∨ v'.ownBlock = some m) :
    HA base lB gB mb N B0 v v' M (st.1 ++ [s]) st.2 x y W2 w3 ∧ w3.cell? ⟨gB, 0, none⟩ = some v ∧ w3.frozen? ⟨gB, 0, none⟩ = false := by
  have hk : Kp (fun k => v.ownBlock ≠ some k) W2 w3 := (Kp.of_up (Up.alloc W2 o)).trans (grown_kp hg (fun r hr h => h hr))
  have f1 : v.ownBlock ≠ some lB := fun e => (h.d4 _ e).1 rfl
  have f2 : v.ownBlock ≠ some gB := fun e => (h.d4 _ e).2.1 rfl
  have f3 : v.ownBlock ≠ some mb := fun e => (h.d4 _ e).2.2 rfl
  have f4 : v.ownBlock ≠ some B0 := fun e => h.n3 _ e hB
  refine ⟨⟨hk.cell f1 h.lb, ⟨hk.cell f4 hc.1, hk.cell f4 hc.2⟩, by rw [List.flatMap_append]; exact hown', h.map.kp hk f3, fun r hr => ?_, hk.mono (fun k hk => hk.1)⟩, hk.cell f2 h.gb, frozen_kp h.fz hk f2 (lt_of_cell h.gb)⟩
  rcases hat with e | e
  · exact Or.inl (e ▸ hr)
  · rw [e] at hr
    cases hr
    exact Or.inr hm
theorem put_facts {base lB gB mb N n B0 : Nat} {v v' : Value} {M : Nat} {st : List Spt × List Spt} {F2 : Nat → Prop} {W2 w3 : World} {L : List Spt} {x y : Int} (h : HS base lB gB mb N n v M st F2 W2) (hB : F2 B0) (a : HA base lB gB mb N B0 v v' M L st.2 x y W2 w3) :
    HA base lB gB mb N B0 v v' M L st.2 x y W2 (w3.setCell ⟨gB, 0, none⟩ v') := by
  have hk : Kp (fun k => k ≠ gB) w3 (w3.setCell ⟨gB, 0, none⟩ v') := Kp.setCell _ _ _ _ (fun k => k rfl)
  have f4 : B0 ≠ gB := fun e => h.n1 (e ▸ hB)
  refine ⟨hk.cell (Ne.symm h.d1) a.lb, ⟨hk.cell f4 a.bx.1, hk.cell f4 a.bx.2⟩, owns_kp a.row hk (fun r hr => ?_), a.map.kp hk h.d3, a.nb, a.kp.trans (hk.mono (fun k hk => hk.2))⟩
  rcases a.nb r hr with e | e
  · exact (h.d4 r e).2.1
  · have := lt_of_cell h.gb; omega
theorem del_facts {base lB gB mb N n B0 : Nat} {v v' : Value} {M : Nat} {st : List Spt × List Spt} {F F2 : Nat → Prop} {W W2 w4 w5 : World} {L : List Spt} {x y : Int} {s : Spt} (h : HS base lB gB mb N n v M st F2 W2) (hF : ∀ k, F k → F2 k) (hbd : ∀ k, F k → k < W.heap.size) (hW : Up W W2)
    (a : HA base lB gB mb N B0 v v' M L st.2 x y W2 w4) (hg : w4.cell? ⟨gB, 0, none⟩ = some v') (hz : w4.frozen? ⟨gB, 0, none⟩ = false) (hs : fR st.2 (x, y) = some s) (hL : L = st.1 ++ [s]) (hm : MM w5 mb N (fun c => if c = (x, y) then none else fR st.2 c)) (hk : Kp (fun k => k ≠ mb) w4 w5) :
    HS base lB gB mb N n v' (M + 1) (takeL st (x, y)) F w5 ∧ Kp F W w5 := by
  have hsz := RowKit.Below.size hW
  have hdl := drop_len hs
  have hmo := h.most
  have e : (fun c => if c = (x, y) then none else fR st.2 c) = fR (dropC st.2 (x, y)) := funext fun c => (fR_drop st.2 (x, y) c).symm
  rw [e] at hm
  have hs1 : W2.heap.size ≤ w5.heap.size := Nat.le_trans a.kp.size hk.size
  have fr : ∀ r, v'.ownBlock = some r → r ≠ mb := fun r hr => by
    rcases a.nb r hr with q | q
    · exact (h.d4 r q).2.2
    · have := h.map.lt; omega
  rw [takeL_some hs]
  refine ⟨⟨hk.cell (Ne.symm h.d2) a.lb, hk.cell (Ne.symm h.d3) hg, frozen_kp hz hk (Ne.symm h.d3) (lt_of_cell hg), ?_, ?_, ?_, hm, fun k hk' => ?_, fun q => h.n1 (hF _ q), fun q => h.n2 (hF _ q), fun r hr q => ?_, h.d1, h.d2, h.d3, fun r hr => ?_, Nat.le_trans h.hb hs1⟩, ?_⟩
  · have := owns_kp a.row hk fr
    rw [hL] at this; exact this
  · rw [List.length_append, h.len]; rfl
  · show M + 1 + (dropC st.2 (x, y)).length ≤ n
    omega
  · have := hbd k hk'; omega
  · rcases a.nb r hr with e | e
    · exact h.n3 r e (hF _ q)
    · have := hbd r q; omega
  · refine ⟨?_, ?_, fr r hr⟩
    · rcases a.nb r hr with e | e
      · exact (h.d4 r e).1
      · have := lt_of_cell h.lb; omega
    · rcases a.nb r hr with e | e
      · exact (h.d4 r e).2.1
      · have := lt_of_cell h.gb; omega
  · refine ((Kp.of_up hW).trans (a.kp.mono (fun k hk' => ⟨fun e => h.n3 k e (hF _ hk'), fun e => h.n1 (hF _ (e ▸ hk'))⟩))).trans (hk.mono (fun k hk' e => h.n2 (hF _ (e ▸ hk'))))
theorem eg61 (args : Array Value) (w : World) : (callFunc 179 args).run Tryz.prog w = .ok (.enter 179 args) w := enters Tryz.func179 (by kernel_rfl) (by kernel_rfl) _ _
/-- What a call leaves. -/
def HE (base lB gB mb N n : Nat) (st : List Spt × List Spt) (F : Nat → Prop) (W : World) (e : Ending) (w' : World) : Prop := e = .returned (.tuple #[]) ∧ Hid (∃ v M, HS base lB gB mb N n v M st F w') ∧ Hid (Kp F W w')
set_option maxHeartbeats 2000000 in
theorem t61 {base lB gB mb N n : Nat} {v : Value} {M : Nat} {st : List Spt × List Spt} {F : Nat → Prop} {W : World} {x y : Int} (hn : n * 24 ≤ 140737488355328) (hc : Wc (x, y)) (h : HS base lB gB mb N n v M st F W) :
    Calls Tryz.prog 179 #[.agg #[.int .i64 x, .int .i64 y], .pointer (some ⟨lB, 0, none⟩), .pointer (some ⟨gB, 0, none⟩)] W (HE base lB gB mb N n (takeL st (x, y)) F W) := by
  have H1 : Hid (HS base lB gB mb N n v M st (More F W (W.alloc (.cells #[.int .i64 x, .int .i64 y] 178))) (W.alloc (.cells #[.int .i64 x, .int .i64 y] 178))) := h.up (Up.alloc _ _)
  have HK1 : Hid (Kp F W (W.alloc (.cells #[.int .i64 x, .int .i64 y] 178))) := Kp.of_up (Up.alloc _ _)
  obtain ⟨c1, c2⟩ := two_cells W (.int .i64 x) (.int .i64 y) 178
  have HSZ : Hid (W.heap.size < (W.alloc (.cells #[.int .i64 x, .int .i64 y] 178)).heap.size) := by show _ < _; simp
  have HBD : Hid (∀ k, F k → k < W.heap.size) := h.bd
  have hb0 := h.hb
  clear h
  obtain ⟨i0, hi0, hz0, hz1, hz2⟩ := info_parts info29
  have q1 := H1.out.lb
  have q2 := H1.out.gb
  have q3 := H1.out.fz
  obtain ⟨s, hlk, hs⟩ := H1.out.map.look hc
  obtain ⟨s1, s2, s3⟩ := s
  have HC : Hid (Wc (x, y)) := hc
  clear hc
  cases hf : fR st.2 (x, y) with
  | none =>
    rw [hf] at hlk
    simp only [Option.isSome_none] at hlk
    have HF : Hid (fR st.2 (x, y) = none) := hf
    clear hf hs
    go_enter Tryz.func179, Tryz.ntmps179
    go_wp2
    go_end0
    refine ⟨rfl, ⟨v, M, ?_⟩, HK1.out.trans (Kp.of_up (Up.alloc _ _))⟩
    rw [takeL_none HF.out]
    exact (H1.out.up (Up.alloc _ _)).mono (fun k hk => Or.inl (Or.inl hk))
  | some t =>
    obtain rfl := hs t hf
    rw [hf] at hlk
    simp only [Option.isSome_some] at hlk
    have HF : Hid (fR st.2 (x, y) = some (s1, s2, s3)) := hf
    have hM := H1.out.most
    have hdl := drop_len hf
    clear hf hs
    have H2 : Hid (HS base lB gB mb N n v M st (More F W ((W.alloc (.cells #[.int .i64 x, .int .i64 y] 178)).alloc (.cells #[.int .i64 s1, .int .i64 s2, .float .f64 s3] 151))) ((W.alloc (.cells #[.int .i64 x, .int .i64 y] 178)).alloc (.cells #[.int .i64 s1, .int .i64 s2, .float .f64 s3] 151))) := by
      refine (H1.out.up (Up.alloc _ _)).mono (fun k hk => ?_)
      have hs := HSZ.out
      rcases hk with hk | hk
      · exact Or.inl (Or.inl hk)
      · rcases Nat.lt_or_ge k (W.alloc (.cells #[.int .i64 x, .int .i64 y] 178)).heap.size with r | r
        · exact Or.inl (Or.inr ⟨hk.1, r⟩)
        · exact Or.inr ⟨r, hk.2⟩
    have hown := H2.out.row
    have g2 := H2.out.gb
    have e1 : cell2 ((W.alloc (.cells #[.int .i64 x, .int .i64 y] 178)).alloc (.cells #[.int .i64 s1, .int .i64 s2, .float .f64 s3] 151)) W.heap.size (.int .i64 x) (.int .i64 y) := ⟨cell_up c1 (Up.alloc _ _), cell_up c2 (Up.alloc _ _)⟩
    have E1 : Hid _ := e1
    clear e1
    go_enter Tryz.func179, Tryz.ntmps179
    go_wp2_with (first
      | (at_builtin; refine wpList_append_own_at _ rfl _ _ 70 rfl base 151 i0 (.agg #[.int .i64 0, .int .i64 0, .float .f64 0]) 3 24 Tryz.underlying70 hi0 hz0 hz1 hz2 rfl (by decide) _ _ _ rfl (hown.alloc _) ⟨W.heap.size + 1 + 1, 0, none⟩ 1 1 [.int .i64 s1, .int .i64 s2, .float .f64 s3] rfl rfl (three_at _ _ _ _ _ (by simp)) (three_one rfl rfl rfl) (by unfold maxLen; omega) (by omega) (by simp; omega) ?_))
    intro v' w3 hown' hgrow hnil hat
    have hF2 : More F W ((W.alloc (.cells #[.int .i64 x, .int .i64 y] 178)).alloc (.cells #[.int .i64 s1, .int .i64 s2, .float .f64 s3] 151)) W.heap.size := Or.inr ⟨Nat.le_refl _, by simp; omega⟩
    obtain ⟨a3, g3, z3⟩ := app_facts (s := (s1, s2, s3)) H2.out hF2 E1.out hown' hgrow (by simp) hat
    have a4 := put_facts H2.out hF2 a3
    have HUP : Hid (Up W ((W.alloc (.cells #[.int .i64 x, .int .i64 y] 178)).alloc (.cells #[.int .i64 s1, .int .i64 s2, .float .f64 s3] 151))) := (Up.alloc _ _).trans (Up.alloc _ _)
    have H4 : Hid _ := a4
    have l4 := a4.lb
    have b4 := a4.bx.1
    have b5 := a4.bx.2
    obtain ⟨w5, hdel, hm5, hk5⟩ := a4.map.drop HC.out 0
    have g4 : (w3.setCell ⟨gB, 0, none⟩ v').cell? ⟨gB, 0, none⟩ = some v' := World.cell?_setCell_same' _ _ _ (by rw [g3]; rfl)
    have z4 : (w3.setCell ⟨gB, 0, none⟩ v').frozen? ⟨gB, 0, none⟩ = false := (World.frozen?_setCell _ _ _ _).trans z3
    have R : Hid _ := del_facts H2.out (fun k hk => Or.inl hk) HBD.out HUP.out a4 g4 z4 HF.out rfl hm5 hk5
    have hv' : ∃ p q r, v' = .slice p q r := by
      obtain ⟨p, c, e, _⟩ := own_form hown'
      exact ⟨p, _, c, e⟩
    obtain ⟨vp, vq, vr, rfl⟩ := hv'
    clear hown' hgrow hnil hat hown g2 H2 E1 q1 q2 q3 c1 c2 hlk a3 a4 hm5 hk5 H1 g4 z4
    go_wp2
    go_end0
    exact ⟨rfl, ⟨_, _, R.out.1⟩, R.out.2⟩
end Go.Proofs.YtflngnnoibkkoaaGreat.Pk
/- Spots that hang together: the walk. -/
namespace Go.Proofs.YtflngnnoibkkoaaGreat.Pk
open Go.ChangeShapes Go.WideShapes Go.ChangeAt Go.RowKit Go.Fl Go.Sort Go.Shelf Go.Lib Go.Maps
set_option maxRecDepth 200000
set_option maxHeartbeats 8000000
attribute [local go_sem] run_store_float run_neg fold_eq fold_ne fold_lt fold_gt abs_eq eqg57

/-- Sorted by their cells, in place. -/
theorem t63o {w : World} {g cap n : Nat} {d : Array Spt} (h : OwnR w g cap d) (hd : d.size = n) (hn : n < 4611686018427387904) :
    Calls Tryz.prog 182 #[.slice (some ⟨g, 0, none⟩) n cap, .func (.func 176) #[] #[]] w fun e w' => e = .returned (.tuple #[]) ∧ ∃ d1, Hid (OwnR w' g cap d1 ∧ d1.toList.Perm d.toList ∧ ∀ i j, i < j → j < n → ¬ ordC (d1[j]!).1 (d1[j]!).2.1 (d1[i]!).1 (d1[i]!).2.1 < 0) ∧ Hid (Kp (fun k => k ≠ g) w w') := by
  have hs : (withIx d).size = n := by rw [withIx_size, hd]
  have h63 := AnyQ.slices_SortFunc (P := Tryz.prog) (ρ := sortRen) sortSpots 3 Tryz.isAgg151 Tryz.sizeOf151 elC elC_len elC_one cfE ordC_swo 176 #[] g 0 cap (withIx d) w eg58 (cmpLays58 _ _ _ _) h.holds h.lt (by omega)
  rw [hs] at h63
  refine Calls.mono h63 ?_
  rintro e w' ⟨rfl, d', m, os, hP, hS, hw⟩
  have hs' : d'.size = d.size := by rw [hP.1, withIx_size]
  obtain ⟨r1, r2⟩ := h.sorted hs' ⟨m, os, hw⟩
  refine ⟨rfl, d'.map (·.1), ⟨r1, ?_, fun i j hij hj => ?_⟩, r2⟩
  · have hp2 : (d'.extract 0 n).toList.Perm ((withIx d).extract 0 n).toList := hP.2.2
    have e1 : (d'.extract 0 n) = d' := by rw [← hd, ← hs']; simp
    have e2 : ((withIx d).extract 0 n) = withIx d := by rw [← hs]; simp
    rw [e1, e2] at hp2
    have := hp2.map (·.1)
    rw [Array.toList_map]
    refine this.trans ?_
    have e3 : (withIx d).toList.map (·.1) = d.toList := by
      apply List.ext_getElem
      · simp [withIx_size]
      · intro i h1 h2
        have hi : i < d.size := by simpa using h2
        simp [withIx, getElem!_pos d i hi]
    rw [e3]
  · have hget : ∀ i, i < n → (d'.map (·.1))[i]! = (d'[i]!).1 := fun i hi => by
      rw [getElem!_pos _ i (by simp; omega), getElem!_pos d' i (by omega)]; simp
    rw [hget i (by omega), hget j hj]
    have := hS i j (Nat.zero_le _) hij hj
    exact of_decide_eq_false this
/-- The cells about a spot's are gone over. -/
def visit (bins : Int) (st : List Spt × List Spt) (k : Nat) : List Spt × List Spt := (nbL bins 9223372036854775807 (st.1[k]!).1 (st.1[k]!).2.1).foldl takeL st
def bfsN (bins : Int) : Nat → Nat → List Spt × List Spt → List Spt × List Spt
  | 0, _, st => st
  | f + 1, k, st => if k < st.1.length then bfsN bins f (k + 1) (visit bins st k) else st
/-- Those that hang together with a spot, and those that are left. -/
def hangF (bins : Int) (R : List Spt) (s : Spt) : List Spt × List Spt := bfsN bins (R.length + 1) 0 (takeL ([], R) (cellOf s))
/-- Spots that may stand in a map of that many bins. -/
def Ok (bins : Int) (s : Spt) : Prop := 0 ≤ s.1 ∧ s.1 < bins ∧ 0 ≤ s.2.1 ∧ s.2.1 ≤ 9223372036854775807
theorem take_ok {bins : Int} {st : List Spt × List Spt} {c : Int × Int} (h : (∀ s ∈ st.1, Ok bins s) ∧ ∀ s ∈ st.2, Ok bins s) : (∀ s ∈ (takeL st c).1, Ok bins s) ∧ ∀ s ∈ (takeL st c).2, Ok bins s := by
  cases hf : fR st.2 c with
  | none => rw [takeL_none hf]; exact h
  | some t =>
    rw [takeL_some hf]
    refine ⟨fun s hs => ?_, fun s hs => h.2 s (List.mem_filter.1 hs).1⟩
    rcases List.mem_append.1 hs with e | e
    · exact h.1 s e
    · simp at e; subst e; exact h.2 s (fR_some hf).1
theorem fold_ok {bins : Int} : ∀ (l : List (Int × Int)) (st : List Spt × List Spt), ((∀ s ∈ st.1, Ok bins s) ∧ ∀ s ∈ st.2, Ok bins s) → (∀ s ∈ (l.foldl takeL st).1, Ok bins s) ∧ ∀ s ∈ (l.foldl takeL st).2, Ok bins s
  | [], _, h => h
  | c :: l, st, h => fold_ok l (takeL st c) (take_ok h)
theorem visits61 {base lB gB mb N n : Nat} {bins b g : Int} {st : List Spt × List Spt} (hn : n * 24 ≤ 140737488355328) (b0 : 0 ≤ b) (b1 : b < bins) (b2 : bins ≤ 9223372036854775807) (g1 : g ≤ 9223372036854775807) :
    Visits 179 #[.pointer (some ⟨lB, 0, none⟩), .pointer (some ⟨gB, 0, none⟩)] (fun c => c ∈ nbL bins 9223372036854775807 b g) (fun F l W => ∃ v M, HS base lB gB mb N n v M (l.foldl takeL st) F W) where
  up := by
    rintro F l w w' ⟨v, M, h⟩ hu
    exact ⟨v, M, h.up hu⟩
  step := by
    rintro F l w x y hc ⟨v, M, h⟩
    obtain ⟨r1, r2, r3, r4⟩ := nbL_in (c := (x, y)) b0 b1 g1 hc
    simp only at r1 r2 r3 r4
    refine (t61 hn ⟨⟨by show _ ≤ x; omega, by show x ≤ _; omega⟩, by show _ ≤ y; omega, by show y ≤ _; omega⟩ h).mono ?_
    rintro e w' ⟨rfl, H, K⟩
    refine ⟨rfl, ?_, K⟩
    rw [List.foldl_append]
    exact H.out
end Go.Proofs.YtflngnnoibkkoaaGreat.Pk
/- Spots that hang together: the walk. -/
namespace Go.Proofs.YtflngnnoibkkoaaGreat.Pk
open Go.ChangeShapes Go.WideShapes Go.ChangeAt Go.RowKit Go.Fl Go.Sort Go.Shelf Go.Lib Go.Maps
set_option maxRecDepth 200000
set_option maxHeartbeats 8000000
attribute [local go_sem] run_store_float run_neg fold_eq fold_ne fold_lt fold_gt abs_eq eqg57

/-- What the call leaves. -/
def HR (w : World) (mb N : Nat) (L R : List Spt) (e : Ending) (w' : World) : Prop := ∃ p c G, e = .returned (.slice p L.length c) ∧ Hid (SO w.heap.size w' (.slice p L.length c) G ∧ G.Perm L ∧ G.Pairwise (fun s t => ¬ ordC t.1 t.2.1 s.1 s.2.1 < 0)) ∧ Hid (MM w' mb N (fR R)) ∧ Hid (Kp (fun k => k ≠ mb ∧ k < w.heap.size) w w')
theorem take_len (st : List Spt × List Spt) (c : Int × Int) : st.1.length ≤ (takeL st c).1.length := by
  cases hf : fR st.2 c with
  | none => rw [takeL_none hf]; exact Nat.le_refl _
  | some t => rw [takeL_some hf]; simp
theorem fold_len : ∀ (l : List (Int × Int)) (st : List Spt × List Spt), st.1.length ≤ (l.foldl takeL st).1.length
  | [], _ => Nat.le_refl _
  | c :: l, st => Nat.le_trans (take_len st c) (fold_len l (takeL st c))
theorem eg35 (args : Array Value) (w : World) : (callFunc 147 args).run Tryz.prog w = .ok (.enter 147 args) w := enters Tryz.func147 (by kernel_rfl) (by kernel_rfl) _ _
/-- How far the walk has come. -/
structure BL (base lB gB mb N n Q : Nat) (bins : Int) (F0 : Nat → Prop) (w2 : World) (fin : List Spt × List Spt) (v : Value) (M k : Nat) (st : List Spt × List Spt) (wr : World) : Prop where
  hs : ∃ F : Nat → Prop, HS base lB gB mb N n v M st F wr ∧ ∀ k, F0 k → F k
  kp : Kp F0 w2 wr
  run : bfsN bins (n + 1 - k) k st = fin
  ok : (∀ s ∈ st.1, Ok bins s) ∧ ∀ s ∈ st.2, Ok bins s
  grid : cell2 wr Q (.int .i64 bins) (.int .i64 9223372036854775807)
  one : 1 ≤ M
theorem BL.round {base lB gB mb N n Q : Nat} {bins : Int} {F0 : Nat → Prop} {w2 : World} {fin : List Spt × List Spt} {v : Value} {M k : Nat} {st : List Spt × List Spt} {wr W : World} {s1 s2 : Int} {s3 : Nat} (h : BL base lB gB mb N n Q bins F0 w2 fin v M k st wr) (hu : Up wr W) (hn : n * 24 ≤ 140737488355328) (b2 : bins ≤ 9223372036854775807) (hQ : F0 Q) (hk : k < M) (hs : st.1[k]! = (s1, s2, s3)) :
    Calls Tryz.prog 181 #[.agg #[.int .i64 bins, .int .i64 9223372036854775807], .agg #[.int .i64 s1, .int .i64 s2], .func (.func 179) #[] #[.pointer (some ⟨lB, 0, none⟩), .pointer (some ⟨gB, 0, none⟩)]] W fun e w' => e = .returned (.tuple #[]) ∧ ∃ v' M', Hid (BL base lB gB mb N n Q bins F0 w2 fin v' M' (k + 1) (visit bins st k) w' ∧ M ≤ M' ∧ M' ≤ n) := by
  obtain ⟨F, h1, h2⟩ := h.hs
  have hM := h1.most
  have hl := h1.len
  have hmem : (s1, s2, s3) ∈ st.1 := by
    rw [← hs, getElem!_pos st.1 k (by omega)]; exact List.getElem_mem _
  obtain ⟨o1, o2, o3, o4⟩ := h.ok.1 _ hmem
  simp only at o1 o2 o3 o4
  refine (t53 (visits61 (st := st) (base := base) (lB := lB) (gB := gB) (mb := mb) (N := N) (n := n) hn o1 o2 b2 o4) eg61 (F0 := More F wr W) ⟨v, M, h1.up hu⟩ o1 o2 b2 o3 o4 (by omega)).mono ?_
  rintro e w' ⟨rfl, F', hF⟩
  obtain ⟨f1, ⟨v', M', f2⟩, f3⟩ := hF.out
  have hk' : Kp F0 wr w' := (Kp.of_up hu).trans (f3.mono (fun j hj => Or.inl (h2 j hj)))
  refine ⟨rfl, v', M', ⟨⟨F', ?_, fun j hj => f1 j (Or.inl (h2 j hj))⟩, h.kp.trans hk', ?_, ?_, ⟨hk'.cell hQ h.grid.1, hk'.cell hQ h.grid.2⟩, ?_⟩, ?_, ?_⟩
  · unfold visit; rw [hs]; exact f2
  · have := h.run
    rw [show n + 1 - k = (n - k) + 1 by omega, bfsN, if_pos (by omega)] at this
    rw [show n + 1 - (k + 1) = n - k by omega]; exact this
  · unfold visit; exact fold_ok _ _ h.ok
  · have e1 := f2.len
    have e2 := fold_len (nbL bins 9223372036854775807 s1 s2) st
    have e3 := h.one
    omega
  · have e1 := f2.len
    have e2 := fold_len (nbL bins 9223372036854775807 s1 s2) st
    omega
  · have := f2.most; omega
set_option maxHeartbeats 4000000 in
theorem t36 {w : World} {mb N : Nat} {R : List Spt} {bins s1 s2 : Int} {s3 : Nat} (hn : R.length * 24 ≤ 140737488355328) (b2 : bins ≤ 9223372036854775807) (hO : ∀ s ∈ R, Ok bins s) (hm : MM w mb N (fR R)) (hs : fR R (s1, s2) = some (s1, s2, s3)) :
    Calls Tryz.prog 148 #[.agg #[.int .i64 s1, .int .i64 s2, .float .f64 s3], .map (some mb), .int .i64 bins] w (HR w mb N (hangF bins R (s1, s2, s3)).1 (hangF bins R (s1, s2, s3)).2) := by
  have HM : Hid (MM w mb N (fR R)) := hm
  have HO : Hid (∀ s ∈ R, Ok bins s) := hO
  have HS1 : Hid (fR R (s1, s2) = some (s1, s2, s3)) := hs
  have hok := hO _ (fR_some hs).1
  obtain ⟨k1, k2, k3, k4⟩ := three_boxes w #[.int .i64 s1, .int .i64 s2, .float .f64 s3] #[.map (some mb)] #[.slice none 0 0] 151 176 70
  have HU0 : Hid (Up w (((w.alloc (.cells #[.int .i64 s1, .int .i64 s2, .float .f64 s3] 151)).alloc (.cells #[.map (some mb)] 176)).alloc (.cells #[.slice none 0 0] 70))) := ((Up.alloc _ _).trans (Up.alloc _ _)).trans (Up.alloc _ _)
  have a0 := k1 0
  have a1 := k1 1
  have a2 := k1 2
  have a3 := k2 0
  have a4 := k3 0
  simp only [List.getElem?_toArray, List.getElem?_cons_zero, List.getElem?_cons_succ] at a0 a1 a2 a3 a4
  have HSZ : Hid _ := k4
  have hbox : (((w.alloc (.cells #[.int .i64 s1, .int .i64 s2, .float .f64 s3] 151)).alloc (.cells #[.map (some mb)] 176)).alloc (.cells #[.slice none 0 0] 70)).heap[w.heap.size + 1 + 1]? = some (.cells #[.slice none 0 0] 70 (0, 0)) := by
    have := heap_alloc_last ((w.alloc (.cells #[.int .i64 s1, .int .i64 s2, .float .f64 s3] 151)).alloc (.cells #[.map (some mb)] 176)) (.cells #[.slice none 0 0] 70)
    rw [show ((w.alloc (.cells #[.int .i64 s1, .int .i64 s2, .float .f64 s3] 151)).alloc (.cells #[.map (some mb)] 176)).heap.size = w.heap.size + 1 + 1 by simp] at this
    exact this
  have HFZ : Hid (World.frozen? _ ⟨w.heap.size + 1 + 1, 0, none⟩ = false) := frozen_of_row hbox
  have hmb := hm.lt
  clear hm hO hs k1 k2 k3 k4 hbox
  go_enter Tryz.func148, Tryz.ntmps148
  go_wp2_with (first
    | (go_at_call 180; (with_reducible refine (t62 _ _).mono ?_); rintro e w1 ⟨rfl, HG1⟩;
       (have y0 := cell_up (cell_up a0 HG1.out.up) (Up.alloc w1 (.cells #[.int .i64 bins, .int .i64 9223372036854775807] 202)));
       (have y1 := cell_up (cell_up a1 HG1.out.up) (Up.alloc w1 (.cells #[.int .i64 bins, .int .i64 9223372036854775807] 202)));
       (have y2 := cell_up (cell_up a2 HG1.out.up) (Up.alloc w1 (.cells #[.int .i64 bins, .int .i64 9223372036854775807] 202))))
    | (go_at_call 147; (with_reducible refine (t35 _ _ _ _).mono ?_); rintro e w2 ⟨rfl, HG2⟩))
  have uA := HU0.out
  have uB := HG1.out.up
  have uC := Up.alloc w1 (.cells #[.int .i64 bins, .int .i64 9223372036854775807] 202)
  have uD := HG2.out.up
  have hz0 := HSZ.out
  have sB := RowKit.Below.size uB
  have sC := RowKit.Below.size uC
  have sD := RowKit.Below.size uD
  have hz1 : (w1.alloc (.cells #[.int .i64 bins, .int .i64 9223372036854775807] 202)).heap.size = w1.heap.size + 1 := by simp
  have HGR : Hid (cell2 w2 w1.heap.size (.int .i64 bins) (.int .i64 9223372036854775807)) := ⟨cell_up (two_cells w1 _ _ 202).1 uD, cell_up (two_cells w1 _ _ 202).2 uD⟩
  have H0 : Hid (HS w.heap.size (w.heap.size + 1) (w.heap.size + 1 + 1) mb N R.length (.slice none 0 0) 0 ([], R) (fun k => k < w2.heap.size ∧ k ≠ w.heap.size + 1 + 1 ∧ k ≠ mb) w2) :=
    { lb := cell_up (cell_up (cell_up a3 uB) uC) uD
      gb := cell_up (cell_up (cell_up a4 uB) uC) uD
      fz := frozen_up (frozen_up (frozen_up HFZ.out uB (by omega)) uC (by omega)) uD (by omega)
      row := World.ownsRow_nil _ _ _ _
      len := rfl
      most := by simp
      map := HM.out.up ((uA.trans uB).trans (uC.trans uD))
      bd := fun k hk => hk.1
      n1 := fun h => h.2.1 rfl
      n2 := fun h => h.2.2 rfl
      n3 := fun r hr => by cases hr
      d1 := by omega
      d2 := by omega
      d3 := by omega
      d4 := fun r hr => by cases hr
      hb := by omega }
  have HUW : Hid (Up w w2) := (uA.trans uB).trans (uC.trans uD)
  have hgb1 : w1.heap.size < w2.heap.size := by omega
  have hgb2 : w.heap.size + 1 + 1 < w1.heap.size := by omega
  have HGB : Hid (w1.heap.size < w2.heap.size ∧ w.heap.size + 1 + 1 < w1.heap.size ∧ mb < w.heap.size) := ⟨hgb1, hgb2, hmb⟩
  have hwc : Wc (s1, s2) := by
    obtain ⟨o1, o2, o3, o4⟩ := hok
    simp only at o1 o2 o3 o4
    exact ⟨⟨by show _ ≤ s1; omega, by show s1 ≤ _; omega⟩, by show _ ≤ s2; omega, o4⟩
  have C61 : Hid (Calls Tryz.prog 179 #[.agg #[.int .i64 s1, .int .i64 s2], .pointer (some ⟨w.heap.size + 1, 0, none⟩), .pointer (some ⟨w.heap.size + 1 + 1, 0, none⟩)] w2 (HE w.heap.size (w.heap.size + 1) (w.heap.size + 1 + 1) mb N R.length (takeL ([], R) (s1, s2)) (fun k => k < w2.heap.size ∧ k ≠ w.heap.size + 1 + 1 ∧ k ≠ mb) w2)) := t61 hn hwc H0.out
  clear uA uB uC uD hz0 sB sC sD hz1 hgb1 hgb2 hmb hwc y0 y1 y2 a0 a1 a2 a3 a4 HSZ HFZ HG1 HG2 HU0
  generalize hB : w.heap.size = B at *
  generalize hQ : w1.heap.size = Q at *
  with_reducible refine C61.out.mono ?_
  rintro e w3 ⟨rfl, HX, HKX⟩
  clear C61
  obtain ⟨v3, M3, hs3⟩ := HX.out
  have HB3 : Hid (BL B (B + 1) (B + 1 + 1) mb N R.length Q bins (fun k => k < w2.heap.size ∧ k ≠ B + 1 + 1 ∧ k ≠ mb) w2 (hangF bins R (s1, s2, s3)) v3 M3 0 (takeL ([], R) (s1, s2)) w3) := by
    have hg := HGB.out
    refine ⟨⟨_, hs3, fun k hk => hk⟩, HKX.out, rfl, take_ok ⟨(fun s hs => nomatch hs), HO.out⟩, ⟨HKX.out.cell ⟨by omega, by omega, by omega⟩ HGR.out.1, HKX.out.cell ⟨by omega, by omega, by omega⟩ HGR.out.2⟩, ?_⟩
    have := hs3.len
    rw [takeL_some HS1.out] at this
    simp at this
    omega
  have hM3 : M3 ≤ R.length := by have := hs3.most; omega
  have HF0 : Hid ((fun k => k < w2.heap.size ∧ k ≠ B + 1 + 1 ∧ k ≠ mb) Q) := by
    have hg := HGB.out
    show _ ∧ _ ∧ _
    exact ⟨by omega, by omega, by omega⟩
  clear hs3 HX HKX HGR H0
  generalize hFZ : (fun k => k < w2.heap.size ∧ k ≠ B + 1 + 1 ∧ k ≠ mb) = F0 at *
  have HFZ : Hid _ := hFZ
  clear hFZ
  go_wp2
  go_loopw [10] (fun vk wr => ∃ (k M : Nat) (v : Value) (st : List Spt × List Spt), vk = .int .i64 k ∧ k ≤ M ∧ M ≤ R.length ∧ Hid (BL B (B + 1) (B + 1 + 1) mb N R.length Q bins F0 w2 (hangF bins R (s1, s2, s3)) v M k st wr)) (fun vk _ => R.length + 1 - (intOf vk).toNat)
  case atStart => exact ⟨0, M3, v3, _, rfl, by omega, hM3, HB3⟩
  case round =>
    clear HB3 hM3
    obtain ⟨k, M, v, st, rfl, hkM, hMR, HB⟩ := hrel
    rename World => wr
    obtain ⟨F, h1, h2⟩ := HB.out.hs
    obtain ⟨p, c, hv, hg⟩ := own_form h1.row
    subst hv
    have q1 := h1.gb
    have HSO : Hid (SO B wr (.slice p M c) st.1) := by show wr.ownsRow _ _ _ _ _ _; rw [h1.len]; exact h1.row
    have HLEN : Hid (st.1.length = M) := h1.len
    by_cases hlt : k < M
    · obtain ⟨r, rfl⟩ := hg (by omega)
      obtain ⟨OR, hrb, _⟩ := OwnR.of_so HSO.out
      obtain ⟨t, ht⟩ : ∃ t, st.1[k]! = t := ⟨_, rfl⟩
      obtain ⟨⟨c0, c1, c2⟩, _⟩ := OR.cell (i := k) (by simp; omega)
      have et : st.1.toArray[k]! = t := by rw [← ht]; simp
      rw [et] at c0 c1 c2
      obtain ⟨t1, t2, t3⟩ := t
      have HT : Hid (st.1[k]! = (t1, t2, t3)) := ht
      simp only at c0 c1 c2
      have g0 := HB.out.grid.1
      have g1 := HB.out.grid.2
      have z1 : (k : Int) < (M : Int) := by omega
      have C53 : Hid (∀ W, Up wr W → Calls Tryz.prog 181 #[.agg #[.int .i64 bins, .int .i64 9223372036854775807], .agg #[.int .i64 t1, .int .i64 t2], .func (.func 179) #[] #[.pointer (some ⟨B + 1, 0, none⟩), .pointer (some ⟨B + 1 + 1, 0, none⟩)]] W fun e w' => e = .returned (.tuple #[]) ∧ ∃ v' M', Hid (BL B (B + 1) (B + 1 + 1) mb N R.length Q bins F0 w2 (hangF bins R (s1, s2, s3)) v' M' (k + 1) (visit bins st k) w' ∧ M ≤ M' ∧ M' ≤ R.length)) := fun W hu => HB.out.round hu hn b2 HF0.out hlt HT.out
      clear OR ht et h1 h2 hg hrb
      go_wp2_with fail
      refine wp_region_ord 7 [(0, some false), (1, some false), (2, none), (3, none), (4, some false), (6, none), (5, some true)] (fun w' => Up wr w') (by kernel_rfl) (by decide) rfl (by kernel_rfl) (fun _ _ d _ _ h => by cases d <;> exact h) (Up.drewN wr 1) ?_
      refine ⟨_, .agg #[.int .i64 bins, .int .i64 9223372036854775807], some 24, rfl, rfl, Or.inl ⟨rfl, fun w' hS => ?_⟩, ?_⟩
      · have l0 := cell_up g0 hS
        have l1 := cell_up g1 hS
        go_simp
      refine ⟨_, .slice (some ⟨r, 0, none⟩) M c, some 25, rfl, rfl, Or.inl ⟨rfl, fun w' hS => ?_⟩, ?_⟩
      · have l0 := cell_up q1 hS
        go_simp
      refine ⟨_, .int .i64 k, some 26, rfl, rfl, Or.inl ⟨rfl, fun w' hS => ?_⟩, ?_⟩
      · go_simp
      refine ⟨_, .pointer (some ⟨r, k * 3, none⟩), some 27, rfl, rfl, Or.inl ⟨rfl, fun w' hS => ?_⟩, ?_⟩
      · go_simp
      refine ⟨_, .agg #[.int .i64 t1, .int .i64 t2, .float .f64 t3], some 28, rfl, rfl, Or.inl ⟨rfl, fun w' hS => ?_⟩, ?_⟩
      · have l0 := cell_up c0 hS
        have l1 := cell_up c1 hS
        have l2 := cell_up c2 hS
        go_simp
      refine ⟨_, (.func (.func 179) #[] #[.pointer (some ⟨B + 1, 0, none⟩), .pointer (some ⟨B + 1 + 1, 0, none⟩)]), some 30, rfl, rfl, Or.inl ⟨rfl, fun w' hS => ?_⟩, ?_⟩
      · go_simp
      refine wpOp_call (f := 147) rfl rfl rfl #[.agg #[.int .i64 t1, .int .i64 t2, .float .f64 t3]] (by kernel_rfl) (eg35 _ _) ?_
      refine (t35 t1 t2 t3 _).mono ?_
      rintro e w4 ⟨rfl, HG1⟩
      have HU4 : Hid (Up wr w4) := (show Up wr wr.drew from Up.drewN wr 1).trans HG1.out.up
      refine ⟨_, rfl, HU4.out, ?_⟩
      simp only [OrdW, List.drop_succ_cons, List.drop_zero, Act.put, List.setIfInBounds_toArray, List.set_cons_succ, List.set_cons_zero]
      go_wp2_with (first
        | (go_at_call 181; (with_reducible refine (C53.out _ HU4.out).mono ?_); rintro e w5 ⟨rfl, v', M', HB'⟩))
      go_roundw
      case rel => exact ⟨k + 1, M', v', visit bins st k, by go_num, by have := HB'.out.2.1; omega, HB'.out.2.2, HB'.out.1⟩
      case measure => simp [intOf]; omega
    · obtain rfl : k = M := by omega
      have h1M := HB.out.one
      obtain ⟨r, rfl⟩ := hg (by omega)
      obtain ⟨OR, hrb, _⟩ := OwnR.of_so HSO.out
      have HRB : Hid (B ≤ r) := hrb
      have hd := h1.d4 r rfl
      have HD : Hid (r ≠ B + 1 + 1 ∧ r ≠ mb) := ⟨hd.2.1, hd.2.2⟩
      have HMM : Hid (MM wr mb N (fR st.2)) := h1.map
      have HFIN : Hid (hangF bins R (s1, s2, s3) = st) := by
        have := HB.out.run
        rw [show R.length + 1 - k = (R.length - k) + 1 by omega, bfsN, if_neg (by rw [HLEN.out]; omega)] at this
        exact this.symm
      have C63 : Hid (Calls Tryz.prog 182 #[.slice (some ⟨r, 0, none⟩) k c, .func (.func 176) #[] #[]] wr fun e w' => e = .returned (.tuple #[]) ∧ ∃ d1, Hid (OwnR w' r c d1 ∧ d1.toList.Perm st.1 ∧ ∀ i j, i < j → j < k → ¬ ordC (d1[j]!).1 (d1[j]!).2.1 (d1[i]!).1 (d1[i]!).2.1 < 0) ∧ Hid (Kp (fun j => j ≠ r) wr w')) :=
        t63o OR (by simpa using HLEN.out) (by omega)
      clear OR hrb hd h1 h2 hg
      have z1 : ¬ (k : Int) < (k : Int) := by omega
      go_wp2_with (first
        | (go_at_call 182; (with_reducible refine C63.out.mono ?_); rintro e w6 ⟨rfl, d1, HR1, HK6⟩; (have q6 := HK6.out.cell (Ne.symm HD.out.1) q1)))
      go_ret
      rw [HFIN.out]
      have hl := HLEN.out
      obtain ⟨r1, r2, r3⟩ := HR1.out
      have hdl : d1.toList.length = k := by rw [r2.length_eq]; exact hl
      refine ⟨some ⟨r, 0, none⟩, c, d1.toList, by rw [hl]; rfl, ⟨?_, r2, ?_⟩, HMM.out.kp HK6.out (Ne.symm HD.out.2), ?_⟩
      · rw [hl, hB]
        exact OwnR.so (by simpa using r1) HRB.out hdl
      · rw [List.pairwise_iff_getElem]
        intro i j hi hj hij
        have hi' : i < d1.size := by simpa using hi
        have hj' : j < d1.size := by simpa using hj
        have := r3 i j hij (by rw [← hdl]; exact hj)
        rw [getElem!_pos d1 i hi', getElem!_pos d1 j hj'] at this
        simpa using this
      · have hg := HGB.out
        have hr := HRB.out
        rw [hB]
        refine ((Kp.of_up HUW.out).trans (HB.out.kp.mono (fun j hj => ?_))).trans (HK6.out.mono (fun j hj => by omega))
        rw [← HFZ.out]
        exact ⟨by omega, by omega, hj.1⟩
end Go.Proofs.YtflngnnoibkkoaaGreat.Pk
/- Spots of unlike cells: what is taken, what is left. In plain words. -/
namespace Go.Proofs.YtflngnnoibkkoaaGreat.Pk
open Go.ChangeShapes Go.WideShapes Go.ChangeAt Go.RowKit Go.Fl Go.Sort Go.Shelf Go.Lib Go.Maps
set_option maxRecDepth 200000
set_option maxHeartbeats 8000000

/-- No two are of one cell. -/
def Dis (l : List Spt) : Prop := l.Pairwise (fun s t => cellOf s ≠ cellOf t)
theorem Dis.perm {l l' : List Spt} (h : Dis l) (hp : l.Perm l') : Dis l' := (hp.pairwise_iff (fun {a b} (e : cellOf a ≠ cellOf b) => e.symm)).1 h
theorem Dis.uniq {l : List Spt} (h : Dis l) {s t : Spt} (hs : s ∈ l) (ht : t ∈ l) (e : cellOf s = cellOf t) : s = t := by
  induction l with
  | nil => cases hs
  | cons a l ih =>
    obtain ⟨h1, h2⟩ := List.pairwise_cons.1 h
    rcases List.mem_cons.1 hs with e1 | e1 <;> rcases List.mem_cons.1 ht with e2 | e2
    · rw [e1, e2]
    · subst e1; exact absurd e (h1 t e2)
    · subst e2; exact absurd e.symm (h1 s e1)
    · exact ih h2 e1 e2
theorem take_one {R : List Spt} (h : Dis R) {c : Int × Int} {s : Spt} (hs : fR R c = some s) : (s :: dropC R c).Perm R := by
  induction R with
  | nil => cases hs
  | cons a l ih =>
    obtain ⟨h1, h2⟩ := List.pairwise_cons.1 h
    unfold fR at hs
    by_cases ha : atC c a = true
    · rw [List.find?_cons_of_pos ha] at hs
      cases hs
      unfold dropC
      rw [List.filter_cons_of_neg (by simp [ha])]
      have e : l.filter (fun s => !atC c s) = l := by
        rw [List.filter_eq_self]
        intro t ht
        simp [atC] at ha ⊢
        intro e
        exact h1 t ht (ha.trans e.symm)
      rw [e]
    · rw [List.find?_cons_of_neg ha] at hs
      unfold dropC
      rw [List.filter_cons_of_pos (by simpa using ha)]
      exact (List.Perm.swap _ _ _).trans (List.Perm.cons _ (ih h2 hs))
theorem take_perm {st : List Spt × List Spt} (h : Dis st.2) (c : Int × Int) : ((takeL st c).1 ++ (takeL st c).2).Perm (st.1 ++ st.2) ∧ Dis (takeL st c).2 := by
  cases hf : fR st.2 c with
  | none => rw [takeL_none hf]; exact ⟨List.Perm.refl _, h⟩
  | some s =>
    rw [takeL_some hf]
    refine ⟨?_, h.filter _⟩
    rw [List.append_assoc]
    exact List.Perm.append_left _ (take_one h hf)
theorem fold_perm : ∀ (l : List (Int × Int)) (st : List Spt × List Spt), Dis st.2 → ((l.foldl takeL st).1 ++ (l.foldl takeL st).2).Perm (st.1 ++ st.2) ∧ Dis (l.foldl takeL st).2
  | [], _, h => ⟨List.Perm.refl _, h⟩
  | c :: l, st, h => by
    obtain ⟨h1, h2⟩ := take_perm h c
    obtain ⟨h3, h4⟩ := fold_perm l (takeL st c) h2
    exact ⟨h3.trans h1, h4⟩
theorem bfs_perm (bins : Int) : ∀ (f k : Nat) (st : List Spt × List Spt), Dis st.2 → ((bfsN bins f k st).1 ++ (bfsN bins f k st).2).Perm (st.1 ++ st.2) ∧ Dis (bfsN bins f k st).2
  | 0, _, _, h => ⟨List.Perm.refl _, h⟩
  | f + 1, k, st, h => by
    unfold bfsN
    split
    · obtain ⟨h1, h2⟩ := fold_perm (nbL bins 9223372036854775807 (st.1[k]!).1 (st.1[k]!).2.1) st h
      obtain ⟨h3, h4⟩ := bfs_perm bins f (k + 1) (visit bins st k) h2
      exact ⟨h3.trans h1, h4⟩
    · exact ⟨List.Perm.refl _, h⟩
theorem hang_perm {bins : Int} {R : List Spt} (h : Dis R) (s : Spt) : ((hangF bins R s).1 ++ (hangF bins R s).2).Perm R ∧ Dis (hangF bins R s).2 := by
  obtain ⟨h1, h2⟩ := take_perm (st := ([], R)) h (cellOf s)
  obtain ⟨h3, h4⟩ := bfs_perm bins (R.length + 1) 0 (takeL ([], R) (cellOf s)) h2
  exact ⟨h3.trans h1, h4⟩
theorem hang_dis {bins : Int} {R : List Spt} (h : Dis R) (s : Spt) : Dis (hangF bins R s).1 :=
  (List.pairwise_append.1 (h.perm (hang_perm h s).1.symm)).1
theorem cellK_inj {s t : Spt} (hs : Wf s) (ht : Wf t) : cellK s = cellK t ↔ cellOf s = cellOf t := by
  obtain ⟨⟨a1, a2⟩, a3, a4⟩ := hs
  obtain ⟨⟨b1, b2⟩, b3, b4⟩ := ht
  unfold cellK cellOf
  rw [Prod.mk.injEq]
  omega
/-- Of unlike cells: sorted, they are the spots that count. -/
theorem sorted_cnt {L G : List Spt} (hW : ∀ s ∈ L, Wf s) (hD : Dis L) (hP : G.Perm L) (hS : G.Pairwise (fun s t => ¬ ordC t.1 t.2.1 s.1 s.2.1 < 0)) : G = cntF L := by
  have hDG : Dis G := hD.perm hP.symm
  have hWG : ∀ s ∈ G, Wf s := fun s hs => hW s (hP.mem_iff.1 hs)
  refine CntOf.uniq (L := L) ⟨?_, fun s => ?_⟩ (cntF_of L)
  · have h2 := hS.and hDG
    refine List.Pairwise.imp_of_mem ?_ h2
    intro a b ha hb ⟨e1, e2⟩
    have h1 := ordC_neg (hWG b hb) (hWG a ha)
    have h3 : cellK a ≠ cellK b := fun e => e2 ((cellK_inj (hWG a ha) (hWG b hb)).1 e)
    rw [h1] at e1
    omega
  · rw [hP.mem_iff]
    constructor
    · intro hs
      obtain ⟨u, hu, e⟩ := first_of_mem hs
      have : u = s := hD.uniq hu.mem hs ((cellK_inj (hW u hu.mem) (hW s hs)).1 e)
      exact this ▸ hu
    · exact fun h => h.mem
theorem dis_of_rise {C : List Spt} (h : C.Pairwise (fun s t => cellK s < cellK t)) (hW : ∀ s ∈ C, Wf s) : Dis C :=
  List.Pairwise.imp_of_mem (fun {a b} ha hb e c => by
    have := (cellK_inj (hW a ha) (hW b hb)).2 c
    omega) h
/-- The groups of the first spots, and those that are left. -/
def grpN (bins : Int) (C : List Spt) : Nat → List (List Spt) × List Spt
  | 0 => ([], C)
  | i + 1 => if (fR (grpN bins C i).2 (cellOf C[i]!)).isSome = true then ((grpN bins C i).1 ++ [cntF (hangF bins (grpN bins C i).2 C[i]!).1], (hangF bins (grpN bins C i).2 C[i]!).2) else grpN bins C i
theorem grpN_dis {bins : Int} {C : List Spt} (h : Dis C) : ∀ i, Dis (grpN bins C i).2
  | 0 => h
  | i + 1 => by
    unfold grpN
    split
    · exact (hang_perm (grpN_dis h i) _).2
    · exact grpN_dis h i
theorem grpN_sub {bins : Int} {C : List Spt} (h : Dis C) : ∀ i s, s ∈ (grpN bins C i).2 → s ∈ C
  | 0, s, hs => hs
  | i + 1, s, hs => by
    unfold grpN at hs
    split at hs
    · have := (hang_perm (bins := bins) (grpN_dis (bins := bins) h i) C[i]!).1
      exact grpN_sub h i s (this.mem_iff.1 (List.mem_append_right _ hs))
    · exact grpN_sub h i s hs
end Go.Proofs.YtflngnnoibkkoaaGreat.Pk
/- Groups: the walk. -/
namespace Go.Proofs.YtflngnnoibkkoaaGreat.Pk
open Go.ChangeShapes Go.WideShapes Go.ChangeAt Go.RowKit Go.Fl Go.Sort Go.Shelf Go.Lib Go.Maps
set_option maxRecDepth 200000
set_option maxHeartbeats 8000000
attribute [local go_sem] run_store_float run_neg fold_eq fold_ne fold_lt fold_gt abs_eq eqg57

/-- Rows of spots, each in memory of its own, and the row of them. -/
structure GT (b : Nat) (W : World) (v : Value) (k : Nat) (A C : Nat → Nat) (D : Nat → List Spt) : Prop where
  own : W.ownsRow b 70 1 v k ((List.range k).map fun a => Value.slice (some ⟨A a, 0, none⟩) (D a).length (C a))
  row : ∀ a, a < k → OwnR W (A a) (C a) (D a).toArray ∧ b ≤ A a
  apart : ∀ a, a < k → v.ownBlock ≠ some (A a)
  inj : ∀ a a', a < k → a' < k → A a = A a' → a = a'
theorem GT.kp {b : Nat} {W W' : World} {v : Value} {k : Nat} {A C : Nat → Nat} {D : Nat → List Spt} {F : Nat → Prop} (h : GT b W v k A C D) (hk : Kp F W W') (h1 : ∀ r, v.ownBlock = some r → F r) (h2 : ∀ a, a < k → F (A a)) : GT b W' v k A C D :=
  ⟨owns_kp h.own hk h1, fun a ha => ⟨(h.row a ha).1.kp hk (h2 a ha), (h.row a ha).2⟩, h.apart, h.inj⟩
theorem GT.up {b : Nat} {W W' : World} {v : Value} {k : Nat} {A C : Nat → Nat} {D : Nat → List Spt} (h : GT b W v k A C D) (hu : Up W W') : GT b W' v k A C D :=
  h.kp (F := fun _ => True) (Kp.of_up hu) (fun _ _ => trivial) (fun _ _ => trivial)
theorem GT.nil (b : Nat) (W : World) (A C : Nat → Nat) (D : Nat → List Spt) : GT b W (.slice none 0 0) 0 A C D :=
  ⟨World.ownsRow_nil _ _ _ _, fun a h => by omega, fun a h => by omega, fun a a' h => by omega⟩
theorem GT.lt {b : Nat} {W : World} {v : Value} {k : Nat} {A C : Nat → Nat} {D : Nat → List Spt} (h : GT b W v k A C D) : ∀ a, a < k → A a < W.heap.size := fun a ha => (h.row a ha).1.lt
theorem info25 : (Tryz.prog.info? 70).map (fun i => (i.zero, i.size, i.bytes)) = some (some (.slice none 0 0), 1, 24) := by kernel_rfl
/-- One row more. -/
theorem GT.app {b : Nat} {W W1 w2 : World} {v v' : Value} {k r c m : Nat} {A C : Nat → Nat} {D : Nat → List Spt} {G : List Spt} {o : Obj} (h : GT b W v k A C D) (hk : Kp (fun j => v.ownBlock = some j ∨ ∃ a, a < k ∧ j = A a) W W1) (hr : OwnR W1 r c G.toArray) (hrb : W.heap.size ≤ r) (hb : b ≤ W.heap.size)
    (hown : w2.ownsRow b 70 1 v' (k + 1) (((List.range k).map fun a => Value.slice (some ⟨A a, 0, none⟩) (D a).length (C a)) ++ [.slice (some ⟨r, 0, none⟩) G.length c])) (hg : (W1.alloc o).grownBy w2 v.ownBlock) (hm : W1.heap.size ≤ m) (hat : v'.ownBlock = v.ownBlock ∨ v'.ownBlock = some m) :
    GT b w2 v' (k + 1) (fun a => if a < k then A a else r) (fun a => if a < k then C a else c) (fun a => if a < k then D a else G) := by
  have hk2 : Kp (fun j => v.ownBlock ≠ some j) W1 w2 := (Kp.of_up (Up.alloc W1 o)).trans (grown_kp hg (fun r hr h => h hr))
  have hvr : v.ownBlock ≠ some r := fun e => by have := (h.own.lt r e).2; omega
  refine ⟨?_, fun a ha => ?_, fun a ha => ?_, fun a a' ha ha' e => ?_⟩
  · rw [List.range_succ, List.map_append, List.map_cons, List.map_nil]
    have e1 : ((List.range k).map fun a => Value.slice (some ⟨if a < k then A a else r, 0, none⟩) (if a < k then D a else G).length (if a < k then C a else c)) = (List.range k).map fun a => Value.slice (some ⟨A a, 0, none⟩) (D a).length (C a) := by
      refine List.map_congr_left (fun a ha => ?_)
      have : a < k := by simpa using ha
      simp [this]
    rw [e1, if_neg (by omega), if_neg (by omega), if_neg (by omega)]
    exact hown
  · by_cases q : a < k
    · simp only [if_pos q]
      obtain ⟨o1, o2⟩ := h.row a q
      exact ⟨(o1.kp hk (Or.inr ⟨a, q, rfl⟩)).kp hk2 (h.apart a q), o2⟩
    · simp only [if_neg q]
      exact ⟨hr.kp hk2 hvr, by omega⟩
  · by_cases q : a < k
    · simp only [if_pos q]
      rcases hat with e | e
      · rw [e]; exact h.apart a q
      · rw [e]
        intro e'
        have := h.lt a q
        have hs := hk.size
        simp at e'
        omega
    · simp only [if_neg q]
      rcases hat with e | e
      · rw [e]; exact hvr
      · rw [e]
        intro e'
        have := hr.lt
        simp at e'
        omega
  · by_cases q : a < k <;> by_cases q' : a' < k
    · simp only [if_pos q, if_pos q'] at e; exact h.inj a a' q q' e
    · simp only [if_pos q, if_neg q'] at e
      have := h.lt a q; omega
    · simp only [if_neg q, if_pos q'] at e
      have := h.lt a' q'; omega
    · omega
end Go.Proofs.YtflngnnoibkkoaaGreat.Pk
/- Groups: the walk. -/
namespace Go.Proofs.YtflngnnoibkkoaaGreat.Pk
open Go.ChangeShapes Go.WideShapes Go.ChangeAt Go.RowKit Go.Fl Go.Sort Go.Shelf Go.Lib Go.Maps
set_option maxRecDepth 200000
set_option maxHeartbeats 8000000
attribute [local go_sem] run_store_float run_neg fold_eq fold_ne fold_lt fold_gt abs_eq eqg57

theorem fR_snoc {l : List Spt} {s : Spt} (h : ∀ t ∈ l, cellOf t ≠ cellOf s) (x : Int × Int) : fR (l ++ [s]) x = if x = cellOf s then some s else fR l x := by
  unfold fR
  rw [List.find?_append]
  by_cases hx : x = cellOf s
  · rw [if_pos hx]
    have : l.find? (atC x) = none := by
      rw [List.find?_eq_none]
      intro t ht
      simp [atC, hx]
      have := h t ht
      simpa using this
    rw [this]
    simp [atC, hx]
  · rw [if_neg hx]
    have : [s].find? (atC x) = none := by
      rw [List.find?_eq_none]
      intro t ht
      simp at ht
      subst ht
      simp [atC]
      exact fun e => hx (by simpa using e.symm)
    rw [this]
    simp
theorem take_snoc {C : List Spt} {i : Nat} (h : i < C.length) : C.take (i + 1) = C.take i ++ [C[i]!] := by
  rw [List.take_add_one, List.getElem?_eq_getElem h, getElem!_pos C i h]; rfl
theorem take_dis {C : List Spt} (h : Dis C) {i : Nat} (hi : i < C.length) : ∀ t ∈ C.take i, cellOf t ≠ cellOf C[i]! := by
  have h2 := List.pairwise_append.1 (List.Pairwise.sublist (List.take_sublist (i + 1) C) h |> fun p => (take_snoc hi) ▸ p)
  intro t ht
  exact h2.2.2 t ht _ (by simp)
/-- What the call leaves. -/
def GRes (w : World) (Gs : List (List Spt)) (e : Ending) (w' : World) : Prop := ∃ p c A C D, e = .returned (.slice p Gs.length c) ∧ Hid (GT w.heap.size w' (.slice p Gs.length c) Gs.length A C D ∧ ∀ a, a < Gs.length → D a = Gs[a]!) ∧ Hid (Up w w')
theorem GT.base {b b' : Nat} {W : World} {v : Value} {k : Nat} {A C : Nat → Nat} {D : Nat → List Spt} (h : GT b W v k A C D) (hb : b' ≤ b) : GT b' W v k A C D := by
  refine ⟨?_, fun a ha => ⟨(h.row a ha).1, Nat.le_trans hb (h.row a ha).2⟩, h.apart, h.inj⟩
  obtain ⟨h1, h2⟩ := h.own
  refine ⟨h1, ?_⟩
  rcases h2 with h2 | ⟨g, cap, cur, e, k2, k3⟩
  · exact Or.inl h2
  · exact Or.inr ⟨g, cap, cur, e, Nat.le_trans hb k2, k3⟩
/-- What is known in the first loop. -/
structure L1 (w w1 : World) (q : Option Addr) (M c mb i : Nat) (C : List Spt) (wr : World) : Prop where
  up : Up w w1
  len : C.length = M
  row : M = 0 ∨ ∃ r, q = some ⟨r, 0, none⟩ ∧ OwnR wr r c C.toArray ∧ r < mb
  map : MM wr mb i (fR (C.take i))
  kp : Kp (fun k => k < mb) w1 wr
  hmb : mb = w1.heap.size
  lt : mb < wr.heap.size
theorem L1.up' {w w1 : World} {q : Option Addr} {M c mb i : Nat} {C : List Spt} {wr W : World} (h : L1 w w1 q M c mb i C wr) (hu : Up wr W) : L1 w w1 q M c mb i C W :=
  ⟨h.up, h.len, h.row.imp_right (fun ⟨r, e, o, l⟩ => ⟨r, e, o.up hu, l⟩), h.map.up hu, h.kp.trans (Kp.of_up hu), h.hmb, Nat.lt_of_lt_of_le h.lt (RowKit.Below.size hu)⟩
theorem L1.step {w w1 : World} {q : Option Addr} {M c mb i : Nat} {C : List Spt} {wr W : World} (h : L1 w w1 q M c mb i C wr) (hD : Dis C) (hi : i < M) (hm : MM W mb (i + 1) (fun x => if x = cellOf C[i]! then some C[i]! else fR (C.take i) x)) (hk : Kp (fun k => k ≠ mb) wr W) : L1 w w1 q M c mb (i + 1) C W := by
  have hl := h.len
  refine ⟨h.up, h.len, h.row.imp_right (fun ⟨r, e, o, l⟩ => ⟨r, e, o.kp hk (by omega), l⟩), ?_, h.kp.trans (hk.mono (fun k hk => by omega)), h.hmb, Nat.lt_of_lt_of_le h.lt hk.size⟩
  have e : (fun x => if x = cellOf C[i]! then some C[i]! else fR (C.take i) x) = fR (C.take (i + 1)) := funext fun x => by
    rw [take_snoc (by omega), fR_snoc (take_dis hD (by omega))]
  rw [← e]; exact hm
/-- .. and in the second. -/
structure L2 (w w1 : World) (q : Option Addr) (M c mb i : Nat) (bins : Int) (C : List Spt) (v : Value) (k : Nat) (A Cc : Nat → Nat) (D : Nat → List Spt) (wr : World) : Prop where
  up : Up w w1
  row : M = 0 ∨ ∃ r, q = some ⟨r, 0, none⟩ ∧ OwnR wr r c C.toArray ∧ r < mb
  map : MM wr mb M (fR (grpN bins C i).2)
  kp : Kp (fun k => k < mb) w1 wr
  gt : GT (mb + 1) wr v k A Cc D
  len : k = (grpN bins C i).1.length
  is : ∀ a, a < k → D a = ((grpN bins C i).1)[a]!
  lt : mb < wr.heap.size
theorem L2.up' {w w1 : World} {q : Option Addr} {M c mb i : Nat} {bins : Int} {C : List Spt} {v : Value} {k : Nat} {A Cc : Nat → Nat} {D : Nat → List Spt} {wr W : World} (h : L2 w w1 q M c mb i bins C v k A Cc D wr) (hu : Up wr W) : L2 w w1 q M c mb i bins C v k A Cc D W :=
  ⟨h.up, h.row.imp_right (fun ⟨r, e, o, l⟩ => ⟨r, e, o.up hu, l⟩), h.map.up hu, h.kp.trans (Kp.of_up hu), h.gt.up hu, h.len, h.is, Nat.lt_of_lt_of_le h.lt (RowKit.Below.size hu)⟩
end Go.Proofs.YtflngnnoibkkoaaGreat.Pk
/- Groups: the walk. -/
namespace Go.Proofs.YtflngnnoibkkoaaGreat.Pk
open Go.ChangeShapes Go.WideShapes Go.ChangeAt Go.RowKit Go.Fl Go.Sort Go.Shelf Go.Lib Go.Maps
set_option maxRecDepth 200000
set_option maxHeartbeats 8000000
attribute [local go_sem] run_store_float run_neg fold_eq fold_ne fold_lt fold_gt abs_eq eqg57

theorem cnt_ok {d : Array Spt} {bins : Int} {n : Nat} (hW : ∀ i, i < n → Wf d[i]!) {s : Spt} (h : s ∈ cntF (keptN d bins n)) : Ok bins s ∧ Wf s := by
  have h1 := ((cntF_of (keptN d bins n)).2 s).1 h
  obtain ⟨h2, i, h3, h4⟩ := keptN_mem h1.mem
  have h5 := hW i h3
  rw [h4] at h5
  simp [kpB] at h2
  exact ⟨⟨h2.1.1, h2.1.2, h2.2, h5.2.2⟩, h5⟩
theorem insC_len (s : Spt) : ∀ C : List Spt, (insC s C).length ≤ C.length + 1
  | [] => by simp [insC]
  | t :: r => by
    unfold insC
    split
    · simp
    · split
      · simp
      · have := insC_len s r; simp; omega
theorem cnt_len (L : List Spt) : (cntF L).length ≤ L.length := by
  have : ∀ (L C : List Spt), (L.foldl (fun acc s => insC s acc) C).length ≤ C.length + L.length := by
    intro L
    induction L with
    | nil => intro C; simp
    | cons a l ih =>
      intro C
      have h1 := ih (insC a C)
      have h2 := insC_len a C
      simp; omega
  have := this L []
  simpa [cntF] using this
theorem make61 (m : Int) (w : World) : (Instr.makeMap 176 (some (.int .i64 m))).run Tryz.prog w = .ok (.map (some w.heap.size)) (w.alloc (.map #[] 0)) := by
  simp [Instr.makeMap, run_underlying Tryz.underlying176, asInt, asIntOf, Result.andThen]
theorem get_mid {C : List Spt} {i : Nat} {s : Spt} {M : Nat} (hM : C.length = M) (hi : i < M) (hs : C[i]! = s) : s ∈ C := by
  rw [← hs, getElem!_pos C i (by omega)]; exact List.getElem_mem _
/-- No group comes of a spot that is not left. -/
theorem L2.skip {w w1 : World} {q : Option Addr} {M c mb i : Nat} {bins : Int} {C : List Spt} {v : Value} {k : Nat} {A Cc : Nat → Nat} {D : Nat → List Spt} {wr : World} (h : L2 w w1 q M c mb i bins C v k A Cc D wr) (hf : (fR (grpN bins C i).2 (cellOf C[i]!)).isSome = false) : L2 w w1 q M c mb (i + 1) bins C v k A Cc D wr := by
  have e : grpN bins C (i + 1) = grpN bins C i := by rw [grpN, hf]; rfl
  exact ⟨h.up, h.row, by rw [e]; exact h.map, h.kp, h.gt, by rw [e]; exact h.len, by rw [e]; exact h.is, h.lt⟩
theorem grpN_rlen {bins : Int} {C : List Spt} (h : Dis C) : ∀ i, (grpN bins C i).2.length ≤ C.length
  | 0 => Nat.le_refl _
  | i + 1 => by
    have ih := grpN_rlen (bins := bins) h i
    unfold grpN
    split
    · have := (hang_perm (bins := bins) (grpN_dis (bins := bins) h i) C[i]!).1.length_eq
      rw [List.length_append] at this
      show (hangF bins (grpN bins C i).2 C[i]!).2.length ≤ _
      omega
    · exact ih
/-- One group more. -/
theorem L2.grow {w w1 : World} {q : Option Addr} {M c mb j : Nat} {bins : Int} {C : List Spt} {v v' : Value} {k : Nat} {A Cc : Nat → Nat} {D : Nat → List Spt} {W5 w6 w7 : World} {s : Spt} {r' c' m : Nat} {G : List Spt} {o : Obj} (h : L2 w w1 q M c mb j bins C v k A Cc D W5) (hW : ∀ s ∈ C, Wf s) (hD : Dis C) (hs : C[j]! = s) (hf : (fR (grpN bins C j).2 (cellOf s)).isSome = true)
    (hr : OwnR w6 r' c' G.toArray) (hrb : W5.heap.size ≤ r') (hP : G.Perm (hangF bins (grpN bins C j).2 s).1) (hS : G.Pairwise (fun s t => ¬ ordC t.1 t.2.1 s.1 s.2.1 < 0)) (hm : MM w6 mb M (fR (hangF bins (grpN bins C j).2 s).2)) (hk : Kp (fun b => b ≠ mb ∧ b < W5.heap.size) W5 w6)
    (hown : w7.ownsRow (mb + 1) 70 1 v' (k + 1) (((List.range k).map fun a => Value.slice (some ⟨A a, 0, none⟩) (D a).length (Cc a)) ++ [.slice (some ⟨r', 0, none⟩) G.length c'])) (hg : (w6.alloc o).grownBy w7 v.ownBlock) (hmm : w6.heap.size ≤ m) (hat : v'.ownBlock = v.ownBlock ∨ v'.ownBlock = some m) :
    L2 w w1 q M c mb (j + 1) bins C v' (k + 1) (fun a => if a < k then A a else r') (fun a => if a < k then Cc a else c') (fun a => if a < k then D a else G) w7 := by
  have hdR := grpN_dis (bins := bins) hD j
  have hsub := grpN_sub (bins := bins) hD j
  have hWL : ∀ t ∈ (hangF bins (grpN bins C j).2 s).1, Wf t := fun t ht => hW t (hsub t ((hang_perm hdR s).1.mem_iff.1 (List.mem_append_left _ ht)))
  have eG : G = cntF (hangF bins (grpN bins C j).2 s).1 := sorted_cnt hWL (hang_dis hdR s) hP hS
  have e : grpN bins C (j + 1) = ((grpN bins C j).1 ++ [cntF (hangF bins (grpN bins C j).2 s).1], (hangF bins (grpN bins C j).2 s).2) := by
    rw [grpN, hs, if_pos hf]
  have hlt := h.lt
  have hAlt := h.gt.lt
  have hk1 : Kp (fun b => v.ownBlock = some b ∨ ∃ a, a < k ∧ b = A a) W5 w6 := hk.mono (fun b hb => by
    rcases hb with hb | ⟨a, ha, rfl⟩
    · have := h.gt.own.lt b hb; omega
    · have := hAlt a ha; have := (h.gt.row a ha).2; omega)
  have hvb : ∀ b, v.ownBlock = some b → mb + 1 ≤ b := fun b hb => (h.gt.own.lt b hb).1
  have hk7 : Kp (fun b => b ≤ mb) w6 w7 := (Kp.of_up (Up.alloc w6 o)).trans (grown_kp hg (fun b hb hle => by have := hvb b hb; omega))
  have hk67 : Kp (fun b => b < mb) W5 w7 := (hk.mono (fun b hb => ⟨by omega, by omega⟩)).trans (hk7.mono (fun b hb => by omega))
  refine ⟨h.up, h.row.imp_right (fun ⟨r, e, o', l⟩ => ⟨r, e, o'.kp hk67 l, l⟩), ?_, h.kp.trans hk67, h.gt.app hk1 hr hrb (by omega) hown hg hmm hat, ?_, fun a ha => ?_, ?_⟩
  · rw [e]; exact hm.kp hk7 (Nat.le_refl _)
  · rw [e, List.length_append, ← h.len]; rfl
  · rw [e]
    show _ = ((grpN bins C j).1 ++ [cntF _])[a]!
    by_cases q : a < k
    · simp only [if_pos q]
      rw [h.is a q]
      have hl := h.len
      rw [getElem!_pos _ a (by omega), getElem!_pos _ a (by simp; omega), List.getElem_append_left (by omega)]
    · obtain rfl : a = k := by omega
      simp only [if_neg q]
      have hl := h.len
      rw [getElem!_pos _ a (by simp; omega), List.getElem_append_right (by omega), eG]
      simp
  · have := hk.size; have := hk7.size; omega
theorem so_row {b n c : Nat} {w : World} {p : Option Addr} {G : List Spt} (h : SO b w (.slice p n c) G) (h0 : 0 < G.length) : ∃ r, p = some ⟨r, 0, none⟩ ∧ OwnR w r c G.toArray ∧ b ≤ r ∧ n = G.length := by
  obtain ⟨p', c', hv, hg⟩ := own_form h
  obtain ⟨r, rfl⟩ := hg h0
  simp only [Value.slice.injEq] at hv
  obtain ⟨rfl, _, rfl⟩ := hv
  obtain ⟨o1, o2, o3⟩ := OwnR.of_so h
  exact ⟨r, rfl, o1, o2, o3.symm⟩
/-- A spot that is left stands among those that hang together with it. -/
theorem bfs_len {bins : Int} : ∀ (f k : Nat) (st : List Spt × List Spt), st.1.length ≤ (bfsN bins f k st).1.length
  | 0, _, _ => Nat.le_refl _
  | f + 1, k, st => by
    unfold bfsN
    split
    · exact Nat.le_trans (fold_len _ st) (bfs_len f (k + 1) _)
    · exact Nat.le_refl _
theorem hang_pos {bins : Int} {R : List Spt} {s : Spt} (h : (fR R (cellOf s)).isSome = true) : 0 < (hangF bins R s).1.length := by
  obtain ⟨u, hu⟩ := Option.isSome_iff_exists.1 h
  have h1 := bfs_len (bins := bins) (R.length + 1) 0 (takeL ([], R) (cellOf s))
  rw [takeL_some (st := ([], R)) hu] at h1
  unfold hangF
  rw [takeL_some (st := ([], R)) hu]
  simp at h1 ⊢
  omega
/-- The second loop's end. -/
theorem L2.res {w w1 : World} {q : Option Addr} {M c mb : Nat} {bins : Int} {C : List Spt} {pp : Option Addr} {k cc : Nat} {A Cc : Nat → Nat} {D : Nat → List Spt} {wr : World} (h : L2 w w1 q M c mb M bins C (.slice pp k cc) k A Cc D wr) (hmb : w1.heap.size = mb) : GRes w (grpN bins C M).1 (.returned (.slice pp k cc)) wr := by
  have hl := h.len
  have hu1 := RowKit.Below.size h.up
  subst hl
  refine ⟨pp, cc, A, Cc, D, rfl, ⟨h.gt.base (by omega), h.is⟩, ?_⟩
  exact h.up.trans2 h.kp (fun k hk => by omega)
set_option maxHeartbeats 4000000 in
theorem t15 {w : World} {p : Option Addr} {n cap : Nat} {d : Array Spt} {bins : Int} (HS : ∀ m, m ≤ n → Sorts m) (h : SpV w p n cap d) (b2 : bins ≤ 9223372036854775807) : Calls Tryz.prog 120 #[.slice p n cap, .int .i64 bins] w (GRes w (grpN bins (cntF (keptN d bins n)) (cntF (keptN d bins n)).length).1) := by
  obtain ⟨i0, hi0, hz0, hz1, hz2⟩ := info_parts info25
  have hfew := h.few
  have HOK : Hid (∀ s ∈ cntF (keptN d bins n), Ok bins s ∧ Wf s) := fun s hs => cnt_ok h.wf hs
  have hlen : (cntF (keptN d bins n)).length ≤ n := Nat.le_trans (cnt_len _) (keptN_len _ _ _)
  have HDI : Hid (Dis (cntF (keptN d bins n))) := dis_of_rise (cntF_of _).1 (fun s hs => (HOK.out s hs).2)
  have C34 : Hid (Calls Tryz.prog 146 #[.slice p n cap, .int .i64 bins] w (SR w (cntF (keptN d bins n)))) := t34 HS h
  clear h HS
  generalize cntF (keptN d bins n) = C at *
  obtain ⟨M, hM⟩ : ∃ M, C.length = M := ⟨_, rfl⟩
  have HM : Hid (C.length = M) := hM
  rw [hM] at hlen ⊢
  clear hM
  have hmm := make61 (M : Int)
  have C34 : Hid (Calls Tryz.prog 146 #[.slice p n cap, .int .i64 bins] w fun e w' => ∃ q c, e = .returned (.slice q M c) ∧ Hid (SO w.heap.size w' (.slice q M c) C) ∧ Hid (Up w w')) := HM.out ▸ C34.out
  have m1 : (0 : Int) ≤ (M : Int) := by omega
  go_enter Tryz.func120, Tryz.ntmps120
  go_wp2_with (first
    | (go_at_call 146; (with_reducible refine C34.out.mono ?_); rintro e w1 ⟨q, c, rfl, HSO, HU1⟩))
  have HL : Hid (L1 w w1 q M c w1.heap.size 0 C (w1.alloc (.map #[] 0))) := by
    refine ⟨HU1.out, HM.out, ?_, (show MM _ _ 0 (fR []) from MM.made w1), Kp.of_up (Up.alloc _ _), rfl, by simp⟩
    rcases Nat.eq_zero_or_pos M with e | e
    · exact Or.inl e
    · right
      obtain ⟨p', c', hv, hg⟩ := own_form HSO.out
      rw [HM.out] at hv hg
      obtain ⟨r, rfl⟩ := hg e
      simp only [Value.slice.injEq] at hv
      obtain ⟨rfl, _, rfl⟩ := hv
      obtain ⟨o1, _, _⟩ := OwnR.of_so HSO.out
      exact ⟨r, rfl, o1.up (Up.alloc _ _), o1.lt⟩
  clear HSO hmm C34
  generalize w1.alloc (.map #[] 0) = W1 at *
  generalize hmb : w1.heap.size = mb at *
  go_loopw [8, 22] (fun _ vi wr => ∃ i : Nat, i ≤ M ∧ vi = .int .i64 i ∧ Hid (L1 w w1 q M c mb i C wr)) (fun _ vi _ => M - (intOf vi).toNat)
  case atStart => exact ⟨0, by omega, rfl, HL⟩
  case round =>
    clear HL
    obtain ⟨i, hi, rfl, HL⟩ := hrel
    rename World => wr
    by_cases hlt : i < M
    · obtain ⟨r, hq, OR, hrm⟩ := HL.out.row.resolve_left (by omega)
      subst hq
      obtain ⟨s, hs⟩ : ∃ s, C[i]! = s := ⟨_, rfl⟩
      obtain ⟨⟨c0, c1, c2⟩, _⟩ := OR.cell (i := i) (by have := HM.out; simp; omega)
      have es : C.toArray[i]! = s := by rw [← hs]; simp
      rw [es] at c0 c1 c2
      obtain ⟨s1, s2, s3⟩ := s
      simp only at c0 c1 c2
      have HSS : Hid (C[i]! = (s1, s2, s3)) := hs
      have hin : (s1, s2, s3) ∈ C := by
        have hl := HM.out
        rw [← hs, getElem!_pos C i (by omega)]; exact List.getElem_mem _
      have hwf := (HOK.out _ hin).2
      have z1 : (i : Int) < (M : Int) := by omega
      have HL1 : Hid (L1 w w1 (some ⟨r, 0, none⟩) M c mb i C (wr.alloc (.cells #[.int .i64 s1, .int .i64 s2, .float .f64 s3] 151))) := HL.out.up' (Up.alloc _ _)
      obtain ⟨b0, b1, b3⟩ : (wr.alloc (.cells #[.int .i64 s1, .int .i64 s2, .float .f64 s3] 151)).cell? ⟨wr.heap.size, 0, none⟩ = some (.int .i64 s1) ∧ (wr.alloc (.cells #[.int .i64 s1, .int .i64 s2, .float .f64 s3] 151)).cell? ⟨wr.heap.size, 1, none⟩ = some (.int .i64 s2) ∧ (wr.alloc (.cells #[.int .i64 s1, .int .i64 s2, .float .f64 s3] 151)).cell? ⟨wr.heap.size, 2, none⟩ = some (.float .f64 s3) := by
        refine ⟨?_, ?_, ?_⟩ <;> rw [World.cell?_alloc_at _ _ _ _ rfl] <;> rfl
      clear OR es hs hin
      go_wp2_with fail
      generalize wr.alloc (.cells #[.int .i64 s1, .int .i64 s2, .float .f64 s3] 151) = W2 at *
      generalize wr.heap.size = g2 at *
      refine wp_region_ord 4 [(0, none), (1, some false), (3, some false), (2, some true)] (fun w' => Up W2 w') (by kernel_rfl) (by decide) rfl (by kernel_rfl) (fun _ _ d _ _ h => by cases d <;> exact h) (Up.drewN W2 1) ?_
      refine ⟨_, .map (some mb), some 26, rfl, rfl, Or.inl ⟨rfl, fun w' hS => ?_⟩, ?_⟩
      · go_simp
      refine ⟨_, .agg #[.int .i64 s1, .int .i64 s2, .float .f64 s3], some 27, rfl, rfl, Or.inl ⟨rfl, fun w' hS => ?_⟩, ?_⟩
      · have l0 := cell_up b0 hS
        have l1 := cell_up b1 hS
        have l2 := cell_up b3 hS
        go_simp
      refine ⟨_, .agg #[.int .i64 s1, .int .i64 s2, .float .f64 s3], some 29, rfl, rfl, Or.inl ⟨rfl, fun w' hS => ?_⟩, ?_⟩
      · have l0 := cell_up b0 hS
        have l1 := cell_up b1 hS
        have l2 := cell_up b3 hS
        go_simp
      refine wpOp_call (f := 147) rfl rfl rfl #[.agg #[.int .i64 s1, .int .i64 s2, .float .f64 s3]] (by kernel_rfl) (eg35 _ _) ?_
      refine (t35 s1 s2 s3 _).mono ?_
      rintro e w4 ⟨rfl, HG1⟩
      have HU4 : Hid (Up W2 w4) := (show Up W2 W2.drew from Up.drewN W2 1).trans HG1.out.up
      refine ⟨_, rfl, HU4.out, ?_⟩
      obtain ⟨w5, hst, hm5, hk5⟩ := (HL1.out.up' HU4.out).map.store (c := (s1, s2)) ⟨hwf.1, hwf.2⟩ (s1, s2, s3) (by unfold maxLen; omega)
      have HL5 : Hid (L1 w w1 (some ⟨r, 0, none⟩) M c mb (i + 1) C w5) := (HL1.out.up' HU4.out).step HDI.out hlt (by rw [HSS.out]; exact hm5) hk5
      clear hm5 hk5
      simp only [OrdW, List.drop_succ_cons, List.drop_zero, Act.put, List.setIfInBounds_toArray, List.set_cons_succ, List.set_cons_zero]
      go_wp2
      go_roundw
      case rel => exact ⟨i + 1, by omega, by go_num, HL5⟩
      case measure => simp [intOf]; omega
    · obtain rfl : i = M := by omega
      have HL2 : Hid (L2 w w1 q i c mb 0 bins C (.slice none 0 0) 0 (fun _ => 0) (fun _ => 0) (fun _ => []) wr) := by
        have hl := HL.out
        refine ⟨hl.up, hl.row, ?_, hl.kp, GT.nil _ _ _ _ _, rfl, fun a ha => by omega, hl.lt⟩
        have := hl.map
        rw [← hl.len, List.take_length] at this
        rw [← hl.len]; exact this
      clear HL
      go_wp2
      go_loopw [9, 11, 12, 13, 33] (fun v _ _ _ vi wr => ∃ (j k cc : Nat) (pp : Option Addr) (A Cc : Nat → Nat) (D : Nat → List Spt), j ≤ i ∧ vi = .int .i64 j ∧ v = .slice pp k cc ∧ k ≤ j ∧ Hid (L2 w w1 q i c mb j bins C (.slice pp k cc) k A Cc D wr)) (fun _ _ _ _ vi _ => i - (intOf vi).toNat)
      case atStart => exact ⟨0, 0, 0, none, _, _, _, by omega, rfl, rfl, by omega, HL2⟩
      case round =>
        clear HL2
        obtain ⟨j, k, cc, pp, A, Cc, D, hj, rfl, rfl, hkj, HL⟩ := hrel
        rename World => wr
        by_cases hlt2 : j < i
        · obtain ⟨r, hq, OR, hrm⟩ := HL.out.row.resolve_left (by omega)
          subst hq
          obtain ⟨s, hs⟩ : ∃ s, C[j]! = s := ⟨_, rfl⟩
          obtain ⟨⟨c0, c1, c2⟩, _⟩ := OR.cell (i := j) (by have := HM.out; simp; omega)
          have es : C.toArray[j]! = s := by rw [← hs]; simp
          rw [es] at c0 c1 c2
          obtain ⟨s1, s2, s3⟩ := s
          simp only at c0 c1 c2
          have HSS : Hid (C[j]! = (s1, s2, s3)) := hs
          have hwf := (HOK.out _ (get_mid HM.out hlt2 hs)).2
          have HWC : Hid (Wc (s1, s2)) := ⟨hwf.1, hwf.2⟩
          have z1 : (j : Int) < (i : Int) := by omega
          have HL1 : Hid (L2 w w1 (some ⟨r, 0, none⟩) i c mb j bins C (.slice pp k cc) k A Cc D (wr.alloc (.cells #[.int .i64 s1, .int .i64 s2, .float .f64 s3] 151))) := HL.out.up' (Up.alloc _ _)
          obtain ⟨b0, b1, b3⟩ : (wr.alloc (.cells #[.int .i64 s1, .int .i64 s2, .float .f64 s3] 151)).cell? ⟨wr.heap.size, 0, none⟩ = some (.int .i64 s1) ∧ (wr.alloc (.cells #[.int .i64 s1, .int .i64 s2, .float .f64 s3] 151)).cell? ⟨wr.heap.size, 1, none⟩ = some (.int .i64 s2) ∧ (wr.alloc (.cells #[.int .i64 s1, .int .i64 s2, .float .f64 s3] 151)).cell? ⟨wr.heap.size, 2, none⟩ = some (.float .f64 s3) := by
            refine ⟨?_, ?_, ?_⟩ <;> rw [World.cell?_alloc_at _ _ _ _ rfl] <;> rfl
          clear OR es hs hwf HL
          go_wp2_with fail
          generalize wr.alloc (.cells #[.int .i64 s1, .int .i64 s2, .float .f64 s3] 151) = W2 at *
          generalize wr.heap.size = g2 at *
          refine (t35 s1 s2 s3 _).mono ?_
          rintro e w4 ⟨rfl, HG1⟩
          have HL4 : Hid (L2 w w1 (some ⟨r, 0, none⟩) i c mb j bins C (.slice pp k cc) k A Cc D w4) := HL1.out.up' HG1.out.up
          have d0 := cell_up b0 HG1.out.up
          have d1 := cell_up b1 HG1.out.up
          have d3 := cell_up b3 HG1.out.up
          obtain ⟨t, hlk, ht⟩ := HL4.out.map.look HWC.out
          obtain ⟨t1, t2, t3⟩ := t
          clear HL1 HG1 b0 b1 b3 c0 c1 c2
          obtain ⟨fl, hfl⟩ : ∃ fl, (fR (grpN bins C j).2 (s1, s2)).isSome = fl := ⟨_, rfl⟩
          rw [hfl] at hlk
          have HFL : Hid ((fR (grpN bins C j).2 (s1, s2)).isSome = fl) := hfl
          clear hfl
          cases fl
          · go_wp2
            go_roundw
            case rel => exact ⟨j + 1, k, cc, pp, A, Cc, D, by omega, by go_num, rfl, by omega, (HL4.out.skip (by rw [HSS.out]; exact HFL.out)).up' (Up.alloc _ _)⟩
            case measure => simp [intOf]; omega
          · have hsm : ∃ u, fR (grpN bins C j).2 (s1, s2) = some u := Option.isSome_iff_exists.1 HFL.out
            obtain ⟨u, hu⟩ := hsm
            have hin : (s1, s2, s3) ∈ C := get_mid HM.out hlt2 HSS.out
            have hus : u = (s1, s2, s3) := HDI.out.uniq (grpN_sub HDI.out j u (fR_some hu).1) hin (fR_some hu).2
            subst hus
            have HFS : Hid (fR (grpN bins C j).2 (s1, s2) = some (s1, s2, s3)) := hu
            have HRL : Hid ((grpN bins C j).2.length * 24 ≤ 140737488355328) := by
              have e1 := grpN_rlen (bins := bins) HDI.out j
              have e2 := HM.out
              show _ ≤ _
              omega
            have HL5 : Hid (L2 w w1 (some ⟨r, 0, none⟩) i c mb j bins C (.slice pp k cc) k A Cc D (w4.alloc (.cells #[.int .i64 t1, .int .i64 t2, .float .f64 t3] 151))) := HL4.out.up' (Up.alloc _ _)
            have e0 := cell_up d0 (Up.alloc w4 (.cells #[.int .i64 t1, .int .i64 t2, .float .f64 t3] 151))
            have e1 := cell_up d1 (Up.alloc w4 (.cells #[.int .i64 t1, .int .i64 t2, .float .f64 t3] 151))
            have e3 := cell_up d3 (Up.alloc w4 (.cells #[.int .i64 t1, .int .i64 t2, .float .f64 t3] 151))
            have C36 : Hid (Calls Tryz.prog 148 #[.agg #[.int .i64 s1, .int .i64 s2, .float .f64 s3], .map (some mb), .int .i64 bins] (w4.alloc (.cells #[.int .i64 t1, .int .i64 t2, .float .f64 t3] 151)) (HR (w4.alloc (.cells #[.int .i64 t1, .int .i64 t2, .float .f64 t3] 151)) mb i (hangF bins (grpN bins C j).2 (s1, s2, s3)).1 (hangF bins (grpN bins C j).2 (s1, s2, s3)).2)) :=
              t36 HRL.out b2 (fun t ht => (HOK.out t (grpN_sub HDI.out j t ht)).1) HL5.out.map HFS.out
            clear hu hin ht
            have HPOS : Hid (0 < (hangF bins (grpN bins C j).2 (s1, s2, s3)).1.length) := hang_pos (s := (s1, s2, s3)) HFL.out
            have hmbl := HL5.out.lt
            have hkf : (k + 1) * 24 ≤ 140737488355328 := by omega
            go_wp2_with (first
              | (go_at_call 148; (with_reducible refine C36.out.mono ?_); rintro e w6 ⟨p6, c6, G, rfl, HR6, HM6, HK6⟩;
                 (obtain ⟨r', hp6, hor, hrb, hgl⟩ := so_row HR6.out.1 (by rw [HR6.out.2.1.length_eq]; exact HPOS.out)); subst hp6; rw [hgl];
                 (have HOR : Hid (OwnR w6 r' c6 G.toArray) := hor); clear hor;
                 (have HPM : Hid (G.Perm (hangF bins (grpN bins C j).2 (s1, s2, s3)).1) := HR6.out.2.1);
                 (have HPW : Hid (G.Pairwise (fun s t => ¬ ordC t.1 t.2.1 s.1 s.2.1 < 0)) := HR6.out.2.2);
                 (have HOW : Hid (w6.ownsRow (mb + 1) 70 1 (.slice pp k cc) k ((List.range k).map fun a => Value.slice (some ⟨A a, 0, none⟩) (D a).length (Cc a))) := owns_kp HL5.out.gt.own HK6.out (fun r hr => by have := HL5.out.gt.own.lt r hr; omega)); clear HR6 hgl;
                 (have hsz6 := HK6.out.size))
              | (at_builtin; refine wpList_append_own_at _ rfl _ _ 152 rfl (mb + 1) 70 i0 (.slice none 0 0) 1 24 Tryz.underlying152 hi0 hz0 hz1 hz2 rfl (by decide) _ _ _ rfl (HOW.out.alloc _) ⟨w6.heap.size, 0, none⟩ 1 1 [.slice (some ⟨r', 0, none⟩) G.length c6] rfl rfl (one_new _ _ _) (one_cellV rfl) (by unfold maxLen; omega) hkf (by simp; omega) ?_))
            intro v' w7 hown' hgrow hnil hat
            have HL7 : Hid _ := HL5.out.grow (fun s hs => (HOK.out s hs).2) HDI.out HSS.out HFL.out HOR.out hrb HPM.out (by simpa only [Int.not_lt] using HPW.out) HM6.out HK6.out hown' hgrow (by simp) hat
            obtain ⟨p7, c7, rfl, -⟩ := own_form hown'
            go_wp2
            go_roundw
            case rel => exact ⟨j + 1, k + 1, c7, p7, _, _, _, by omega, by go_num, rfl, by omega, HL7⟩
            case measure => simp [intOf]; omega
        · obtain rfl : j = i := by omega
          have HRS : Hid (GRes w (grpN bins C j).1 (.returned (.slice pp k cc)) wr) := HL.out.res hmb
          go_wp2
          go_ret
          exact HRS.out
end Go.Proofs.YtflngnnoibkkoaaGreat.Pk
