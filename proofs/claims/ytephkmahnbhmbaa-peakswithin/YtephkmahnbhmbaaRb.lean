/- A spot is taken out of those that are left. -/
import Derived.Test.YtephkmahnbhmbaaRa
import Derived.Maps.AppendAt
namespace Go.Proofs.Ytephkmahnbhmbaa
open Go.ChangeShapes Go.WideShapes Go.ChangeAt Go.RowKit Go.Fl Go.Sort Go.Shelf Go.Lib Go.Maps
attribute [local go_sem] run_store_float call52 run_neg fold_eq fold_ne fold_lt fold_gt abs_eq eqg57

abbrev cellOf (s : Spt) : Int × Int := (s.1, s.2.1)
def atC (c : Int × Int) (s : Spt) : Bool := decide (cellOf s = c)
/-- What a list has at a cell. -/
def fR (R : List Spt) (c : Int × Int) : Option Spt := R.find? (atC c)
def dropC (R : List Spt) (c : Int × Int) : List Spt := R.filter (fun s => !atC c s)
/-- A cell's spot is taken, if it is left. -/
def takeL (st : List Spt × List Spt) (c : Int × Int) : List Spt × List Spt :=
  match fR st.2 c with
  | some s => (st.1 ++ [s], dropC st.2 c)
  | none => st
theorem fR_drop (R : List Spt) (c x : Int × Int) : fR (dropC R c) x = if x = c then none else fR R x := by
  unfold fR dropC
  induction R with
  | nil => simp
  | cons a l ih =>
    by_cases ha : atC c a = true
    · rw [List.filter_cons_of_neg (by simp [ha]), ih]
      split
      · rfl
      · rename_i hx
        rw [List.find?_cons_of_neg (by simp [atC] at ha ⊢; intro e; exact hx (e.symm.trans ha))]
    · rw [List.filter_cons_of_pos (by simpa using ha)]
      by_cases hx : atC x a = true
      · rw [List.find?_cons_of_pos hx, List.find?_cons_of_pos hx]
        rw [if_neg (fun e : x = c => ha (e ▸ hx))]
      · rw [List.find?_cons_of_neg hx, List.find?_cons_of_neg hx, ih]
theorem fR_some {R : List Spt} {c : Int × Int} {s : Spt} (h : fR R c = some s) : s ∈ R ∧ cellOf s = c := by
  unfold fR at h
  have h1 := List.mem_of_find?_eq_some h
  have h2 := List.find?_some h
  exact ⟨h1, by simpa [atC] using h2⟩
theorem drop_len {R : List Spt} {c : Int × Int} {s : Spt} (h : fR R c = some s) : (dropC R c).length + 1 ≤ R.length := by
  obtain ⟨h1, h2⟩ := fR_some h
  unfold dropC
  have h3 : (R.filter (fun s => !atC c s)).length + (R.filter (fun s => atC c s)).length = R.length := by
    induction R with
    | nil => rfl
    | cons a l ih =>
      clear ih
      have : ∀ l : List Spt, (l.filter (fun s => !atC c s)).length + (l.filter (fun s => atC c s)).length = l.length := by
        intro l
        induction l with
        | nil => rfl
        | cons b r ih =>
          cases hb : atC c b <;> simp [hb] <;> omega
      exact this _
  have h4 : 0 < (R.filter (fun s => atC c s)).length := List.length_pos_of_mem (List.mem_filter.2 ⟨h1, by simp [atC, h2]⟩)
  omega
/-- What is known while spots are taken. -/
structure HS (base lB gB mb N n : Nat) (v : Value) (M : Nat) (st : List Spt × List Spt) (F : Nat → Prop) (W : World) : Prop where
  lb : W.cell? ⟨lB, 0, none⟩ = some (.map (some mb))
  gb : W.cell? ⟨gB, 0, none⟩ = some v
  fz : W.frozen? ⟨gB, 0, none⟩ = false
  row : W.ownsRow base 29 3 v M (st.1.flatMap spC)
  len : st.1.length = M
  most : M + st.2.length ≤ n
  map : MM W mb N (fR st.2)
  bd : ∀ k, F k → k < W.heap.size
  n1 : ¬ F gB
  n2 : ¬ F mb
  n3 : ∀ r, v.ownBlock = some r → ¬ F r
  d1 : gB ≠ lB
  d2 : mb ≠ lB
  d3 : mb ≠ gB
  d4 : ∀ r, v.ownBlock = some r → r ≠ lB ∧ r ≠ gB ∧ r ≠ mb
  hb : base ≤ W.heap.size
theorem HS.up {base lB gB mb N n : Nat} {v : Value} {M : Nat} {st : List Spt × List Spt} {F : Nat → Prop} {W W' : World} (h : HS base lB gB mb N n v M st F W) (hu : Up W W') : HS base lB gB mb N n v M st (More F W W') W' where
  lb := cell_up h.lb hu
  gb := cell_up h.gb hu
  fz := frozen_up h.fz hu (lt_of_cell h.gb)
  row := owns_up h.row hu
  len := h.len
  most := h.most
  map := h.map.up hu
  bd := fun k hk => by
    have hs := RowKit.Below.size hu
    rcases hk with hk | hk
    · have := h.bd k hk; omega
    · exact hk.2
  n1 := by rintro (k | k); exact h.n1 k; have := lt_of_cell h.gb; omega
  n2 := by rintro (k | k); exact h.n2 k; have := h.map.lt; omega
  n3 := fun r hr => by rintro (k | k); exact h.n3 r hr k; have := (h.row.lt r hr).2; omega
  d1 := h.d1
  d2 := h.d2
  d3 := h.d3
  d4 := h.d4
  hb := Nat.le_trans h.hb (RowKit.Below.size hu)
theorem HS.mono {base lB gB mb N n : Nat} {v : Value} {M : Nat} {st : List Spt × List Spt} {F G : Nat → Prop} {W : World} (h : HS base lB gB mb N n v M st F W) (hG : ∀ k, G k → F k) : HS base lB gB mb N n v M st G W :=
  { h with bd := fun k hk => h.bd k (hG k hk), n1 := fun k => h.n1 (hG _ k), n2 := fun k => h.n2 (hG _ k), n3 := fun r hr k => h.n3 r hr (hG _ k) }
theorem grown_kp {w w' : World} {row : Option Nat} {F : Nat → Prop} (h : w.grownBy w' row) (hF : ∀ r, row = some r → ¬ F r) : Kp F w w' :=
  ⟨h.os, h.tape, h.output, h.size, fun k hk hl => h.block k hl (fun e => hF k e.symm hk)⟩
theorem takeL_some {st : List Spt × List Spt} {c : Int × Int} {s : Spt} (h : fR st.2 c = some s) : takeL st c = (st.1 ++ [s], dropC st.2 c) := by unfold takeL; rw [h]
theorem takeL_none {st : List Spt × List Spt} {c : Int × Int} (h : fR st.2 c = none) : takeL st c = st := by unfold takeL; rw [h]
theorem owns_kp {w w' : World} {b s n : Nat} {t : TypeId} {v : Value} {xs : List Value} {F : Nat → Prop} (h : w.ownsRow b t s v n xs) (hk : Kp F w w') (hF : ∀ r, v.ownBlock = some r → F r) : w'.ownsRow b t s v n xs := by
  have hl := h.lt
  obtain ⟨h1, h2⟩ := h
  refine ⟨h1, ?_⟩
  rcases h2 with h2 | ⟨g0, cap0, cur, rfl, k2, k3, k4⟩
  · exact Or.inl h2
  · exact Or.inr ⟨g0, cap0, cur, rfl, k2, (hk.block g0 (hF g0 rfl) (hl g0 rfl).2).trans k3, k4⟩
theorem frozen_kp {w w' : World} {b k : Nat} {F : Nat → Prop} (h : w.frozen? ⟨b, k, none⟩ = false) (hk : Kp F w w') (hF : F b) (hb : b < w.heap.size) : w'.frozen? ⟨b, k, none⟩ = false := by
  rw [World.frozen?_of_block (hk.block b hF hb)]; exact h
def cell2 (w : World) (b : Nat) (u v : Value) : Prop := w.cell? ⟨b, 0, none⟩ = some u ∧ w.cell? ⟨b, 1, none⟩ = some v
/-- What is known when the spot is appended, and what when the row's head is laid. -/
structure HA (base lB gB mb N B0 : Nat) (v v' : Value) (M : Nat) (L R : List Spt) (x y : Int) (W2 w3 : World) : Prop where
  lb : w3.cell? ⟨lB, 0, none⟩ = some (.map (some mb))
  bx : cell2 w3 B0 (.int .i64 x) (.int .i64 y)
  row : w3.ownsRow base 29 3 v' (M + 1) (L.flatMap spC)
  map : MM w3 mb N (fR R)
  nb : ∀ r, v'.ownBlock = some r → v.ownBlock = some r ∨ W2.heap.size ≤ r
  kp : Kp (fun k => v.ownBlock ≠ some k ∧ k ≠ gB) W2 w3
theorem app_facts {base lB gB mb N n B0 : Nat} {v v' : Value} {M : Nat} {st : List Spt × List Spt} {F2 : Nat → Prop} {W2 w3 : World} {s : Spt} {x y : Int} {o : Obj} (h : HS base lB gB mb N n v M st F2 W2) (hB : F2 B0) (hc : cell2 W2 B0 (.int .i64 x) (.int .i64 y))
    (hown' : w3.ownsRow base 29 3 v' (M + 1) (st.1.flatMap spC ++ [.int .i64 s.1, .int .i64 s.2.1, .float .f64 s.2.2])) (hg : (W2.alloc o).grownBy w3 v.ownBlock) {m : Nat} (hm : W2.heap.size ≤ m) (hat : v'.ownBlock = v.ownBlock ∨ v'.ownBlock = some m) :
    HA base lB gB mb N B0 v v' M (st.1 ++ [s]) st.2 x y W2 w3 ∧ w3.cell? ⟨gB, 0, none⟩ = some v ∧ w3.frozen? ⟨gB, 0, none⟩ = false := by
  have hk : Kp (fun k => v.ownBlock ≠ some k) W2 w3 := (Kp.of_up (Up.alloc W2 o)).trans (grown_kp hg (fun r hr h => h hr))
  have f1 : v.ownBlock ≠ some lB := fun e => (h.d4 _ e).1 rfl
  have f2 : v.ownBlock ≠ some gB := fun e => (h.d4 _ e).2.1 rfl
  have f3 : v.ownBlock ≠ some mb := fun e => (h.d4 _ e).2.2 rfl
  have f4 : v.ownBlock ≠ some B0 := fun e => h.n3 _ e hB
  refine ⟨⟨hk.cell f1 h.lb, ⟨hk.cell f4 hc.1, hk.cell f4 hc.2⟩, by rw [List.flatMap_append]; exact hown', h.map.kp hk f3, fun r hr => ?_, hk.mono (fun k hk => hk.1)⟩, hk.cell f2 h.gb, frozen_kp h.fz hk f2 (lt_of_cell h.gb)⟩
  rcases hat with e | e
  · exact Or.inl (e ▸ hr)
  · rw [e] at hr
    cases hr
    exact Or.inr hm
theorem put_facts {base lB gB mb N n B0 : Nat} {v v' : Value} {M : Nat} {st : List Spt × List Spt} {F2 : Nat → Prop} {W2 w3 : World} {L : List Spt} {x y : Int} (h : HS base lB gB mb N n v M st F2 W2) (hB : F2 B0) (a : HA base lB gB mb N B0 v v' M L st.2 x y W2 w3) :
    HA base lB gB mb N B0 v v' M L st.2 x y W2 (w3.setCell ⟨gB, 0, none⟩ v') := by
  have hk : Kp (fun k => k ≠ gB) w3 (w3.setCell ⟨gB, 0, none⟩ v') := Kp.setCell _ _ _ _ (fun k => k rfl)
  have f4 : B0 ≠ gB := fun e => h.n1 (e ▸ hB)
  refine ⟨hk.cell (Ne.symm h.d1) a.lb, ⟨hk.cell f4 a.bx.1, hk.cell f4 a.bx.2⟩, owns_kp a.row hk (fun r hr => ?_), a.map.kp hk h.d3, a.nb, a.kp.trans (hk.mono (fun k hk => hk.2))⟩
  rcases a.nb r hr with e | e
  · exact (h.d4 r e).2.1
  · have := lt_of_cell h.gb; omega
theorem del_facts {base lB gB mb N n B0 : Nat} {v v' : Value} {M : Nat} {st : List Spt × List Spt} {F F2 : Nat → Prop} {W W2 w4 w5 : World} {L : List Spt} {x y : Int} {s : Spt} (h : HS base lB gB mb N n v M st F2 W2) (hF : ∀ k, F k → F2 k) (hbd : ∀ k, F k → k < W.heap.size) (hW : Up W W2)
    (a : HA base lB gB mb N B0 v v' M L st.2 x y W2 w4) (hg : w4.cell? ⟨gB, 0, none⟩ = some v') (hz : w4.frozen? ⟨gB, 0, none⟩ = false) (hs : fR st.2 (x, y) = some s) (hL : L = st.1 ++ [s]) (hm : MM w5 mb N (fun c => if c = (x, y) then none else fR st.2 c)) (hk : Kp (fun k => k ≠ mb) w4 w5) :
    HS base lB gB mb N n v' (M + 1) (takeL st (x, y)) F w5 ∧ Kp F W w5 := by
  have hsz := RowKit.Below.size hW
  have hdl := drop_len hs
  have hmo := h.most
  have e : (fun c => if c = (x, y) then none else fR st.2 c) = fR (dropC st.2 (x, y)) := funext fun c => (fR_drop st.2 (x, y) c).symm
  rw [e] at hm
  have hs1 : W2.heap.size ≤ w5.heap.size := Nat.le_trans a.kp.size hk.size
  have fr : ∀ r, v'.ownBlock = some r → r ≠ mb := fun r hr => by
    rcases a.nb r hr with q | q
    · exact (h.d4 r q).2.2
    · have := h.map.lt; omega
  rw [takeL_some hs]
  refine ⟨⟨hk.cell (Ne.symm h.d2) a.lb, hk.cell (Ne.symm h.d3) hg, frozen_kp hz hk (Ne.symm h.d3) (lt_of_cell hg), ?_, ?_, ?_, hm, fun k hk' => ?_, fun q => h.n1 (hF _ q), fun q => h.n2 (hF _ q), fun r hr q => ?_, h.d1, h.d2, h.d3, fun r hr => ?_, Nat.le_trans h.hb hs1⟩, ?_⟩
  · have := owns_kp a.row hk fr
    rw [hL] at this; exact this
  · rw [List.length_append, h.len]; rfl
  · show M + 1 + (dropC st.2 (x, y)).length ≤ n
    omega
  · have := hbd k hk'; omega
  · rcases a.nb r hr with e | e
    · exact h.n3 r e (hF _ q)
    · have := hbd r q; omega
  · refine ⟨?_, ?_, fr r hr⟩
    · rcases a.nb r hr with e | e
      · exact (h.d4 r e).1
      · have := lt_of_cell h.lb; omega
    · rcases a.nb r hr with e | e
      · exact (h.d4 r e).2.1
      · have := lt_of_cell h.gb; omega
  · refine ((Kp.of_up hW).trans (a.kp.mono (fun k hk' => ⟨fun e => h.n3 k e (hF _ hk'), fun e => h.n1 (hF _ (e ▸ hk'))⟩))).trans (hk.mono (fun k hk' e => h.n2 (hF _ (e ▸ hk'))))
theorem eg61 (args : Array Value) (w : World) : (callFunc 61 args).run Try.prog w = .ok (.enter 61 args) w := enters Try.func61 (by kernel_rfl) (by kernel_rfl) _ _
/-- What a call leaves. -/
def HE (base lB gB mb N n : Nat) (st : List Spt × List Spt) (F : Nat → Prop) (W : World) (e : Ending) (w' : World) : Prop := e = .returned (.tuple #[]) ∧ Hid (∃ v M, HS base lB gB mb N n v M st F w') ∧ Hid (Kp F W w')
set_option maxRecDepth 20000 in
set_option maxHeartbeats 2000000 in
theorem t61 {base lB gB mb N n : Nat} {v : Value} {M : Nat} {st : List Spt × List Spt} {F : Nat → Prop} {W : World} {x y : Int} (hn : n * 24 ≤ 140737488355328) (hc : Wc (x, y)) (h : HS base lB gB mb N n v M st F W) :
    Calls Try.prog 61 #[.agg #[.int .i64 x, .int .i64 y], .pointer (some ⟨lB, 0, none⟩), .pointer (some ⟨gB, 0, none⟩)] W (HE base lB gB mb N n (takeL st (x, y)) F W) := by
  have H1 : Hid (HS base lB gB mb N n v M st (More F W (W.alloc (.cells #[.int .i64 x, .int .i64 y] 57))) (W.alloc (.cells #[.int .i64 x, .int .i64 y] 57))) := h.up (Up.alloc _ _)
  have HK1 : Hid (Kp F W (W.alloc (.cells #[.int .i64 x, .int .i64 y] 57))) := Kp.of_up (Up.alloc _ _)
  obtain ⟨c1, c2⟩ := two_cells W (.int .i64 x) (.int .i64 y) 57
  have HSZ : Hid (W.heap.size < (W.alloc (.cells #[.int .i64 x, .int .i64 y] 57)).heap.size) := by show _ < _; simp
  have HBD : Hid (∀ k, F k → k < W.heap.size) := h.bd
  have hb0 := h.hb
  clear h
  obtain ⟨i0, hi0, hz0, hz1, hz2⟩ := info_parts info29
  have q1 := H1.out.lb
  have q2 := H1.out.gb
  have q3 := H1.out.fz
  obtain ⟨s, hlk, hs⟩ := H1.out.map.look hc
  obtain ⟨s1, s2, s3⟩ := s
  have HC : Hid (Wc (x, y)) := hc
  clear hc
  cases hf : fR st.2 (x, y) with
  | none =>
    rw [hf] at hlk
    simp only [Option.isSome_none] at hlk
    have HF : Hid (fR st.2 (x, y) = none) := hf
    clear hf hs
    go_enter Try.func61, Try.ntmps61
    go_wp2
    go_end0
    refine ⟨rfl, ⟨v, M, ?_⟩, HK1.out.trans (Kp.of_up (Up.alloc _ _))⟩
    rw [takeL_none HF.out]
    exact (H1.out.up (Up.alloc _ _)).mono (fun k hk => Or.inl (Or.inl hk))
  | some t =>
    obtain rfl := hs t hf
    rw [hf] at hlk
    simp only [Option.isSome_some] at hlk
    have HF : Hid (fR st.2 (x, y) = some (s1, s2, s3)) := hf
    have hM := H1.out.most
    have hdl := drop_len hf
    clear hf hs
    have H2 : Hid (HS base lB gB mb N n v M st (More F W ((W.alloc (.cells #[.int .i64 x, .int .i64 y] 57)).alloc (.cells #[.int .i64 s1, .int .i64 s2, .float .f64 s3] 29))) ((W.alloc (.cells #[.int .i64 x, .int .i64 y] 57)).alloc (.cells #[.int .i64 s1, .int .i64 s2, .float .f64 s3] 29))) := by
      refine (H1.out.up (Up.alloc _ _)).mono (fun k hk => ?_)
      have hs := HSZ.out
      rcases hk with hk | hk
      · exact Or.inl (Or.inl hk)
      · rcases Nat.lt_or_ge k (W.alloc (.cells #[.int .i64 x, .int .i64 y] 57)).heap.size with r | r
        · exact Or.inl (Or.inr ⟨hk.1, r⟩)
        · exact Or.inr ⟨r, hk.2⟩
    have hown := H2.out.row
    have g2 := H2.out.gb
    have e1 : cell2 ((W.alloc (.cells #[.int .i64 x, .int .i64 y] 57)).alloc (.cells #[.int .i64 s1, .int .i64 s2, .float .f64 s3] 29)) W.heap.size (.int .i64 x) (.int .i64 y) := ⟨cell_up c1 (Up.alloc _ _), cell_up c2 (Up.alloc _ _)⟩
    have E1 : Hid _ := e1
    clear e1
    go_enter Try.func61, Try.ntmps61
    go_wp2_with (first
      | (at_builtin; refine wpList_append_own_at _ rfl _ _ 25 rfl base 29 i0 (.agg #[.int .i64 0, .int .i64 0, .float .f64 0]) 3 24 Try.underlying25 hi0 hz0 hz1 hz2 rfl (by decide) _ _ _ rfl (hown.alloc _) ⟨W.heap.size + 1 + 1, 0, none⟩ 1 1 [.int .i64 s1, .int .i64 s2, .float .f64 s3] rfl rfl (three_at _ _ _ _ _ (by simp)) (three_one rfl rfl rfl) (by unfold maxLen; omega) (by omega) (by simp; omega) ?_))
    intro v' w3 hown' hgrow hnil hat
    have hF2 : More F W ((W.alloc (.cells #[.int .i64 x, .int .i64 y] 57)).alloc (.cells #[.int .i64 s1, .int .i64 s2, .float .f64 s3] 29)) W.heap.size := Or.inr ⟨Nat.le_refl _, by simp; omega⟩
    obtain ⟨a3, g3, z3⟩ := app_facts (s := (s1, s2, s3)) H2.out hF2 E1.out hown' hgrow (by simp) hat
    have a4 := put_facts H2.out hF2 a3
    have HUP : Hid (Up W ((W.alloc (.cells #[.int .i64 x, .int .i64 y] 57)).alloc (.cells #[.int .i64 s1, .int .i64 s2, .float .f64 s3] 29))) := (Up.alloc _ _).trans (Up.alloc _ _)
    have H4 : Hid _ := a4
    have l4 := a4.lb
    have b4 := a4.bx.1
    have b5 := a4.bx.2
    obtain ⟨w5, hdel, hm5, hk5⟩ := a4.map.drop HC.out 0
    have g4 : (w3.setCell ⟨gB, 0, none⟩ v').cell? ⟨gB, 0, none⟩ = some v' := World.cell?_setCell_same' _ _ _ (by rw [g3]; rfl)
    have z4 : (w3.setCell ⟨gB, 0, none⟩ v').frozen? ⟨gB, 0, none⟩ = false := (World.frozen?_setCell _ _ _ _).trans z3
    have R : Hid _ := del_facts H2.out (fun k hk => Or.inl hk) HBD.out HUP.out a4 g4 z4 HF.out rfl hm5 hk5
    have hv' : ∃ p q r, v' = .slice p q r := by
      obtain ⟨p, c, e, _⟩ := own_form hown'
      exact ⟨p, _, c, e⟩
    obtain ⟨vp, vq, vr, rfl⟩ := hv'
    clear hown' hgrow hnil hat hown g2 H2 E1 q1 q2 q3 c1 c2 hlk a3 a4 hm5 hk5 H1 g4 z4
    go_wp2
    go_end0
    exact ⟨rfl, ⟨_, _, R.out.1⟩, R.out.2⟩
end Go.Proofs.Ytephkmahnbhmbaa
