/- Rows of one's own, whatever stands in them. -/
import Derived.Test.YtfggdaebahdnfaaHb
import Derived.Test.YtfggdaebahdnfaaHg
namespace Go.Proofs.Ytfggdaebahdnfaa
open Go.ChangeShapes Go.WideShapes Go.ChangeAt Go.RowKit Go.Fl Go.Sort

theorem owns_below {w w' : World} {b m n : Nat} {t : TypeId} {s : Nat} {v : Value} {xs : List Value} (h : w.ownsRow b t s v n xs) (hu : RowKit.Below m w w') (hm : ∀ k, v.ownBlock = some k → k < m) : w'.ownsRow b t s v n xs := by
  obtain ⟨h1, h2⟩ := h
  refine ⟨h1, ?_⟩
  rcases h2 with h2 | ⟨g, cap, cur, rfl, k2, k3, k4⟩
  · exact Or.inl h2
  · refine Or.inr ⟨g, cap, cur, rfl, k2, ?_, k4⟩
    rw [hu.block g (hm g rfl)]; exact k3
theorem owns_up {w w' : World} {b n : Nat} {t : TypeId} {s : Nat} {v : Value} {xs : List Value} (h : w.ownsRow b t s v n xs) (hu : Up w w') : w'.ownsRow b t s v n xs := owns_below h hu (fun k hk => (h.lt k hk).2)
/-- The form of a row's value. -/
theorem own_form {b n : Nat} {w : World} {t : TypeId} {s : Nat} {v : Value} {xs : List Value} (h : w.ownsRow b t s v n xs) : ∃ p cap, v = .slice p n cap ∧ (0 < n → ∃ g, p = some ⟨g, 0, none⟩) := by
  rcases h.2 with ⟨rfl, rfl⟩ | ⟨g, cap, cur, rfl, _⟩
  · exact ⟨none, 0, rfl, fun h => by omega⟩
  · exact ⟨_, cap, rfl, fun _ => ⟨g, rfl⟩⟩
/-- But for one block nothing has turned. -/
def But (g : Nat) (w w' : World) : Prop := w.grownBy w' (some g)
theorem But.refl (g : Nat) (w : World) : But g w w := World.grownBy.refl _ _
theorem But.of_up {g : Nat} {w w' : World} (h : Up w w') : But g w w' := ⟨h.os, h.tape, h.output, h.size, fun k hk _ => h.block k hk⟩
theorem But.trans {g : Nat} {a b c : World} (h : But g a b) (k : But g b c) : But g a c := by
  obtain ⟨h1, h2, h3, h4, h5⟩ := h
  obtain ⟨k1, k2, k3, k4, k5⟩ := k
  exact ⟨k1.trans h1, k2.trans h2, k3.trans h3, Nat.le_trans h4 k4, fun j hj hn => (k5 j (Nat.lt_of_lt_of_le hj h4) hn).trans (h5 j hj hn)⟩
theorem But.cell {g : Nat} {w w' : World} {b o : Nat} {v : Value} (h : But g w w') (hb : b ≠ g) (hc : w.cell? ⟨b, o, none⟩ = some v) : w'.cell? ⟨b, o, none⟩ = some v := World.grownBy.cell h hc (by simpa using hb)
theorem But.up {g : Nat} {w0 w w' : World} (h : But g w w') (hu : Up w0 w) (hg : w0.heap.size ≤ g) : Up w0 w' := RowKit.Below.grown hu h hu.size (fun k hk => by cases hk; exact hg)
/-- A row of one's own. -/
def OR {α : Type} (enc : α → Value) (t : TypeId) (b : Nat) (w : World) (v : Value) (d : List α) : Prop := w.ownsRow b t 1 v d.length (d.map enc)
theorem OR.up {α : Type} {enc : α → Value} {t : TypeId} {b : Nat} {w w' : World} {v : Value} {d : List α} (h : OR enc t b w v d) (hu : Up w w') : OR enc t b w' v d := owns_up h hu
theorem OR.base {α : Type} {enc : α → Value} {t : TypeId} {b b' : Nat} {w : World} {v : Value} {d : List α} (h : OR enc t b w v d) (hb : b' ≤ b) : OR enc t b' w v d := by
  obtain ⟨h1, h2⟩ := h
  refine ⟨h1, ?_⟩
  rcases h2 with h2 | ⟨g, cap, cur, rfl, k2, k3⟩
  · exact Or.inl h2
  · exact Or.inr ⟨g, cap, cur, rfl, Nat.le_trans hb k2, k3⟩
theorem OR.nil {α : Type} (enc : α → Value) (t : TypeId) (b : Nat) (w : World) : OR enc t b w (.slice none 0 0) [] := ⟨by simp, Or.inl ⟨rfl, rfl⟩⟩
theorem OR.form {α : Type} {enc : α → Value} {t : TypeId} {b : Nat} {w : World} {v : Value} {d : List α} (h : OR enc t b w v d) : ∃ p cap, v = .slice p d.length cap ∧ (0 < d.length → ∃ g, p = some ⟨g, 0, none⟩) := own_form h
theorem OR.cell {α : Type} [Inhabited α] {enc : α → Value} {t : TypeId} {b g n cap : Nat} {w : World} {d : List α} (h : OR enc t b w (.slice (some ⟨g, 0, none⟩) n cap) d) {i : Nat} (hi : i < d.length) : w.cell? ⟨g, i, none⟩ = some (enc d[i]!) := by
  obtain ⟨p, cap', he, _⟩ := own_form h
  simp only [Value.slice.injEq] at he
  obtain ⟨rfl, rfl, rfl⟩ := he
  rw [World.ownsRow.cellAt h i (by omega)]
  rw [List.getElem?_map, List.getElem?_eq_getElem hi, getElem!_pos d i hi]
  rfl
theorem OR.len {α : Type} {enc : α → Value} {t : TypeId} {b n cap : Nat} {p : Option Addr} {w : World} {d : List α} (h : OR enc t b w (.slice p n cap) d) : d.length = n := by
  obtain ⟨p, cap', he, _⟩ := own_form h
  simp only [Value.slice.injEq] at he
  exact he.2.1.symm
theorem OR.put {α : Type} {enc : α → Value} {t : TypeId} {b g n cap : Nat} {w : World} {d : List α} (h : OR enc t b w (.slice (some ⟨g, 0, none⟩) n cap) d) (k : Nat) (r : α) : OR enc t b (w.setCell ⟨g, k, none⟩ (enc r)) (.slice (some ⟨g, 0, none⟩) n cap) (d.set k r) ∧ But g w (w.setCell ⟨g, k, none⟩ (enc r)) := by
  have hn := h.len
  subst hn
  obtain ⟨s1, s2⟩ := World.ownsRow.stored h k (enc r)
  refine ⟨?_, s2⟩
  unfold OR
  rw [List.length_set, List.map_set]
  exact s1
theorem OR.frz {α : Type} {enc : α → Value} {t : TypeId} {b g n cap : Nat} {w : World} {d : List α} (h : OR enc t b w (.slice (some ⟨g, 0, none⟩) n cap) d) (i : Nat) : w.frozen? ⟨g, i, none⟩ = false := by
  have hn := h.len
  subst hn
  exact World.ownsRow.frozenAt h i
theorem OR.at_ {α : Type} {enc : α → Value} {t : TypeId} {b g n cap : Nat} {w : World} {d : List α} (h : OR enc t b w (.slice (some ⟨g, 0, none⟩) n cap) d) : b ≤ g ∧ g < w.heap.size := World.ownsRow.lt h g rfl
theorem OR.far {α : Type} {enc : α → Value} {t : TypeId} {b g : Nat} {w w' : World} {v : Value} {d : List α} (h : OR enc t b w v d) (hb : But g w w') (hne : v.ownBlock ≠ some g) : OR enc t b w' v d := by
  have hl := h.lt
  obtain ⟨h1, h2⟩ := h
  refine ⟨h1, ?_⟩
  rcases h2 with h2 | ⟨g0, cap0, cur, rfl, k2, k3, k4⟩
  · exact Or.inl h2
  · refine Or.inr ⟨g0, cap0, cur, rfl, k2, ?_, k4⟩
    rw [hb.block g0 (hl g0 rfl).2 (by simpa [Value.ownBlock] using hne)]; exact k3
theorem get_set' {α : Type} [Inhabited α] (R : List α) (i : Nat) (z : α) {j : Nat} (hj : j < R.length) : (R.set i z)[j]! = if j = i then z else R[j]! := by
  rw [getElem!_pos _ j (by simpa using hj), List.getElem_set, getElem!_pos R j hj]
  by_cases e : i = j
  · subst e; simp
  · rw [if_neg e, if_neg (by omega)]
theorem rep_at {α : Type} [Inhabited α] (x : α) {k j : Nat} (h : j < k) : (List.replicate k x)[j]! = x := by
  rw [getElem!_pos _ j (by simpa using h)]; simp
theorem one_cellV {v : Value} (h : v.oneCell' = true) : ∀ u ∈ [v], u.oneCell' = true := by
  intro u hu; simp at hu; subst hu; exact h
theorem one_new (w : World) (x : Value) (t : TypeId) : ∀ (j : Nat) (u : Value), [x][j]? = some u → (w.alloc (.cells #[x] t)).cell? ((⟨w.heap.size, 0, none⟩ : Addr).add j) = some u := by
  intro j u hj
  match j, hj with
  | 0, hj => simp at hj; subst hj; exact World.cell?_alloc_at _ _ _ _ rfl
end Go.Proofs.Ytfggdaebahdnfaa
/- Line, the program's. -/
namespace Go.Proofs.Ytfggdaebahdnfaa
open Go.ChangeShapes Go.WideShapes Go.ChangeAt Go.RowKit Go.Fl Go.Sort
attribute [local go_sem] run_store_float run_store_func call35 call46 run_neg fold_eq fold_ne fold_lt fold_gt abs_eq

/-- How a neighbourhood is cut and made into its level, in memory. -/
def BX (b : Nat) (f : Value) (G T N : Nat) (W : World) : Prop := W.cell? ⟨b, 0, none⟩ = some f ∧ W.cell? ⟨b, 1, none⟩ = some (.int .i64 G) ∧ W.cell? ⟨b, 2, none⟩ = some (.int .i64 T) ∧ W.cell? ⟨b, 3, none⟩ = some (.int .i64 N)
theorem BX.up {b : Nat} {f : Value} {G T N : Nat} {W W' : World} (h : BX b f G T N W) (hu : Up W W') : BX b f G T N W' := ⟨cell_up h.1 hu, cell_up h.2.1 hu, cell_up h.2.2.1 hu, cell_up h.2.2.2 hu⟩
theorem BX.new (w : World) (f : Value) (G T N : Nat) : BX w.heap.size f G T N (w.alloc (.cells #[f, .int .i64 G, .int .i64 T, .int .i64 N] 61)) := ⟨box4 w _ _ _ _ 0 _ rfl, box4 w _ _ _ _ 1 _ rfl, box4 w _ _ _ _ 2 _ rfl, box4 w _ _ _ _ 3 _ rfl⟩
/-- A row of truths of one's own. -/
def BR (b : Nat) (w : World) (v : Value) (l : List Bool) : Prop := OR Value.bool 4 b w v l
/-- The error of a line; what it finds. -/
def linE (n : Nat) (g t m : Int) (x : Nat) : Int := if 16384 < n then 3 else refE g t m x
def linL (way : Int) (G T M : Nat) (x : Option Nat) (d : Array Nat) : List Bool := (List.range d.size).map (echoD way G T M x d)
def linD (way g t m : Int) (x : Nat) (d : Array Nat) : List Bool := if linE d.size g t m x = 0 then linL way g.toNat t.toNat m.toNat (ab x) d else []
def LN (w : World) (way g t m : Int) (x : Nat) (d : Array Nat) (e : Ending) (w' : World) : Prop := ∃ p c, e = .returned (.tuple #[.slice p (linD way g t m x d).length c, .int .i64 (linE d.size g t m x)]) ∧ Hid (BR w.heap.size w' (.slice p (linD way g t m x d).length c) (linD way g t m x d)) ∧ Hid (Up w w')
theorem linL_len (way : Int) (G T M : Nat) (x : Option Nat) (d : Array Nat) : (linL way G T M x d).length = d.size := by simp [linL]
theorem LN.bad {w w' : World} {way g t m : Int} {x : Nat} {d : Array Nat} {c : Int} (h : linE d.size g t m x = c) (hc : c ≠ 0) (hu : Up w w') : LN w way g t m x d (.returned (.tuple #[.slice none 0 0, .int .i64 c])) w' := by
  have e : linD way g t m x d = [] := by unfold linD; rw [h, if_neg hc]
  refine ⟨none, 0, by rw [e, h]; rfl, ?_, hu⟩
  rw [e]; exact OR.nil _ _ _ _
theorem linL_of {way : Int} {G T M : Nat} {x : Option Nat} {d : Array Nat} {l : List Bool} (hl : l.length = d.size) (h : ∀ j, j < d.size → l[j]! = echoD way G T M x d j) : l = linL way G T M x d := by
  refine List.ext_getElem (by rw [hl, linL_len]) fun i h1 h2 => ?_
  have := h i (by omega)
  rw [getElem!_pos l i h1] at this
  rw [this]; simp [linL]
set_option maxRecDepth 20000 in
theorem info4 : (Try.prog.info? 4).map (fun i => (i.zero, i.size, i.bytes)) = some (some (.bool false), 1, 1) := by kernel_rfl
theorem made_bool (n : Nat) : (madeCells (Value.bool false).cells (n * 1)).toList = (List.replicate n false).map Value.bool := by
  rw [Nat.mul_one]
  show (madeCells #[Value.bool false] n).toList = _
  rw [toList_madeCells_one]; simp
theorem refE_cases (g t m : Int) (x : Nat) : refE g t m x = 0 ∨ refE g t m x = 2 ∨ refE g t m x = 6 := by
  unfold refE
  split
  · exact Or.inr (Or.inl rfl)
  · split
    · exact Or.inl rfl
    · exact Or.inr (Or.inr rfl)
theorem refE_may {g t m : Int} {x : Nat} (h : refE g t m x = 0) : mayF g t m = true ∧ fin (ab x) = true := by
  unfold refE at h
  cases hm : mayF g t m
  · rw [hm, if_pos rfl] at h; cases h
  · rw [hm, if_neg (by decide)] at h
    cases hf : fin (ab x)
    · rw [hf, if_neg (by decide)] at h; cases h
    · exact ⟨rfl, rfl⟩
set_option maxHeartbeats 1000000 in
theorem t15bad {w : World} {p : Option Addr} {n cap x : Nat} {d : Array Nat} {way : Int} (g t m : Int) (h1 : -128 ≤ way) (h2 : way ≤ 127) (h : SV w p n cap d) (hE : linE n g t m x ≠ 0) :
    Calls Try.prog 15 #[.slice p n cap, .int .i8 way, .int .i64 g, .int .i64 t, .int .i64 m, .float .f64 x] w (LN w way g t m x d) := by
  have H : Hid (SV w p n cap d) := h
  have HE : Hid (linE n g t m x ≠ 0) := hE
  clear h hE
  by_cases hn : 16384 < n
  · have q : (16384 : Int) < (n : Int) := by omega
    go_enter Try.func15, Try.ntmps15
    go_wp2_with (go_at_call 30; (with_reducible refine (chosen30 h1 h2 _).mono ?_); rintro e w1 ⟨fk, fa, fb, rfl, HL, HU⟩)
    go_ret2
    refine LN.bad ?_ (by decide) (HU.out.trans (Up.alloc _ _))
    unfold linE; rw [if_pos (by rw [H.out.len]; exact hn)]
  · have q : ¬ (16384 : Int) < (n : Int) := by omega
    have e1 : linE n g t m x = refE g t m x := by unfold linE; rw [if_neg hn]
    obtain ⟨c, hc⟩ : ∃ c, refE g t m x = c := ⟨_, rfl⟩
    have C37 : Hid (∀ f W, Calls Try.prog 37 #[.agg #[f, .int .i64 g, .int .i64 t, .int .i64 m], .float .f64 x] W fun e w' => e = .returned (.int .i64 c) ∧ Hid (Up W w')) := fun f W => hc ▸ t37 f g t m x W
    have hc0 : c ≠ 0 := by rw [← hc, ← e1]; exact HE.out
    have b0 : (c == 0) = false := by rw [beq_eq_false_iff_ne]; exact hc0
    have HC : Hid (linE n g t m x = c) := by show _ = _; rw [e1, hc]
    clear e1 hc
    go_enter Try.func15, Try.ntmps15
    go_wp2_with (first
      | (go_at_call 30; (with_reducible refine (chosen30 h1 h2 _).mono ?_); rintro e w1 ⟨fk, fa, fb, rfl, HL, HU⟩)
      | (go_at_call 37; (with_reducible refine (C37.out _ _).mono ?_); rintro e w2 ⟨rfl, HU2⟩))
    go_ret2
    refine LN.bad ?_ hc0 ((HU.out.trans (Up.alloc _ _)).trans HU2.out)
    rw [H.out.len]; exact HC.out
set_option maxHeartbeats 2000000 in
theorem t15ok {w : World} {p : Option Addr} {n cap x : Nat} {d : Array Nat} {way : Int} (g t m : Int) (h1 : -128 ≤ way) (h2 : way ≤ 127) (h : SV w p n cap d) (hE : linE n g t m x = 0) :
    Calls Try.prog 15 #[.slice p n cap, .int .i8 way, .int .i64 g, .int .i64 t, .int .i64 m, .float .f64 x] w (LN w way g t m x d) := by
  have H : Hid (SV w p n cap d) := h
  obtain ⟨i0, hi, hz0, hz1, hz2⟩ := info_parts info4
  have hn : n ≤ 16384 := by
    unfold linE at hE
    by_cases q : 16384 < n
    · rw [if_pos q] at hE; cases hE
    · omega
  have hR : refE g t m x = 0 := by
    unfold linE at hE
    rwa [if_neg (by omega)] at hE
  obtain ⟨hm, _⟩ := refE_may hR
  have HE : Hid (linE d.size g t m x = 0) := by show _ = _; rw [h.len]; exact hE
  simp only [mayF, Bool.and_eq_true, decide_eq_true_eq] at hm
  obtain ⟨⟨⟨g0, g1⟩, t0, t1⟩, m0, m1⟩ := hm
  obtain ⟨G, rfl⟩ := Int.eq_ofNat_of_zero_le g0
  obtain ⟨T, rfl⟩ := Int.eq_ofNat_of_zero_le (show 0 ≤ t by omega)
  obtain ⟨M, rfl⟩ := Int.eq_ofNat_of_zero_le m0
  have C37 : Hid (∀ f W, Calls Try.prog 37 #[.agg #[f, .int .i64 G, .int .i64 T, .int .i64 M], .float .f64 x] W fun e w' => e = .returned (.int .i64 0) ∧ Hid (Up W w')) := fun f W => hR ▸ t37 f G T M x W
  have C38 : Hid (∀ f W K, K < n → Up w W → Lev W way f → Calls Try.prog 38 #[.agg #[f, .int .i64 G, .int .i64 T, .int .i64 M], .slice p n cap, .int .i64 K, .float .f64 x] W (EB W (echoD way G T M (ab x) d K))) := fun f W K hK hu hl => t38 hl (H.out.up hu) hn hK (by omega) (by omega)
  have q : ¬ (16384 : Int) < (n : Int) := by omega
  clear g0 g1 t0 t1 m0 m1 hR hE h
  go_enter Try.func15, Try.ntmps15
  go_wp2_with (first
    | (go_at_call 30; (with_reducible refine (chosen30 h1 h2 _).mono ?_); rintro e w1 ⟨fk, fa, fb, rfl, HL, HU⟩)
    | (go_at_call 37; (with_reducible refine (C37.out _ _).mono ?_); rintro e w2 ⟨rfl, HU2⟩; have HX : Hid (BX w1.heap.size (.func fk fa fb) G T M w2) := (BX.new w1 _ _ _ _).up HU2.out)
    | (refine wpList_make_full _ rfl _ _ 35 rfl w2.heap.size 4 i0 (.bool false) 1 Try.underlying35 hi hz0 hz1 .i64 .i64 _ _ n rfl rfl rfl rfl (by rw [hz2]; omega) (by unfold maxLen; omega) (Nat.le_refl _) ?_; intro w3 hown hgr
       have HO : Hid (BR w2.heap.size w3 (.slice (some ⟨w2.heap.size, 0, none⟩) n n) (List.replicate n false)) := by
         rw [made_bool] at hown; show OR _ _ _ _ _ _; unfold OR; simpa using hown
       have HU3 : Hid (Up w2 w3) := RowKit.Below.grown (Below.refl _ _) hgr (Nat.le_refl _) (fun j hj => by cases hj)
       clear hown hgr))
  have HLW : Hid (Lev w2 way (.func fk fa fb)) := HL.out.up ((Up.alloc _ _).trans HU2.out)
  have HUW : Hid (Up w w2) := (HU.out.trans (Up.alloc _ _)).trans HU2.out
  clear HL HU HU2
  go_loopw [17, 38] (fun _ vi wr => ∃ (i : Nat) (l : List Bool), i ≤ n ∧ vi = .int .i64 i ∧ Hid (BR w2.heap.size wr (.slice (some ⟨w2.heap.size, 0, none⟩) n n) l) ∧ Hid (Up w2 wr) ∧ Hid (∀ j, j < i → l[j]! = echoD way G T M (ab x) d j)) (fun _ vi _ => n - (intOf vi).toNat)
  case atStart => exact ⟨0, _, by omega, rfl, HO, HU3, fun j hj => by omega⟩
  case round =>
    clear HO HU3
    obtain ⟨i, l, hin, rfl, HO, HU3, HV⟩ := hrel
    rename World => W
    by_cases hlt : i < n
    · have hz : (i : Int) < (n : Int) := by omega
      obtain ⟨x0, x1, x2, x3⟩ := HX.out.up HU3.out
      go_wp2_with (go_at_call 38; (with_reducible refine (C38.out _ _ i hlt (HUW.out.trans HU3.out) (HLW.out.up HU3.out)).mono ?_); rintro e w4 ⟨rfl, HU4⟩; (have HO4 : Hid (BR w2.heap.size w4 (.slice (some ⟨w2.heap.size, 0, none⟩) n n) l) := OR.up HO.out HU4.out); (have c0 := OR.cell HO4.out (i := i) (by rw [OR.len HO4.out]; exact hlt)); (have f0 := OR.frz HO4.out i); generalize l[i]! = z0 at c0; clear x0 x1 x2 x3)
      have HP : Hid (BR w2.heap.size (w4.setCell ⟨w2.heap.size, i, none⟩ (.bool (echoD way G T M (ab x) d i))) (.slice (some ⟨w2.heap.size, 0, none⟩) n n) (l.set i (echoD way G T M (ab x) d i)) ∧ Up w2 (w4.setCell ⟨w2.heap.size, i, none⟩ (.bool (echoD way G T M (ab x) d i)))) := by
        obtain ⟨s1, s2⟩ := OR.put HO4.out i (echoD way G T M (ab x) d i)
        exact ⟨s1, s2.up (HU3.out.trans HU4.out) (Nat.le_refl _)⟩
      go_roundw
      case rel =>
        refine ⟨i + 1, l.set i (echoD way G T M (ab x) d i), by omega, by go_num, HP.out.1, HP.out.2, fun j hj => ?_⟩
        rw [get_set' l i _ (by rw [OR.len HO4.out]; omega)]
        by_cases e : j = i
        · rw [if_pos e, e]
        · rw [if_neg e]; exact HV.out j (by omega)
      case measure => simp [intOf]; omega
    · obtain rfl : i = n := by omega
      go_wp2
      go_ret2
      have hl : l = linL way G T M (ab x) d := linL_of (by rw [OR.len HO.out, H.out.len]) (fun j hj => HV.out j (by rw [H.out.len] at hj; exact hj))
      have hD : linD way (G : Int) T M x d = linL way G T M (ab x) d := by unfold linD; rw [if_pos HE.out]; rfl
      refine ⟨some ⟨w2.heap.size, 0, none⟩, i, ?_, ?_, HUW.out.trans HU3.out⟩
      · rw [hD, HE.out, linL_len, H.out.len]; rfl
      · rw [hD, linL_len, H.out.len, ← hl]
        exact OR.base HO.out (RowKit.Below.size HUW.out)
theorem t15 {w : World} {p : Option Addr} {n cap x : Nat} {d : Array Nat} {way : Int} (g t m : Int) (h1 : -128 ≤ way) (h2 : way ≤ 127) (h : SV w p n cap d) :
    Calls Try.prog 15 #[.slice p n cap, .int .i8 way, .int .i64 g, .int .i64 t, .int .i64 m, .float .f64 x] w (LN w way g t m x d) := by
  by_cases hE : linE n g t m x = 0
  · exact t15ok g t m h1 h2 h hE
  · exact t15bad g t m h1 h2 h hE
end Go.Proofs.Ytfggdaebahdnfaa
