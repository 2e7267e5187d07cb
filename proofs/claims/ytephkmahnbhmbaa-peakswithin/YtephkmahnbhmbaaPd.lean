/- Whether a cell is outdone by a neighbour. -/
import Derived.Test.YtephkmahnbhmbaaPc
namespace Go.Proofs.Ytephkmahnbhmbaa
open Go.ChangeShapes Go.WideShapes Go.ChangeAt Go.RowKit Go.Fl Go.Sort
attribute [local go_sem] run_store_float call52 run_neg fold_eq fold_ne fold_lt fold_gt abs_eq eqg57

/-- A map whose rows hold these floats. -/
structure MV (w : World) (p : Option Addr) (n cap : Nat) (D : Nat → Array Nat) : Prop where
  cap : n ≤ cap
  rd : 0 < n → ∃ b o, p = some ⟨b, o, none⟩ ∧ ∀ i, i < n → ∃ q c, w.cell? ⟨b, o + i, none⟩ = some (.slice q (D i).size c) ∧ SV w q (D i).size c (D i)
  small : ∀ i, i < n → (D i).size ≤ 1152921504606846976
  few : n ≤ 1152921504606846976
theorem MV.up {w w' : World} {p : Option Addr} {n cap : Nat} {D : Nat → Array Nat} (h : MV w p n cap D) (hu : Up w w') : MV w' p n cap D :=
  ⟨h.cap, fun hp => by
    obtain ⟨b, o, e, r⟩ := h.rd hp
    refine ⟨b, o, e, fun i hi => ?_⟩
    obtain ⟨q, c, h1, h2⟩ := r i hi
    exact ⟨q, c, cell_up h1 hu, h2.up hu⟩, h.small, h.few⟩
/-- A cell of a map, in memory. -/
theorem MV.at {w : World} {p : Option Addr} {n cap : Nat} {D : Nat → Array Nat} (h : MV w p n cap D) {x y : Nat} (hx : x < n) (hy : y < (D x).size) :
    ∃ b o b' o' c, p = some ⟨b, o, none⟩ ∧ w.cell? ⟨b, o + x, none⟩ = some (.slice (some ⟨b', o', none⟩) (D x).size c) ∧ w.cell? ⟨b', o' + y, none⟩ = some (.float .f64 (D x)[y]!) ∧ (D x).size ≤ c := by
  obtain ⟨b, o, e, r⟩ := h.rd (by omega)
  obtain ⟨q, c, h1, h2⟩ := r x hx
  obtain ⟨b', o', e', r'⟩ := h2.rd (by omega)
  exact ⟨b, o, b', o', c, e, by rw [← e']; exact h1, r' y hy, h2.cap⟩
/-- Does a neighbour stand in the way? -/
def btF (d pw : Nat) (x y b g : Int) : Bool := gtF (ab d) (ab pw) || (eqF (ab d) (ab pw) && decide (ordC x y b g < 0))
def btC (D : Nat → Array Nat) (pw : Nat) (b g : Int) (c : Int × Int) : Bool := btF (D c.1.toNat)[c.2.toNat]! pw c.1 c.2 b g
/-- What the closure is handed, in memory. -/
structure OI (w0 : World) (p : Option Addr) (n cap pw : Nat) (D : Nat → Array Nat) (b g : Int) (mB iB pB aB : Nat) (F : Nat → Prop) (l : List (Int × Int)) (W : World) : Prop where
  up0 : Up w0 W
  le : w0.heap.size ≤ iB
  mb : W.cell? ⟨mB, 0, none⟩ = some (.slice p n cap)
  is : W.cell? ⟨iB, 0, none⟩ = some (.bool (l.any (btC D pw b g)))
  fz : W.frozen? ⟨iB, 0, none⟩ = false
  pw : W.cell? ⟨pB, 0, none⟩ = some (.float .f64 pw)
  a0 : W.cell? ⟨aB, 0, none⟩ = some (.int .i64 b)
  a1 : W.cell? ⟨aB, 1, none⟩ = some (.int .i64 g)
  n1 : mB ≠ iB
  n2 : pB ≠ iB
  n3 : aB ≠ iB
  nF : ¬ F iB
theorem lt_of_cell {w : World} {b k : Nat} {v : Value} (h : w.cell? ⟨b, k, none⟩ = some v) : b < w.heap.size := by
  obtain ⟨c, e, fr, hb, _⟩ := cells_of_cell? h
  exact (Array.getElem?_eq_some_iff.1 hb).1
theorem frozen_up {w w' : World} {b k : Nat} (h : w.frozen? ⟨b, k, none⟩ = false) (hu : Up w w') (hb : b < w.heap.size) : w'.frozen? ⟨b, k, none⟩ = false := by
  rw [World.frozen?_of_block (RowKit.Below.block hu b hb)]; exact h
theorem OI.up {w0 : World} {p : Option Addr} {n cap pw : Nat} {D : Nat → Array Nat} {b g : Int} {mB iB pB aB : Nat} {F : Nat → Prop} {l : List (Int × Int)} {W W' : World} (h : OI w0 p n cap pw D b g mB iB pB aB F l W) (hu : Up W W') : OI w0 p n cap pw D b g mB iB pB aB (More F W W') l W' :=
  ⟨h.up0.trans hu, h.le, cell_up h.mb hu, cell_up h.is hu, frozen_up h.fz hu (lt_of_cell h.is), cell_up h.pw hu, cell_up h.a0 hu, cell_up h.a1 hu, h.n1, h.n2, h.n3, by
    rintro (k | k)
    · exact h.nF k
    · have := lt_of_cell h.is; omega⟩
theorem Up.trans2 {w0 w w' : World} {F : Nat → Prop} (h : Up w0 w) (k : Kp F w w') (hF : ∀ k, k < w0.heap.size → F k) : Up w0 w' :=
  ((Kp.of_up (F := F) h).trans k).up hF
theorem Kp.setCell {F : Nat → Prop} (w : World) (b k : Nat) (v : Value) (hF : ¬ F b) : Kp F w (w.setCell ⟨b, k, none⟩ v) :=
  ⟨rfl, rfl, rfl, by simp, fun j hj _ => heap_setCell_other w ⟨b, k, none⟩ j _ (fun e => hF (by rw [show b = j from e.symm]; exact hj))⟩
theorem OI.put {w0 : World} {p : Option Addr} {n cap pw : Nat} {D : Nat → Array Nat} {b g : Int} {mB iB pB aB : Nat} {F : Nat → Prop} {l l' : List (Int × Int)} {W : World} (h : OI w0 p n cap pw D b g mB iB pB aB F l W) {v : Bool} (hv : v = l'.any (btC D pw b g)) :
    OI w0 p n cap pw D b g mB iB pB aB F l' (W.setCell ⟨iB, 0, none⟩ (.bool v)) ∧ Kp F W (W.setCell ⟨iB, 0, none⟩ (.bool v)) := by
  have hk : ∀ G : Nat → Prop, ¬ G iB → Kp G W (W.setCell ⟨iB, 0, none⟩ (.bool v)) := fun G hG => Kp.setCell W iB 0 _ hG
  have h1 := hk (fun k => k ≠ iB) (by simp)
  refine ⟨⟨h.up0.trans2 h1 (fun k hk' => by have := h.le; omega), h.le, h1.cell h.n1 h.mb, ?_, (World.frozen?_setCell _ _ _ _).trans h.fz, h1.cell h.n2 h.pw, h1.cell h.n3 h.a0, h1.cell h.n3 h.a1, h.n1, h.n2, h.n3, h.nF⟩, hk F h.nF⟩
  rw [← hv]
  exact World.cell?_setCell_same' W ⟨iB, 0, none⟩ _ (by rw [h.is]; rfl)
theorem btC_nat {D : Nat → Array Nat} {pw : Nat} {b g : Int} {x y : Nat} : btC D pw b g ((x : Int), (y : Int)) = btF (D x)[y]! pw x y b g := by
  simp [btC]
theorem OI.mono {w0 : World} {p : Option Addr} {n cap pw : Nat} {D : Nat → Array Nat} {b g : Int} {mB iB pB aB : Nat} {F G : Nat → Prop} {l : List (Int × Int)} {W : World} (h : OI w0 p n cap pw D b g mB iB pB aB F l W) (hG : ∀ k, G k → F k) : OI w0 p n cap pw D b g mB iB pB aB G l W :=
  ⟨h.up0, h.le, h.mb, h.is, h.fz, h.pw, h.a0, h.a1, h.n1, h.n2, h.n3, fun k => h.nF (hG _ k)⟩
theorem OI.fin {w0 : World} {p : Option Addr} {n cap pw : Nat} {D : Nat → Array Nat} {b g : Int} {mB iB pB aB : Nat} {F G : Nat → Prop} {l : List (Int × Int)} {W W1 W2 : World} {x y dd : Nat} {v v' : Bool} (h : OI w0 p n cap pw D b g mB iB pB aB G l W1) (hG : ∀ k, F k → G k) (hK : Kp F W W1) (hu : Up W1 W2)
    (hE : l.any (btC D pw b g) = v ∧ (D x)[y]! = dd) (hv : v' = (v || btF dd pw x y b g)) :
    Ending.returned (.tuple #[]) = Ending.returned (.tuple #[]) ∧ Hid (OI w0 p n cap pw D b g mB iB pB aB F (l ++ [((x : Int), (y : Int))]) (W2.setCell ⟨iB, 0, none⟩ (.bool v'))) ∧ Hid (Kp F W (W2.setCell ⟨iB, 0, none⟩ (.bool v'))) := by
  have h2 := (h.up hu).mono (G := F) (fun k hk => Or.inl (hG k hk))
  obtain ⟨r1, r2⟩ := h2.put (l' := l ++ [((x : Int), (y : Int))]) (v := v') (by rw [hv, List.any_append, hE.1, List.any_cons, List.any_nil, Bool.or_false, btC_nat, hE.2])
  exact ⟨rfl, r1, (hK.trans (Kp.of_up hu)).trans r2⟩
set_option maxRecDepth 20000 in
set_option maxHeartbeats 1000000 in
theorem t54 {w0 : World} {p : Option Addr} {n cap pw : Nat} {D : Nat → Array Nat} {b g : Int} {mB iB pB aB : Nat} (hm : MV w0 p n cap D) {F : Nat → Prop} {l : List (Int × Int)} {W : World} (h : OI w0 p n cap pw D b g mB iB pB aB F l W) {x y : Nat} (hx : x < n) (hy : y < (D x).size) :
    Calls Try.prog 54 #[.agg #[.int .i64 x, .int .i64 y], .pointer (some ⟨mB, 0, none⟩), .pointer (some ⟨iB, 0, none⟩), .pointer (some ⟨pB, 0, none⟩), .pointer (some ⟨aB, 0, none⟩)] W fun e w' => e = .returned (.tuple #[]) ∧ Hid (OI w0 p n cap pw D b g mB iB pB aB F (l ++ [((x : Int), (y : Int))]) w') ∧ Hid (Kp F W w') := by
  have H1 : Hid (OI w0 p n cap pw D b g mB iB pB aB (More F W (W.alloc (.cells #[.int .i64 x, .int .i64 y] 57))) l (W.alloc (.cells #[.int .i64 x, .int .i64 y] 57))) := h.up (Up.alloc _ _)
  obtain ⟨mb, mo, rb, ro, rc, rfl, k1, k2, k3⟩ := (hm.up H1.out.up0).at hx hy
  obtain ⟨c1, c2⟩ := two_cells W (.int .i64 (x : Int)) (.int .i64 (y : Int)) 57
  have q1 := H1.out.mb
  have q2 := H1.out.is
  have q3 := H1.out.pw
  have q4 := H1.out.a0
  have q5 := H1.out.a1
  have q6 := H1.out.fz
  obtain ⟨v, hv⟩ : ∃ v, l.any (btC D pw b g) = v := ⟨_, rfl⟩
  obtain ⟨dd, hd⟩ : ∃ dd, (D x)[y]! = dd := ⟨_, rfl⟩
  obtain ⟨m, hm'⟩ : ∃ m, (D x).size = m := ⟨_, rfl⟩
  rw [hv] at q2
  rw [hd] at k2
  rw [hm'] at k1 k3 hy
  have HE : Hid (l.any (btC D pw b g) = v ∧ (D x)[y]! = dd) := ⟨hv, hd⟩
  have y1 : (x : Int) < (n : Int) := by omega
  have y2 : (y : Int) < (m : Int) := by omega
  have HK : Hid (Kp F W (W.alloc (.cells #[.int .i64 x, .int .i64 y] 57))) := Kp.of_up (Up.alloc _ _)
  clear hm hv hd hm' h
  go_enter Try.func54, Try.ntmps54
  go_wp2_with fail
  generalize W.alloc (.cells #[.int .i64 (x : Int), .int .i64 (y : Int)] 57) = W1 at *
  generalize W.heap.size = N at *
  go_quiet (fail)
  go_wp2_with (first
    | (go_at_call 55; (with_reducible refine (t55 _ _ _ _ _).mono ?_); rintro e w2 ⟨rfl, HG⟩; (have r2 := cell_up (w := W1.drewN nq) q2 HG.out.up); (have r6 := frozen_up (w := W1.drewN nq) q6 HG.out.up (lt_of_cell q2))))
  all_goals go_end0
  all_goals refine OI.fin H1.out (fun k hk => Or.inl hk) HK.out ?_ HE.out ?_
  all_goals first | exact Up.drewN _ _ | exact (Up.drewN _ _).trans HG.out.up | skip
  all_goals simp_all [btF]
end Go.Proofs.Ytephkmahnbhmbaa
