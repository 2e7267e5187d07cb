/- Rows of numbers, as the program and as the reference keep them; what a call leaves that hands such a row back; Of, SameList, same. -/
import Derived.Test.YtgalgnopjcpocaaG
import Derived.Laws.OwnMore
import Derived.Maps.AppendAt
import Derived.Deep.Onto
import Derived.Deep.AppendLies
import Derived.Deep.RegionHeld3
import Derived.OwnWalk
import Derived.Lib.OthersKept
namespace Go.Proofs.Ytgalgnopjcpocaa
open Go.ChangeShapes Go.WideShapes Go.ChangeAt Go.RowKit Go.Fl Ieee
attribute [local go_sem] run_store_float run_store_complex call20 call33 run_neg fold_eq fold_ne fold_lt fold_gt abs_eq

theorem Up.alloc (w : World) (o : Obj) : Up w (w.alloc o) := (Below.refl _ _).alloc (Nat.le_refl _) _
def ce (p : Nat × Nat) : Value := .complex .f64 p.1 p.2
def se (p : Nat × Nat) : List Value := [.float .f64 p.1, .float .f64 p.2]
/-- A number's two parts, all NaN being one. -/
def ab2 (p : Nat × Nat) : Option Nat × Option Nat := (ab p.1, ab p.2)
/-- A row of numbers of one's own: complex ones; structs of two. -/
def CRow (b : Nat) (w : World) (v : Value) (d : List (Nat × Nat)) : Prop := w.ownsRow b 53 1 v d.length (d.map ce)
def SRow (b : Nat) (w : World) (v : Value) (d : List (Nat × Nat)) : Prop := w.ownsRow b 47 2 v d.length (d.flatMap se)

theorem owns_below {w w' : World} {b m n : Nat} {t : TypeId} {s : Nat} {v : Value} {xs : List Value} (h : w.ownsRow b t s v n xs) (hu : Below m w w') (hm : ∀ k, v.ownBlock = some k → k < m) : w'.ownsRow b t s v n xs := by
  obtain ⟨h1, h2⟩ := h
  refine ⟨h1, ?_⟩
  rcases h2 with h2 | ⟨g, cap, cur, rfl, k2, k3, k4⟩
  · exact Or.inl h2
  · refine Or.inr ⟨g, cap, cur, rfl, k2, ?_, k4⟩
    rw [hu.block g (hm g rfl)]; exact k3
theorem owns_up {w w' : World} {b n : Nat} {t : TypeId} {s : Nat} {v : Value} {xs : List Value} (h : w.ownsRow b t s v n xs) (hu : Up w w') : w'.ownsRow b t s v n xs := owns_below h hu (fun k hk => (h.lt k hk).2)
theorem CRow.up {b : Nat} {w w' : World} {v : Value} {d : List (Nat × Nat)} (h : CRow b w v d) (hu : Up w w') : CRow b w' v d := owns_up h hu
theorem SRow.up {b : Nat} {w w' : World} {v : Value} {d : List (Nat × Nat)} (h : SRow b w v d) (hu : Up w w') : SRow b w' v d := owns_up h hu
theorem flat_len (d : List (Nat × Nat)) : (d.flatMap se).length = d.length * 2 := by
  induction d with
  | nil => rfl
  | cons a l ih => simp only [List.flatMap_cons, List.length_append, ih, List.length_cons]; simp [se]; omega
theorem flat_get (d : List (Nat × Nat)) : ∀ i, i < d.length → (d.flatMap se)[i * 2]? = some (.float .f64 d[i]!.1) ∧ (d.flatMap se)[i * 2 + 1]? = some (.float .f64 d[i]!.2) := by
  induction d with
  | nil => intro i h; simp at h
  | cons a l ih =>
    intro i h
    cases i with
    | zero => simp [List.flatMap_cons, se]
    | succ k =>
      have hk : k < l.length := by simpa using h
      have := ih k hk
      have e1 : (k + 1) * 2 = k * 2 + 1 + 1 := by omega
      simp only [List.flatMap_cons, se, e1]
      simpa using this
/-- The form of a row's value. -/
theorem own_form {b n : Nat} {w : World} {t : TypeId} {s : Nat} {v : Value} {xs : List Value} (h : w.ownsRow b t s v n xs) : ∃ p cap, v = .slice p n cap ∧ (0 < n → ∃ g, p = some ⟨g, 0, none⟩) := by
  rcases h.2 with ⟨rfl, rfl⟩ | ⟨g, cap, cur, rfl, _⟩
  · exact ⟨none, 0, rfl, fun h => by omega⟩
  · exact ⟨_, cap, rfl, fun _ => ⟨g, rfl⟩⟩
theorem CRow.cell {b g n cap : Nat} {w : World} {d : List (Nat × Nat)} (h : CRow b w (.slice (some ⟨g, 0, none⟩) n cap) d) {i : Nat} (hi : i < d.length) : w.cell? ⟨g, i, none⟩ = some (.complex .f64 d[i]!.1 d[i]!.2) := by
  obtain ⟨p, cap', he, _⟩ := own_form h
  simp only [Value.slice.injEq] at he
  obtain ⟨rfl, rfl, rfl⟩ := he
  rw [World.ownsRow.cellAt h i (by omega)]
  rw [List.getElem?_map, List.getElem?_eq_getElem hi, getElem!_pos d i hi]
  rfl
theorem SRow.cell {b g n cap : Nat} {w : World} {d : List (Nat × Nat)} (h : SRow b w (.slice (some ⟨g, 0, none⟩) n cap) d) {i : Nat} (hi : i < d.length) : w.cell? ⟨g, i * 2, none⟩ = some (.float .f64 d[i]!.1) ∧ w.cell? ⟨g, i * 2 + 1, none⟩ = some (.float .f64 d[i]!.2) := by
  obtain ⟨p, cap', he, _⟩ := own_form h
  simp only [Value.slice.injEq] at he
  obtain ⟨rfl, rfl, rfl⟩ := he
  rw [World.ownsRow.cellAt h (i * 2) (by omega), World.ownsRow.cellAt h (i * 2 + 1) (by omega)]
  exact flat_get d i hi

/-- What a call leaves that hands back a row and a code. -/
def PL (w : World) (L : List (Option Nat × Option Nat)) (c : Int) (e : Ending) (w' : World) : Prop := ∃ v d, e = .returned (.tuple #[v, .int .i64 c]) ∧ Hid (CRow w.heap.size w' v d) ∧ Hid (Up w w') ∧ Hid (d.map ab2 = L)
def QL (w : World) (L : List (Option Nat × Option Nat)) (c : Int) (e : Ending) (w' : World) : Prop := ∃ v d, e = .returned (.tuple #[v, .int .i64 c]) ∧ Hid (SRow w.heap.size w' v d) ∧ Hid (Up w w') ∧ Hid (d.map ab2 = L)

set_option maxRecDepth 20000 in
theorem info41 : (Try.prog.info? 53).map (fun i => (i.zero, i.size, i.bytes)) = some (some (.complex .f64 0 0), 1, 16) := by kernel_rfl
/-- One more struct behind a row. -/
theorem srow_push {w wr w1 : World} {v v' : Value} {x y m : Nat} {O : List (Nat × Nat)} {wa : World}
    (hown : wr.ownsRow w.heap.size 47 2 v m (O.flatMap se)) (hu : Up w wr) (ha : Up wr wa)
    (hown' : w1.ownsRow w.heap.size 47 2 v' (m + 1) (O.flatMap se ++ [.float .f64 x, .float .f64 y])) (hg : wa.grownBy w1 v.ownBlock) :
    w1.ownsRow w.heap.size 47 2 v' (m + 1) ((O ++ [(x, y)]).flatMap se) ∧ Up w w1 := by
  refine ⟨by rw [List.flatMap_append]; exact hown', ?_⟩
  exact Below.grown (hu.trans ha) hg (Nat.le_trans hu.size ha.size) (fun j hj => (hown.lt j hj).1)
theorem cell_new2 (w : World) (x y : Nat) (t : TypeId) : ∀ (j : Nat) (u : Value), [Value.float .f64 x, .float .f64 y][j]? = some u → (w.alloc (.cells #[.float .f64 x, .float .f64 y] t)).cell? ((⟨w.heap.size, 0, none⟩ : Addr).add j) = some u := by
  intro j u hj
  match j, hj with
  | 0, hj => simp at hj; subst hj; exact World.cell?_alloc_at _ _ _ _ rfl
  | 1, hj => simp at hj; subst hj; exact World.cell?_alloc_at _ _ _ _ rfl
theorem two_cell (x y : Nat) : ∀ u ∈ [Value.float .f64 x, .float .f64 y], u.oneCell' = true := by
  intro u hu; simp at hu; rcases hu with rfl | rfl <;> rfl

/-- What Of leaves. -/
def OfR (w : World) (d : List (Nat × Nat)) (e : Ending) (w' : World) : Prop := ∃ v, e = .returned v ∧ Hid (SRow w.heap.size w' v d) ∧ Hid (Up w w')
end Go.Proofs.Ytgalgnopjcpocaa
/- Two rows held against each other. -/
namespace Go.Proofs.Ytgalgnopjcpocaa
open Go.ChangeShapes Go.WideShapes Go.ChangeAt Go.RowKit Go.Fl Ieee
attribute [local go_sem] run_store_float run_store_complex call20 call33 run_neg fold_eq fold_ne fold_lt fold_gt abs_eq

theorem cell_up {w w' : World} {b o : Nat} {v : Value} (h : w.cell? ⟨b, o, none⟩ = some v) (hu : Up w w') : w'.cell? ⟨b, o, none⟩ = some v := by
  rw [Below.cell hu (World.block_lt_of_cell? w _ h)]; exact h
theorem same_at {d d' : List (Nat × Nat)} (h : d.map ab2 = d'.map ab2) {i : Nat} (hi : i < d.length) : ab d[i]!.1 = ab d'[i]!.1 ∧ ab d[i]!.2 = ab d'[i]!.2 := by
  have hl : d.length = d'.length := by simpa using congrArg List.length h
  have e := congrArg (fun l => l[i]?) h
  simp only [List.getElem?_map, List.getElem?_eq_getElem hi, List.getElem?_eq_getElem (show i < d'.length by omega), Option.map_some, Option.some.injEq, ab2, Prod.mk.injEq] at e
  rw [getElem!_pos d i hi, getElem!_pos d' i (by omega)]
  exact e
def TU (w : World) (e : Ending) (w' : World) : Prop := e = .returned (.bool true) ∧ Hid (Up w w')
end Go.Proofs.Ytgalgnopjcpocaa
/- A row that is filled in its order; Chirp, Frank and Steps of the program. -/
namespace Go.Proofs.Ytgalgnopjcpocaa
open Go.ChangeShapes Go.WideShapes Go.ChangeAt Go.RowKit Go.Fl Ieee
attribute [local go_sem] run_store_float run_store_complex call20 call33 run_neg fold_eq fold_ne fold_lt fold_gt abs_eq

/-- A row that is being filled. -/
structure Fill (w0 w : World) (g n : Nat) (F : Nat → Option Nat × Option Nat) (k : Nat) : Prop where
  row : ∃ d : List (Nat × Nat), d.length = n ∧ CRow w0.heap.size w (.slice (some ⟨g, 0, none⟩) n n) d ∧ ∀ j, j < k → ab2 d[j]! = F j
  below : Up w0 w
theorem Fill.new {w w' : World} {n : Nat} (F : Nat → Option Nat × Option Nat) (h : w'.ownsRow w.heap.size 53 1 (.slice (some ⟨w.heap.size, 0, none⟩) n n) n (madeCells (Value.complex .f64 0 0).cells (n * 1)).toList) (hg : w.grownBy w' none) : Fill w w' w.heap.size n F 0 := by
  refine ⟨⟨List.replicate n (0, 0), by simp, ?_, fun j hj => by omega⟩, Below.grown (Below.refl _ _) hg (Nat.le_refl _) (fun j hj => by cases hj)⟩
  unfold CRow
  have e : (madeCells (Value.complex .f64 0 0).cells (n * 1)).toList = List.replicate n (.complex .f64 0 0) := by
    rw [Nat.mul_one]; exact toList_madeCells_one _ _
  rw [e] at h
  simpa [ce] using h
theorem Fill.up {w0 w w' : World} {g n k : Nat} {F : Nat → Option Nat × Option Nat} (h : Fill w0 w g n F k) (hu : Up w w') : Fill w0 w' g n F k := by
  obtain ⟨⟨d, h1, h2, h3⟩, h4⟩ := h
  exact ⟨⟨d, h1, h2.up hu, h3⟩, h4.trans hu⟩
theorem Fill.cell {w0 w : World} {g n k : Nat} {F : Nat → Option Nat × Option Nat} (h : Fill w0 w g n F k) {i : Nat} (hi : i < n) : (∃ x y, w.cell? ⟨g, i, none⟩ = some (.complex .f64 x y)) ∧ w.frozen? ⟨g, i, none⟩ = false := by
  obtain ⟨⟨d, rfl, h2, h3⟩, h4⟩ := h
  exact ⟨⟨_, _, h2.cell hi⟩, World.ownsRow.frozenAt h2 i⟩
theorem Fill.stored {w0 w : World} {g n k r s : Nat} {F : Nat → Option Nat × Option Nat} (h : Fill w0 w g n F k) (hk : k < n) (hr : ab r = (F k).1) (hs : ab s = (F k).2) : Fill w0 (w.setCell ⟨g, k, none⟩ (.complex .f64 r s)) g n F (k + 1) := by
  obtain ⟨⟨d, rfl, h2, h3⟩, h4⟩ := h
  obtain ⟨s1, s2⟩ := World.ownsRow.stored h2 k (.complex .f64 r s)
  refine ⟨⟨d.set k (r, s), by simp, ?_, ?_⟩, Below.grown h4 s2 h4.size (fun j hj => (World.ownsRow.lt h2 j (by simpa [Value.ownBlock] using hj)).1)⟩
  · unfold CRow
    rw [List.length_set, List.map_set]
    exact s1
  · intro j hj
    rw [getElem!_pos _ j (by simp; omega), List.getElem_set]
    split
    · rename_i e; subst e; exact Prod.ext hr hs
    · rw [← getElem!_pos d j (by omega)]; exact h3 j (by omega)
theorem Fill.done {w0 w : World} {g n : Nat} {F : Nat → Option Nat × Option Nat} (h : Fill w0 w g n F n) : ∃ d, CRow w0.heap.size w (.slice (some ⟨g, 0, none⟩) n n) d ∧ d.map ab2 = (List.range n).map F := by
  obtain ⟨⟨d, rfl, h2, h3⟩, h4⟩ := h
  refine ⟨d, h2, List.ext_getElem (by simp) fun i hi _ => ?_⟩
  have hi' : i < d.length := by simpa using hi
  have := h3 i hi'
  rw [getElem!_pos d i hi'] at this
  simpa using this
theorem Fill.pl {w0 w : World} {g n : Nat} {F : Nat → Option Nat × Option Nat} (h : Fill w0 w g n F n) {L : List (Option Nat × Option Nat)} (hL : L = (List.range n).map F) : PL w0 L 0 (.returned (.tuple #[.slice (some ⟨g, 0, none⟩) n n, .int .i64 0])) w := by
  obtain ⟨d, h1, h2⟩ := h.done
  exact ⟨_, d, rfl, h1, h.below, h2.trans hL.symm⟩
theorem PL.none (w : World) (c : Int) : PL w [] c (.returned (.tuple #[.slice none 0 0, .int .i64 c])) w := ⟨_, [], rfl, World.ownsRow_nil _ _ _ _, Up.refl _, rfl⟩

def chirpX (n : Nat) (t : Option Nat) (k : Nat) : Option Nat := bin .mul t (bin .quo (ab (floatOfInt .f64 ((k : Int) * k))) (ab (floatOfInt .f64 (2 * (n : Int)))))
def chirpF (n : Nat) (t : Option Nat) (k : Nat) : Option Nat × Option Nat := (turnC (chirpX n t k), turnS (chirpX n t k))
def chirpL (n : Int) (t : Option Nat) : List (Option Nat × Option Nat) := if n < 1 then [] else if n > 16384 then [] else if fin t then (List.range n.toNat).map (chirpF n.toNat t) else []
def chirpE (n : Int) (t : Option Nat) : Int := if n < 1 then 2 else if n > 16384 then 3 else if fin t then 0 else 6

set_option maxRecDepth 20000 in
theorem t49k {x : Nat} {b : Bool} (h : eqF (ab x) (ab x) = !b) (w : World) : Calls Try.prog 49 #[.float .f64 x] w fun e w' => e = .returned (.bool b) ∧ w' = w := by
  have := t49 x w
  rw [h, Bool.not_not] at this; exact this
set_option maxRecDepth 20000 in
theorem t50k {x : Nat} {b : Bool} (h : gtF ((ab x).map abs) (ab 9218868437227405311) = b) (w : World) : Calls Try.prog 50 #[.float .f64 x, .int .i64 0] w fun e w' => e = .returned (.bool b) ∧ w' = w := by
  rw [← h]; exact t50 x w
theorem mul_le {k : Nat} (h : k < 16384) : (k : Int) * k ≤ 268435456 := by
  have : k * k ≤ 16384 * 16384 := Nat.mul_le_mul (by omega) (by omega)
  have e : ((k * k : Nat) : Int) = (k : Int) * k := Int.natCast_mul _ _
  omega
set_option maxRecDepth 20000 in
set_option maxHeartbeats 1000000 in
theorem t36ok (N x : Nat) (w : World) (h1 : 1 ≤ N) (h2 : N ≤ 16384) (hf : fin (ab x) = true) : Calls Try.prog 36 #[.int .i64 N, .float .f64 x] w (PL w ((List.range N).map (chirpF N (ab x))) 0) := by
  obtain ⟨i0, hi, hz0, hz1, hz2⟩ := info_parts info41
  have HE : Hid (eqF (ab x) (ab x) = !false) := by
    show _ = _
    unfold fin at hf
    rw [Bool.and_eq_true] at hf
    exact hf.1
  have HG : Hid (gtF ((ab x).map abs) (ab 9218868437227405311) = false) := by
    show _ = _
    unfold fin at hf
    rw [Bool.and_eq_true, Bool.not_eq_true'] at hf
    exact hf.2
  clear hf
  go_enter Try.func36, Try.ntmps36
  go_wp2_with (first
    | (go_at_call 49; refine (t49k HE.out _).mono ?_; rintro e w' ⟨rfl, rfl⟩)
    | (go_at_call 50; refine (t50k HG.out _).mono ?_; rintro e w' ⟨rfl, rfl⟩)
    | (refine wpList_make_full _ rfl _ _ 54 rfl w'.heap.size 53 i0 (.complex .f64 0 0) 1 Try.underlying54 hi hz0 hz1 .i64 .i64 _ _ N rfl rfl rfl rfl (by rw [hz2]; omega) (by unfold maxLen; omega) (Nat.le_refl _) ?_; intro w1 hown hgr; have HF : Hid (Fill _ w1 _ N (chirpF N (ab x)) 0) := Fill.new _ hown hgr; clear hown hgr))
  go_loopw [7, 8, 26] (fun _ _ i wr => ∃ k : Nat, k ≤ N ∧ i = .int .i64 k ∧ Hid (Fill w' wr w'.heap.size N (chirpF N (ab x)) k)) (fun _ _ i _ => N - (intOf i).toNat)
  case atStart => exact ⟨0, by omega, rfl, HF⟩
  case round =>
    clear HF
    obtain ⟨k, hk, rfl, HF⟩ := hrel
    by_cases hlt : k < N
    · have m1 := mul_le (show k < 16384 by omega)
      have m2 : (0 : Int) ≤ (k : Int) * k := Int.mul_nonneg (by omega) (by omega)
      have hkz : (k : Int) < (N : Int) := by omega
      go_wp2_with (first
        | ((with_reducible refine upon_fl (by simp) ?_); intro r n hr)
        | (go_at_call 51; refine (t51 _ _).mono ?_; rintro e w2 ⟨c, s, rfl, hc, hs, hu⟩; have HF2 : Hid (Fill w' w2 w'.heap.size N (chirpF N (ab x)) k) := HF.out.up (Up.trans (Up.drewN _ _) hu); obtain ⟨⟨x0, y0, hcell⟩, hfr⟩ := HF2.out.cell hlt; clear HF hu))
      go_roundw
      case rel =>
        refine ⟨k + 1, by omega, by go_num, HF2.out.stored hlt ?_ ?_⟩ <;> (clear hcell hfr HF2; simp_all [chirpF, chirpX, Hid])
      case measure => simp [intOf]; omega
    · obtain rfl : N = k := by omega
      go_wp2
      go_ret2
      exact HF.out.pl rfl
set_option maxRecDepth 20000 in
theorem t36 (n : Int) (x : Nat) (w : World) : Calls Try.prog 36 #[.int .i64 n, .float .f64 x] w (PL w (chirpL n (ab x)) (chirpE n (ab x))) := by
  by_cases h1 : n < 1
  · rw [chirpL, chirpE, if_pos h1, if_pos h1]
    go_enter Try.func36, Try.ntmps36
    go_wp2
    go_ret2
    exact PL.none _ _
  · by_cases h2 : n > 16384
    · rw [chirpL, chirpE, if_neg h1, if_neg h1, if_pos h2, if_pos h2]
      go_enter Try.func36, Try.ntmps36
      go_wp2
      go_ret2
      exact PL.none _ _
    · obtain ⟨N, rfl⟩ := Int.eq_ofNat_of_zero_le (show 0 ≤ n by omega)
      rw [chirpL, chirpE, if_neg h1, if_neg h1, if_neg h2, if_neg h2]
      cases hf : fin (ab x)
      · have hf' : ¬ (eqF (ab x) (ab x) = true ∧ gtF ((ab x).map abs) (ab 9218868437227405311) = false) := by
          intro h; simp [fin, h.1, h.2] at hf
        have HF' : Hid _ := hf'
        clear hf hf'
        cases he : eqF (ab x) (ab x)
        · have HE : Hid (eqF (ab x) (ab x) = !true) := he
          clear he
          go_enter Try.func36, Try.ntmps36
          go_wp2_with (go_at_call 49; refine (t49k HE.out _).mono ?_; rintro e w' ⟨rfl, rfl⟩)
          go_ret2
          exact PL.none _ _
        · have HE : Hid (eqF (ab x) (ab x) = !false) := he
          have HG : Hid (gtF ((ab x).map abs) (ab 9218868437227405311) = true) := by
            show _ = _
            cases hg : gtF ((ab x).map abs) (ab 9218868437227405311)
            · exact absurd ⟨he, hg⟩ HF'.out
            · rfl
          clear he
          go_enter Try.func36, Try.ntmps36
          go_wp2_with (first
            | (go_at_call 49; refine (t49k HE.out _).mono ?_; rintro e w' ⟨rfl, rfl⟩)
            | (go_at_call 50; refine (t50k HG.out _).mono ?_; rintro e w' ⟨rfl, rfl⟩))
          go_ret2
          exact PL.none _ _
      · exact t36ok N x w (by omega) (by omega) hf
end Go.Proofs.Ytgalgnopjcpocaa
/- Frank and Steps of the program. -/
namespace Go.Proofs.Ytgalgnopjcpocaa
open Go.ChangeShapes Go.WideShapes Go.ChangeAt Go.RowKit Go.Fl Ieee
attribute [local go_sem] run_store_float run_store_complex call20 call33 run_neg fold_eq fold_ne fold_lt fold_gt abs_eq

set_option maxRecDepth 20000 in
theorem t47 {s n : Int} {b : Bool} (h1 : 1 ≤ n) (h2 : n ≤ 9223372036854775807) (hb : decide (s > Int.tdiv 16384 n) = b) (w : World) : Calls Try.prog 47 #[.int .i64 s, .int .i64 n] w fun e w' => e = .returned (.bool b) ∧ w' = w := by
  have q1 : 0 ≤ Int.tdiv 16384 n := Int.tdiv_nonneg (by omega) (by omega)
  have q2 : Int.tdiv 16384 n ≤ 16384 := Int.tdiv_le_self _ (by omega)
  go_enter Try.func47, Try.ntmps47
  go_wp2
  go_ret
  refine ⟨?_, rfl⟩
  rw [← hb]
  rfl
theorem many_no {s n : Nat} (h1 : 1 ≤ n) (h : s * n ≤ 16384) : decide ((s : Int) > Int.tdiv 16384 n) = false := by
  rw [decide_eq_false_iff_not, Int.tdiv_eq_ediv_of_nonneg (by omega)]
  have : (s : Int) ≤ 16384 / (n : Int) := by
    rw [Int.le_ediv_iff_mul_le (by omega)]
    have : ((s * n : Nat) : Int) = (s : Int) * n := Int.natCast_mul _ _
    omega
  omega
theorem many_yes {s n : Nat} (h1 : 1 ≤ n) (h : 16384 < s * n) : decide ((s : Int) > Int.tdiv 16384 n) = true := by
  rw [decide_eq_true_iff, Int.tdiv_eq_ediv_of_nonneg (by omega)]
  have : 16384 / (n : Int) < (s : Int) := by
    rw [Int.ediv_lt_iff_lt_mul (by omega)]
    have : ((s * n : Nat) : Int) = (s : Int) * n := Int.natCast_mul _ _
    omega
  omega

def unitP (k n : Int) : Option Nat × Option Nat := (unitC k n, unitS k n)
def frankF (m p : Nat) : Option Nat × Option Nat := unitP (((p / m) * (p % m) : Nat) : Int) m
theorem frank_at {i j m : Nat} (hj : j < m) : frankF m (i * m + j) = unitP ((i * j : Nat) : Int) m := by
  unfold frankF
  have e1 : (i * m + j) / m = i := by
    rw [Nat.mul_comm, Nat.mul_add_div (by omega), Nat.div_eq_of_lt hj, Nat.add_zero]
  have e2 : (i * m + j) % m = j := by
    rw [Nat.mul_comm, Nat.mul_add_mod, Nat.mod_eq_of_lt hj]
  rw [e1, e2]
def frankL (m : Int) : List (Option Nat × Option Nat) := if m < 1 then [] else if m > 128 then [] else (List.range (m.toNat * m.toNat)).map (frankF m.toNat)
def frankE (m : Int) : Int := if m < 1 then 2 else if m > 128 then 3 else 0
set_option maxRecDepth 20000 in
set_option maxHeartbeats 1000000 in
theorem t35ok (m : Nat) (w : World) (h1 : 1 ≤ m) (h2 : m ≤ 128) : Calls Try.prog 35 #[.int .i64 m] w (PL w ((List.range (m * m)).map (frankF m)) 0) := by
  obtain ⟨i0, hi, hz0, hz1, hz2⟩ := info_parts info41
  have hmm : m * m ≤ 16384 := Nat.le_trans (Nat.mul_le_mul h2 h2) (by omega)
  have HM : Hid (decide ((m : Int) > Int.tdiv 16384 m) = false) := many_no h1 hmm
  obtain ⟨M, hM⟩ : ∃ M, M = m * m := ⟨_, rfl⟩
  have eM : (m : Int) * m = M := by rw [hM]; exact (Int.natCast_mul _ _).symm
  rw [← hM] at hmm ⊢
  have HMM : Hid (M = m * m) := hM
  clear hM
  go_enter Try.func35, Try.ntmps35
  go_wp2_with (first
    | (go_at_call 47; refine (t47 (by omega) (by omega) HM.out _).mono ?_; rintro e w' ⟨rfl, rfl⟩)
    | (refine wpList_make_full _ rfl _ _ 54 rfl w'.heap.size 53 i0 (.complex .f64 0 0) 1 Try.underlying54 hi hz0 hz1 .i64 .i64 _ _ M rfl rfl rfl rfl (by rw [hz2]; omega) (by unfold maxLen; omega) (Nat.le_refl _) ?_; intro w1 hown hgr; have HF : Hid (Fill _ w1 _ M (frankF m) 0) := Fill.new _ hown hgr; clear hown hgr))
  go_loopw [5, 6, 19] (fun _ _ vi wr => ∃ i : Nat, i ≤ m ∧ vi = .int .i64 i ∧ Hid (Fill w' wr w'.heap.size M (frankF m) (i * m))) (fun _ _ vi _ => m - (intOf vi).toNat)
  case atStart => exact ⟨0, by omega, rfl, by rw [Nat.zero_mul]; exact HF⟩
  case round =>
    clear HF
    obtain ⟨i, hi', rfl, HF⟩ := hrel
    by_cases hlt : i < m
    · have hiz : (i : Int) < (m : Int) := by omega
      obtain ⟨q, hq⟩ : ∃ q, q = i * m := ⟨_, rfl⟩
      have eq : (i : Int) * m = q := by rw [hq]; exact (Int.natCast_mul _ _).symm
      have hqm : q + m ≤ M := by
        rw [hq, HMM.out, ← Nat.succ_mul]; exact Nat.mul_le_mul_right _ hlt
      have HQ : Hid (q = i * m) := hq
      rw [← hq] at HF
      clear hq
      go_wp2
      go_loopw [6, 23] (fun _ vj wr => ∃ j : Nat, j ≤ m ∧ vj = .int .i64 j ∧ Hid (Fill w' wr w'.heap.size M (frankF m) (q + j))) (fun _ vj _ => m - (intOf vj).toNat)
      case atStart => exact ⟨0, by omega, rfl, HF⟩
      case round =>
        clear HF
        obtain ⟨j, hj', rfl, HF⟩ := hrel
        by_cases hlt2 : j < m
        · have hjz : (j : Int) < (m : Int) := by omega
          obtain ⟨p, hp⟩ : ∃ p, p = q + j := ⟨_, rfl⟩
          have ep : (q : Int) + j = p := by omega
          have hpM : p < M := by omega
          have hpz : (p : Int) < (M : Int) := by omega
          obtain ⟨r, hr⟩ : ∃ r, r = i * j := ⟨_, rfl⟩
          have er : (i : Int) * j = r := by rw [hr]; exact (Int.natCast_mul _ _).symm
          have hr2 : r ≤ 16384 := by rw [hr]; exact Nat.le_trans (Nat.mul_le_mul (Nat.le_of_lt hlt) (Nat.le_of_lt hlt2)) (by rw [← HMM.out]; omega)
          have HU : Hid (frankF m p = unitP r m) := by
            show _ = _
            rw [hp, HQ.out, hr]; exact frank_at hlt2
          have HP : Hid (p = q + j) := hp
          rw [← hp] at HF
          clear hp hr
          go_wp2_with (go_at_call 48; refine (t48 _ _ _ (by omega) (by omega)).mono ?_; rintro e w2 ⟨c, s, rfl, hc, hs, hu⟩; have HF2 : Hid (Fill w' w2 w'.heap.size M (frankF m) p) := HF.out.up hu; obtain ⟨⟨x0, y0, hcell⟩, hfr⟩ := HF2.out.cell hpM; clear HF hu)
          go_roundw
          case rel =>
            refine ⟨j + 1, by omega, by go_num, ?_⟩
            rw [← Nat.add_assoc, ← HP.out]
            exact HF2.out.stored hpM (by rw [HU.out]; exact hc.out) (by rw [HU.out]; exact hs.out)
          case measure => simp [intOf]; omega
        · obtain rfl : m = j := by omega
          go_wp2
          go_roundw
          case rel => exact ⟨i + 1, by omega, by go_num, by rw [Nat.succ_mul, ← HQ.out]; exact HF⟩
          case measure => simp [intOf]; omega
    · obtain rfl : m = i := by omega
      go_wp2
      go_ret2
      exact Fill.pl (by rw [← HMM.out] at HF; exact HF.out) rfl
set_option maxRecDepth 20000 in
theorem t35 (m : Int) (w : World) (hm : m ≤ 9223372036854775807) : Calls Try.prog 35 #[.int .i64 m] w (PL w (frankL m) (frankE m)) := by
  by_cases h1 : m < 1
  · rw [frankL, frankE, if_pos h1, if_pos h1]
    go_enter Try.func35, Try.ntmps35
    go_wp2
    go_ret2
    exact PL.none _ _
  · obtain ⟨N, rfl⟩ := Int.eq_ofNat_of_zero_le (show 0 ≤ m by omega)
    by_cases h2 : (N : Int) > 128
    · rw [frankL, frankE, if_neg h1, if_neg h1, if_pos h2, if_pos h2]
      have HM : Hid (decide ((N : Int) > Int.tdiv 16384 N) = true) := many_yes (by omega) (Nat.lt_of_lt_of_le (by omega) (Nat.mul_le_mul (show 129 ≤ N by omega) (show 129 ≤ N by omega)))
      go_enter Try.func35, Try.ntmps35
      go_wp2_with (go_at_call 47; refine (t47 (by omega) (by omega) HM.out _).mono ?_; rintro e w' ⟨rfl, rfl⟩)
      go_ret2
      exact PL.none _ _
    · rw [frankL, frankE, if_neg h1, if_neg h1, if_neg h2, if_neg h2]
      exact t35ok N w (by omega) (by omega)

/-- The cells of a slice hold these whole numbers. -/
def IRow (w : World) (v : Value) (o : List Int) : Prop := ∃ p cap, v = .slice p o.length cap ∧ ∀ i, i < o.length → ∃ blk off, p = some ⟨blk, off, none⟩ ∧ w.cell? ⟨blk, off + i, none⟩ = some (.int .i64 o[i]!)
theorem IRow.up {w w' : World} {v : Value} {o : List Int} (h : IRow w v o) (hu : Up w w') : IRow w' v o := by
  obtain ⟨p, cap, rfl, h⟩ := h
  refine ⟨p, cap, rfl, fun i hi => ?_⟩
  obtain ⟨blk, off, hp, hc⟩ := h i hi
  exact ⟨blk, off, hp, cell_up hc hu⟩
def stepsF (o : List Int) (n p : Nat) : Option Nat × Option Nat := unitP (Int.tmod o[p / n]! n * ((p % n : Nat) : Int)) n
theorem steps_at {o : List Int} {i j n : Nat} (hj : j < n) : stepsF o n (i * n + j) = unitP (Int.tmod o[i]! n * (j : Int)) n := by
  unfold stepsF
  have e1 : (i * n + j) / n = i := by
    rw [Nat.mul_comm, Nat.mul_add_div (by omega), Nat.div_eq_of_lt hj, Nat.add_zero]
  have e2 : (i * n + j) % n = j := by
    rw [Nat.mul_comm, Nat.mul_add_mod, Nat.mod_eq_of_lt hj]
  rw [e1, e2]
def stepsL (o : List Int) (n : Int) : List (Option Nat × Option Nat) := if n < 1 then [] else if 16384 < o.length * n.toNat then [] else (List.range (o.length * n.toNat)).map (stepsF o n.toNat)
def stepsE (o : List Int) (n : Int) : Int := if n < 1 then 2 else if 16384 < o.length * n.toNat then 3 else 0
theorem rest_bounds {f : Int} {n j : Nat} (h1 : 1 ≤ n) (h2 : n ≤ 16384) (hj : j < n) : -268435456 ≤ Int.tmod f n * (j : Int) ∧ Int.tmod f n * (j : Int) ≤ 268435456 := by
  have b1 := Int.tmod_lt_of_pos f (show (0 : Int) < n by omega)
  have b2 : -(n : Int) < f.tmod n := Int.lt_tmod_of_pos f (show (0 : Int) < n by omega)
  generalize f.tmod n = r at *
  have k1 : r * (j : Int) ≤ 16384 * 16384 := by
    rcases Int.le_total r 0 with h | h
    · exact Int.le_trans (Int.mul_nonpos_of_nonpos_of_nonneg h (by omega)) (by omega)
    · exact Int.mul_le_mul (by omega) (by omega) (by omega) (by omega)
  have k2 : (-r) * (j : Int) ≤ 16384 * 16384 := by
    rcases Int.le_total 0 r with h | h
    · exact Int.le_trans (Int.mul_nonpos_of_nonpos_of_nonneg (by omega) (by omega)) (by omega)
    · exact Int.mul_le_mul (by omega) (by omega) (by omega) (by omega)
  rw [Int.neg_mul] at k2
  omega
set_option maxRecDepth 20000 in
set_option maxHeartbeats 1000000 in
theorem t37ok (o : List Int) (v : Value) (n : Nat) (w : World) (hR : IRow w v o) (h1 : 1 ≤ n) (hK : o.length < 1000000000) (h2 : o.length * n ≤ 16384) (h3 : n ≤ 9223372036854775807) : Calls Try.prog 37 #[v, .int .i64 n] w (PL w ((List.range (o.length * n)).map (stepsF o n)) 0) := by
  obtain ⟨i0, hi, hz0, hz1, hz2⟩ := info_parts info41
  have HR : Hid (IRow w v o) := hR
  obtain ⟨pp, cap, rfl, hpp⟩ := hR
  have HPP : Hid (∀ i, i < o.length → ∃ blk off, pp = some ⟨blk, off, none⟩ ∧ w.cell? ⟨blk, off + i, none⟩ = some (.int .i64 o[i]!)) := hpp
  clear hpp HR
  have HM : Hid (decide ((o.length : Int) > Int.tdiv 16384 n) = false) := many_no h1 h2
  obtain ⟨M, hM⟩ : ∃ M, M = o.length * n := ⟨_, rfl⟩
  have eM : (o.length : Int) * n = M := by rw [hM]; exact (Int.natCast_mul _ _).symm
  rw [← hM] at h2 ⊢
  have HMM : Hid (M = o.length * n) := hM
  clear hM
  generalize hN : o.length = K at *
  have HN : Hid (o.length = K) := hN
  clear hN
  go_enter Try.func37, Try.ntmps37
  go_wp2_with (first
    | (go_at_call 47; refine (t47 (by omega) (by omega) HM.out _).mono ?_; rintro e w' ⟨rfl, rfl⟩)
    | (refine wpList_make_full _ rfl _ _ 54 rfl w'.heap.size 53 i0 (.complex .f64 0 0) 1 Try.underlying54 hi hz0 hz1 .i64 .i64 _ _ M rfl rfl rfl rfl (by rw [hz2]; omega) (by unfold maxLen; omega) (Nat.le_refl _) ?_; intro w1 hown hgr; have HF : Hid (Fill _ w1 _ M (stepsF o n) 0) := Fill.new _ hown hgr; clear hown hgr))
  go_loopw [7, 8, 9, 10, 26] (fun _ _ _ _ vi wr => ∃ i : Nat, i ≤ K ∧ vi = .int .i64 i ∧ Hid (Fill w' wr w'.heap.size M (stepsF o n) (i * n))) (fun _ _ _ _ vi _ => K - (intOf vi).toNat)
  case atStart => exact ⟨0, by omega, rfl, by rw [Nat.zero_mul]; exact HF⟩
  case round =>
    clear HF
    obtain ⟨i, hi', rfl, HF⟩ := hrel
    by_cases hlt : i < K
    · have hiz : (i : Int) < (K : Int) := by omega
      obtain ⟨blk, off, hp, hc0⟩ := HPP.out i (by have := HN.out; omega)
      subst hp
      have hc1 := cell_up hc0 HF.out.below
      generalize hf : o[i]! = f at hc0 hc1
      have HFF : Hid (o[i]! = f) := hf
      clear hf hc0
      have hn2 : n ≤ 16384 := by
        have e := HMM.out
        have : 1 * n ≤ K * n := Nat.mul_le_mul_right _ (by omega)
        omega
      have b1 := Int.tmod_lt_of_pos f (show (0 : Int) < n by omega)
      have b2 : -(n : Int) < f.tmod n := Int.lt_tmod_of_pos f (show (0 : Int) < n by omega)
      obtain ⟨q, hq⟩ : ∃ q, q = i * n := ⟨_, rfl⟩
      have eq : (i : Int) * n = q := by rw [hq]; exact (Int.natCast_mul _ _).symm
      have hqm : q + n ≤ M := by
        rw [hq, HMM.out, ← Nat.succ_mul]; exact Nat.mul_le_mul_right _ hlt
      have HQ : Hid (q = i * n) := hq
      rw [← hq] at HF
      clear hq
      go_wp2
      go_loopw [10, 35] (fun _ vj wr => ∃ j : Nat, j ≤ n ∧ vj = .int .i64 j ∧ Hid (Fill w' wr w'.heap.size M (stepsF o n) (q + j))) (fun _ vj _ => n - (intOf vj).toNat)
      case atStart => exact ⟨0, by omega, rfl, HF⟩
      case round =>
        clear HF
        obtain ⟨j, hj', rfl, HF⟩ := hrel
        by_cases hlt2 : j < n
        · have hjz : (j : Int) < (n : Int) := by omega
          obtain ⟨p, hp⟩ : ∃ p, p = q + j := ⟨_, rfl⟩
          have ep : (q : Int) + j = p := by omega
          have hpM : p < M := by omega
          have hpz : (p : Int) < (M : Int) := by omega
          obtain ⟨r1, r2⟩ := rest_bounds (f := f) h1 hn2 hlt2
          have HU : Hid (stepsF o n p = unitP (f.tmod n * j) n) := by
            show _ = _
            rw [hp, HQ.out, steps_at hlt2, HFF.out]
          have HP : Hid (p = q + j) := hp
          rw [← hp] at HF
          clear hp
          go_wp2_with (go_at_call 48; refine (t48 _ _ _ (by omega) (by omega)).mono ?_; rintro e w2 ⟨c, s, rfl, hc, hs, hu⟩; have HF2 : Hid (Fill w' w2 w'.heap.size M (stepsF o n) p) := HF.out.up hu; obtain ⟨⟨x0, y0, hcell⟩, hfr⟩ := HF2.out.cell hpM; clear HF hu)
          go_roundw
          case rel =>
            refine ⟨j + 1, by omega, by go_num, ?_⟩
            rw [← Nat.add_assoc, ← HP.out]
            exact HF2.out.stored hpM (by rw [HU.out]; exact hc.out) (by rw [HU.out]; exact hs.out)
          case measure => simp [intOf]; omega
        · obtain rfl : n = j := by omega
          go_wp2
          go_roundw
          case rel => exact ⟨i + 1, by omega, by go_num, by rw [Nat.succ_mul, ← HQ.out]; exact HF⟩
          case measure => simp [intOf]; omega
    · obtain rfl : K = i := by omega
      go_wp2
      go_ret2
      exact Fill.pl (by rw [← HMM.out] at HF; exact HF.out) rfl
set_option maxRecDepth 20000 in
theorem t37 (o : List Int) (v : Value) (n : Int) (w : World) (hR : IRow w v o) (hK : o.length < 1000000000) (hn : n ≤ 9223372036854775807) : Calls Try.prog 37 #[v, .int .i64 n] w (PL w (stepsL o n) (stepsE o n)) := by
  by_cases h1 : n < 1
  · rw [stepsL, stepsE, if_pos h1, if_pos h1]
    obtain ⟨pp, cap, rfl, hpp⟩ := hR
    clear hpp
    go_enter Try.func37, Try.ntmps37
    go_wp2
    go_ret2
    exact PL.none _ _
  · obtain ⟨N, rfl⟩ := Int.eq_ofNat_of_zero_le (show 0 ≤ n by omega)
    by_cases h2 : 16384 < o.length * (N : Int).toNat
    · rw [stepsL, stepsE, if_neg h1, if_neg h1, if_pos h2, if_pos h2]
      obtain ⟨pp, cap, rfl, hpp⟩ := hR
      have HM : Hid (decide ((o.length : Int) > Int.tdiv 16384 N) = true) := many_yes (by omega) h2
      clear hpp h2
      go_enter Try.func37, Try.ntmps37
      go_wp2_with (go_at_call 47; refine (t47 (by omega) (by omega) HM.out _).mono ?_; rintro e w' ⟨rfl, rfl⟩)
      go_ret2
      exact PL.none _ _
    · rw [stepsL, stepsE, if_neg h1, if_neg h1, if_neg h2, if_neg h2]
      exact t37ok o v N w hR (by omega) hK (by simpa using h2) (by omega)
end Go.Proofs.Ytgalgnopjcpocaa
/- Barker's rows and the codes of the program. -/
namespace Go.Proofs.Ytgalgnopjcpocaa
open Go.ChangeShapes Go.WideShapes Go.ChangeAt Go.RowKit Go.Fl Ieee
attribute [local go_sem] run_store_float run_store_complex call20 call33 run_neg fold_eq fold_ne fold_lt fold_gt abs_eq

theorem Fill.kept {w0 w w' : World} {g n k : Nat} {F : Nat → Option Nat × Option Nat} (h : Fill w0 w g n F k) {row : Option Nat} (hg : w.grownBy w' row) (hne : some g ≠ row) (hb : ∀ j, row = some j → w0.heap.size ≤ j) : Fill w0 w' g n F k := by
  obtain ⟨⟨d, h1, h2, h3⟩, h4⟩ := h
  exact ⟨⟨d, h1, World.ownsRow.kept h2 hg (Or.inr hne), h3⟩, Below.grown h4 hg h4.size hb⟩
theorem grown_iter {w : World} {k : Nat} (s : ByteArray) (p : Nat) : w.grownBy (w.iterAt k s p) (some k) :=
  ⟨rfl, rfl, rfl, by rw [Go.Lib.iterAt_size]; exact Nat.le_refl _, fun j _ hne => Go.Lib.iterAt_other w k j s p (fun e => hne (by rw [e]))⟩
theorem Fill.dirty {w0 w : World} {g n k i r s : Nat} {F : Nat → Option Nat × Option Nat} (h : Fill w0 w g n F k) (hi : k ≤ i) : Fill w0 (w.setCell ⟨g, i, none⟩ (.complex .f64 r s)) g n F k := by
  obtain ⟨⟨d, rfl, h2, h3⟩, h4⟩ := h
  obtain ⟨s1, s2⟩ := World.ownsRow.stored h2 i (.complex .f64 r s)
  refine ⟨⟨d.set i (r, s), by simp, ?_, ?_⟩, Below.grown h4 s2 h4.size (fun j hj => (World.ownsRow.lt h2 j (by simpa [Value.ownBlock] using hj)).1)⟩
  · unfold CRow
    rw [List.length_set, List.map_set]
    exact s1
  · intro j hj
    rw [← h3 j hj]
    by_cases hl : j < d.length
    · rw [getElem!_pos _ j (by simpa using hl), List.getElem_set, if_neg (by omega), getElem!_pos d j hl]
    · rw [getElem!_neg _ j (by simpa using hl), getElem!_neg d j hl]

/-- The signs of a row. -/
def rowS (n : Int) : ByteArray :=
  if n = 2 then ⟨#[43, 45]⟩ else if n = 3 then ⟨#[43, 43, 45]⟩ else if n = 4 then ⟨#[43, 43, 45, 43]⟩ else if n = 5 then ⟨#[43, 43, 43, 45, 43]⟩
  else if n = 7 then ⟨#[43, 43, 43, 45, 45, 43, 45]⟩ else if n = 11 then ⟨#[43, 43, 43, 45, 45, 45, 43, 45, 45, 43, 45]⟩ else if n = 13 then ⟨#[43, 43, 43, 43, 43, 45, 45, 43, 43, 45, 43, 45, 43]⟩ else ⟨#[]⟩
set_option maxRecDepth 20000 in
theorem t46 (n : Int) (w : World) : Calls Try.prog 46 #[.int .i64 n] w fun e w' => e = .returned (.string (rowS n)) ∧ w' = w := by
  go_enter Try.func46, Try.ntmps46
  go_wp2
  all_goals (go_ret; go_tidy; refine ⟨?_, rfl⟩)
  all_goals simp_all [rowS]
theorem row_facts (n : Int) : rowS n = ⟨#[]⟩ ∨ ((rowS n).size = n.toNat ∧ 2 ≤ n ∧ n ≤ 13 ∧ (rowS n).toList.isEmpty = false ∧ ∀ k, k < (rowS n).size → (rowS n).get! k = 43 ∨ (rowS n).get! k = 45) := by
  unfold rowS
  repeat' split
  all_goals first
    | exact Or.inl rfl
    | (right; subst_vars; refine ⟨rfl, by omega, by omega, by decide +kernel, by decide +kernel⟩)
/-- A sign's sample. -/
def signF (s : ByteArray) (k : Nat) : Option Nat × Option Nat := if s.get! k = 45 then (some 13830554455654793216, some 0) else (some 4607182418800017408, some 0)
def barkerL (n : Int) : List (Option Nat × Option Nat) := (List.range (rowS n).size).map (signF (rowS n))
def barkerE (n : Int) : Int := if (rowS n).size = 0 then 40 else 0
theorem get_at {s : ByteArray} {k : Nat} (h : k < s.size) : s.get! k = s[k]'h := by
  simp [ByteArray.get!, getElem!_pos, h]
  rfl
set_option maxRecDepth 20000 in
set_option maxHeartbeats 1000000 in
theorem t34ok (N : Nat) (s : ByteArray) (w : World) (hs : rowS N = s) (hN : s.size = N) (h2 : 2 ≤ N) (h13 : N ≤ 13) (he : s.toList.isEmpty = false) (hb : ∀ k, k < s.size → s.get! k = 43 ∨ s.get! k = 45) : Calls Try.prog 34 #[.int .i64 N] w (PL w ((List.range N).map (signF s)) 0) := by
  obtain ⟨i0, hi, hz0, hz1, hz2⟩ := info_parts info41
  have HRow : Hid (∀ w : World, Calls Try.prog 46 #[.int .i64 N] w fun e w' => e = .returned (.string s) ∧ w' = w) := fun w => by rw [← hs]; exact t46 N w
  have HB : Hid (∀ k, k < s.size → s.get! k = 43 ∨ s.get! k = 45) := hb
  have HN : Hid (s.size = N) := hN
  clear hs hb hN
  go_enter Try.func34, Try.ntmps34
  go_wp2_with (first
    | (go_at_call 46; refine (HRow.out _).mono ?_; rintro e w' ⟨rfl, rfl⟩)
    | (refine wpList_make_full _ rfl _ _ 54 rfl w'.heap.size 53 i0 (.complex .f64 0 0) 1 Try.underlying54 hi hz0 hz1 .i64 .i64 _ _ N rfl rfl rfl rfl (by rw [hz2]; omega) (by unfold maxLen; omega) (Nat.le_refl _) ?_; intro w1 hown hgr; have HF : Hid (Fill _ w1 _ N (signF s) 0) := Fill.new _ hown hgr; clear hown hgr))
  have HF2 : Hid (Fill w' (w1.iter s 0) w'.heap.size N (signF s) 0) := HF.out.up (Up.alloc _ _)
  have HI : Hid ((w1.iter s 0).heap[w1.heap.size]? = some (.stringIter s 0)) := heap_alloc_last _ _
  have hlt0 : w'.heap.size < w1.heap.size := by
    obtain ⟨⟨d, h1, h2, h3⟩, h4⟩ := HF.out
    exact (World.ownsRow.lt h2 _ rfl).2
  generalize w1.heap.size = ki at *
  generalize w1.iter s 0 = w2 at *
  clear HF
  go_loopw [6, 7] (fun _ _ wr => ∃ k : Nat, k ≤ N ∧ Hid (Fill w' wr w'.heap.size N (signF s) k) ∧ Hid (wr.heap[ki]? = some (.stringIter s k)) ) (fun _ _ wr => N - wr.iterPos ki)
  case atStart => exact ⟨0, by omega, HF2, HI⟩
  case round =>
    clear HF2 HI
    obtain ⟨k, hk, HF, HI⟩ := hrel
    by_cases hlt : k < N
    · have hlt' : k < s.size := by rw [HN.out]; exact hlt
      have HFi : Hid (Fill w' (wr.iterAt ki s (k + 1)) w'.heap.size N (signF s) k) := HF.out.kept (grown_iter s (k + 1)) (by simp; omega) (fun j hj => by simp at hj; omega)
      have HIi : Hid ((wr.iterAt ki s (k + 1)).heap[ki]? = some (.stringIter s (k + 1))) := Go.Lib.iterAt_heap wr ki s k (k + 1) HI.out
      obtain ⟨⟨x0, y0, hcell⟩, hfr⟩ := HFi.out.cell hlt
      have HP : Hid (wr.iterPos ki = k) := iterPos_of HI.out
      have hkz : (k : Int) < (N : Int) := by omega
      rcases HB.out k hlt' with hs | hs
      · have hx : ∀ ty, (Instr.next (.pointer (some ⟨ki, 0, none⟩)) true ty).run Try.prog wr = .ok (.tuple #[.bool true, .int .i64 k, .int .i32 43]) (wr.iterAt ki s (k + 1)) := fun ty => by
          have e := get_at hlt'
          rw [hs] at e
          have := Go.Lib.run_next_ascii_at (P := Try.prog) wr ki s k ty HI.out hlt' (by rw [← e]; decide)
          rw [← e] at this
          exact this
        have HS : Hid (signF s k = (some 4607182418800017408, some 0)) := by
          show _ = _
          simp [signF, hs]
        clear hs
        generalize wr.iterAt ki s (k + 1) = wi at *
        go_wp2
        have HE : Hid ((wi.setCell ⟨w'.heap.size, k, none⟩ (.complex .f64 4607182418800017408 0)).heap[ki]? = some (.stringIter s (k + 1))) := by
          show _ = _
          rw [heap_setCell_other _ _ _ _ (by simp; omega)]; exact HIi.out
        go_roundw
        case rel => exact ⟨k + 1, by omega, HFi.out.stored hlt (by rw [HS.out]; decide +kernel) (by rw [HS.out]; decide +kernel), HE⟩
        case measure => rw [HP.out, iterPos_of HE.out]; omega
      · have hx : ∀ ty, (Instr.next (.pointer (some ⟨ki, 0, none⟩)) true ty).run Try.prog wr = .ok (.tuple #[.bool true, .int .i64 k, .int .i32 45]) (wr.iterAt ki s (k + 1)) := fun ty => by
          have e := get_at hlt'
          rw [hs] at e
          have := Go.Lib.run_next_ascii_at (P := Try.prog) wr ki s k ty HI.out hlt' (by rw [← e]; decide)
          rw [← e] at this
          exact this
        have HS : Hid (signF s k = (some 13830554455654793216, some 0)) := by
          show _ = _
          simp [signF, hs]
        clear hs
        generalize wr.iterAt ki s (k + 1) = wi at *
        go_wp2
        have HE : Hid (((wi.setCell ⟨w'.heap.size, k, none⟩ (.complex .f64 4607182418800017408 0)).setCell ⟨w'.heap.size, k, none⟩ (.complex .f64 13830554455654793216 0)).heap[ki]? = some (.stringIter s (k + 1))) := by
          show _ = _
          rw [heap_setCell_other _ _ _ _ (by simp; omega), heap_setCell_other _ _ _ _ (by simp; omega)]; exact HIi.out
        go_roundw
        case rel => exact ⟨k + 1, by omega, (HFi.out.dirty (Nat.le_refl _)).stored hlt (by rw [HS.out]; decide +kernel) (by rw [HS.out]; decide +kernel), HE⟩
        case measure => rw [HP.out, iterPos_of HE.out]; omega
    · obtain rfl : N = k := by omega
      have hx : ∀ ty, (Instr.next (.pointer (some ⟨ki, 0, none⟩)) true ty).run Try.prog wr = .ok (.tuple #[.bool false]) wr := fun ty => Go.Lib.run_next_end_at (P := Try.prog) wr ki s N ty HI.out (by rw [HN.out]; omega)
      go_wp2
      go_ret2
      exact HF.out.pl rfl
set_option maxRecDepth 20000 in
theorem t34 (n : Int) (w : World) : Calls Try.prog 34 #[.int .i64 n] w (PL w (barkerL n) (barkerE n)) := by
  rcases row_facts n with h | ⟨h1, h2, h3, h4, h5⟩
  · have e1 : barkerL n = [] := by rw [barkerL, h]; rfl
    have e2 : barkerE n = 40 := by rw [barkerE, h]; rfl
    rw [e1, e2]
    have HRow : Hid (∀ w : World, Calls Try.prog 46 #[.int .i64 n] w fun e w' => e = .returned (.string ⟨#[]⟩) ∧ w' = w) := fun w => by rw [← h]; exact t46 n w
    clear h e1 e2
    go_enter Try.func34, Try.ntmps34
    go_wp2_with (go_at_call 46; refine (HRow.out _).mono ?_; rintro e w' ⟨rfl, rfl⟩)
    go_ret2
    exact PL.none _ _
  · obtain ⟨N, rfl⟩ := Int.eq_ofNat_of_zero_le (show 0 ≤ n by omega)
    have e2 : barkerE N = 0 := by rw [barkerE, h1, if_neg (by omega)]
    rw [barkerL, e2, h1]
    exact t34ok N (rowS N) w rfl (by rw [h1]; rfl) (by omega) (by omega) h4 h5

theorem PL.under {w0 w w' : World} {L : List (Option Nat × Option Nat)} {c : Int} {e : Ending} (h : PL w L c e w') (hu : Up w0 w) : PL w0 L c e w' := by
  obtain ⟨v, d, he, h1, h2, h3⟩ := h
  exact ⟨v, d, he, World.ownsRow.mono h1.out hu.size, hu.trans h2.out, h3⟩
theorem PL.same {w w' : World} {L L' : List (Option Nat × Option Nat)} {c c' : Int} {e : Ending} (h : PL w L c e w') (hL : L = L') (hc : c = c') : PL w L' c' e w' := by
  subst hL; subst hc; exact h
def order12 : List Int := [1, 2, 4, 8, 5, 10, 9, 7, 3, 6]
def codeL (n : Int) : List (Option Nat × Option Nat) :=
  if n = 0 then [(some 4607182418800017408, some 0)] else if n = 1 then barkerL 2 else if n = 2 then barkerL 3 else if n = 3 then barkerL 4 else if n = 4 then barkerL 5 else if n = 5 then barkerL 7
  else if n = 6 then barkerL 11 else if n = 7 then barkerL 13 else if n = 8 then frankL 4 else if n = 9 then frankL 8 else if n = 10 then chirpL 32 (ab 4620693217682128896) else if n = 11 then chirpL 64 (ab 4625196817309499392)
  else if n = 12 then stepsL order12 16 else []
def codeE (n : Int) : Int :=
  if n = 0 then 0 else if n = 1 then barkerE 2 else if n = 2 then barkerE 3 else if n = 3 then barkerE 4 else if n = 4 then barkerE 5 else if n = 5 then barkerE 7
  else if n = 6 then barkerE 11 else if n = 7 then barkerE 13 else if n = 8 then frankE 4 else if n = 9 then frankE 8 else if n = 10 then chirpE 32 (ab 4620693217682128896) else if n = 11 then chirpE 64 (ab 4625196817309499392)
  else if n = 12 then stepsE order12 16 else 40
theorem irow_new (w : World) (o : List Int) (t : TypeId) {cs : Array Value} {n cap : Nat} (hn : n = o.length) (h : cs = (o.map (Value.int .i64)).toArray) : IRow (w.alloc (.cells cs t)) (.slice (some ⟨w.heap.size, 0, none⟩) n cap) o := by
  subst h; subst hn
  refine ⟨_, cap, rfl, fun i hi => ⟨w.heap.size, 0, rfl, ?_⟩⟩
  rw [cell_of_row _ _ _ _ _ _ (heap_alloc_last _ _), getElem!_pos o i hi]
  simp [List.getElem?_eq_getElem hi]
set_option maxRecDepth 20000 in
theorem t24b (n : Int) (w : World) (m : Int) (hn : n = 1 ∧ m = 2 ∨ n = 2 ∧ m = 3 ∨ n = 3 ∧ m = 4 ∨ n = 4 ∧ m = 5 ∨ n = 5 ∧ m = 7 ∨ n = 6 ∧ m = 11 ∨ n = 7 ∧ m = 13) : Calls Try.prog 24 #[.int .i64 n] w (PL w (barkerL m) (barkerE m)) := by
  rcases hn with ⟨rfl, rfl⟩ | ⟨rfl, rfl⟩ | ⟨rfl, rfl⟩ | ⟨rfl, rfl⟩ | ⟨rfl, rfl⟩ | ⟨rfl, rfl⟩ | ⟨rfl, rfl⟩ <;>
  · go_enter Try.func24, Try.ntmps24
    go_wp2_with (go_at_call 34; refine (t34 _ _).mono ?_; rintro e w1 ⟨v, d, rfl, h1, h2, h3⟩)
    go_ret2
    exact ⟨_, _, rfl, h1, h2, h3⟩
set_option maxRecDepth 20000 in
theorem t24f (n : Int) (w : World) (m : Int) (hn : n = 8 ∧ m = 4 ∨ n = 9 ∧ m = 8) : Calls Try.prog 24 #[.int .i64 n] w (PL w (frankL m) (frankE m)) := by
  rcases hn with ⟨rfl, rfl⟩ | ⟨rfl, rfl⟩ <;>
  · go_enter Try.func24, Try.ntmps24
    go_wp2_with (go_at_call 35; refine (t35 _ _ (by omega)).mono ?_; rintro e w1 ⟨v, d, rfl, h1, h2, h3⟩)
    go_ret2
    exact ⟨_, _, rfl, h1, h2, h3⟩
set_option maxRecDepth 20000 in
theorem t24c (w : World) : Calls Try.prog 24 #[.int .i64 10] w (PL w (chirpL 32 (ab 4620693217682128896)) (chirpE 32 (ab 4620693217682128896))) := by
  go_enter Try.func24, Try.ntmps24
  go_wp2_with (go_at_call 36; refine (t36 _ _ _).mono ?_; rintro e w1 ⟨v, d, rfl, h1, h2, h3⟩)
  go_ret2
  exact ⟨_, _, rfl, h1, h2, h3⟩
set_option maxRecDepth 20000 in
theorem t24d (w : World) : Calls Try.prog 24 #[.int .i64 11] w (PL w (chirpL 64 (ab 4625196817309499392)) (chirpE 64 (ab 4625196817309499392))) := by
  go_enter Try.func24, Try.ntmps24
  go_wp2_with (go_at_call 36; refine (t36 _ _ _).mono ?_; rintro e w1 ⟨v, d, rfl, h1, h2, h3⟩)
  go_ret2
  exact ⟨_, _, rfl, h1, h2, h3⟩
set_option maxRecDepth 20000 in
theorem t24s (w : World) : Calls Try.prog 24 #[.int .i64 12] w (PL w (stepsL order12 16) (stepsE order12 16)) := by
  go_enter Try.func24, Try.ntmps24
  go_wp2_with (go_at_call 37; refine (t37 order12 _ _ _ (irow_new _ order12 _ rfl rfl) (by decide) (by omega)).mono ?_; intro e w1 hp; obtain ⟨v, d, rfl, h1, h2, h3⟩ := hp.under (Up.alloc _ _))
  go_ret2
  exact ⟨_, _, rfl, h1, h2, h3⟩
set_option maxRecDepth 20000 in
theorem t24z (w : World) : Calls Try.prog 24 #[.int .i64 0] w (PL w [(some 4607182418800017408, some 0)] 0) := by
  go_enter Try.func24, Try.ntmps24
  go_wp2
  go_ret2
  exact ⟨_, [(4607182418800017408, 0)], rfl, World.ownsRow_lit w #[.complex .f64 4607182418800017408 0] 1 (Nat.le_refl _) (by decide) rfl, Up.alloc _ _, by show _ = _; decide +kernel⟩
set_option maxRecDepth 20000 in
theorem t24n (n : Int) (w : World) (h : ¬ (0 ≤ n ∧ n ≤ 12)) : Calls Try.prog 24 #[.int .i64 n] w (PL w [] 40) := by
  have h0 : (n == 0) = false := by rw [beq_eq_false_iff_ne]; omega
  have h1 : (n == 1) = false := by rw [beq_eq_false_iff_ne]; omega
  have h2 : (n == 2) = false := by rw [beq_eq_false_iff_ne]; omega
  have h3 : (n == 3) = false := by rw [beq_eq_false_iff_ne]; omega
  have h4 : (n == 4) = false := by rw [beq_eq_false_iff_ne]; omega
  have h5 : (n == 5) = false := by rw [beq_eq_false_iff_ne]; omega
  have h6 : (n == 6) = false := by rw [beq_eq_false_iff_ne]; omega
  have h7 : (n == 7) = false := by rw [beq_eq_false_iff_ne]; omega
  have h8 : (n == 8) = false := by rw [beq_eq_false_iff_ne]; omega
  have h9 : (n == 9) = false := by rw [beq_eq_false_iff_ne]; omega
  have h10 : (n == 10) = false := by rw [beq_eq_false_iff_ne]; omega
  have h11 : (n == 11) = false := by rw [beq_eq_false_iff_ne]; omega
  have h12 : (n == 12) = false := by rw [beq_eq_false_iff_ne]; omega
  go_enter Try.func24, Try.ntmps24
  go_wp2
  go_ret2
  exact PL.none _ _
set_option maxRecDepth 20000 in
theorem t24 (n : Int) (w : World) : Calls Try.prog 24 #[.int .i64 n] w (PL w (codeL n) (codeE n)) := by
  by_cases h : 0 ≤ n ∧ n ≤ 12
  · obtain ⟨N, rfl⟩ := Int.eq_ofNat_of_zero_le h.1
    have hN : N ≤ 12 := by omega
    clear h
    match N, hN with
    | 0, _ => exact t24z w
    | 1, _ => exact t24b 1 w 2 (by omega)
    | 2, _ => exact t24b 2 w 3 (by omega)
    | 3, _ => exact t24b 3 w 4 (by omega)
    | 4, _ => exact t24b 4 w 5 (by omega)
    | 5, _ => exact t24b 5 w 7 (by omega)
    | 6, _ => exact t24b 6 w 11 (by omega)
    | 7, _ => exact t24b 7 w 13 (by omega)
    | 8, _ => exact t24f 8 w 4 (by omega)
    | 9, _ => exact t24f 9 w 8 (by omega)
    | 10, _ => exact t24c w
    | 11, _ => exact t24d w
    | 12, _ => exact t24s w
    | k + 13, h => omega
  · have e1 : codeL n = [] := by simp only [codeL]; repeat' rw [if_neg (by omega)]
    have e2 : codeE n = 40 := by simp only [codeE]; repeat' rw [if_neg (by omega)]
    rw [e1, e2]
    exact t24n n w h
end Go.Proofs.Ytgalgnopjcpocaa
