/- Rows of numbers, as the program and as the reference keep them; what a call leaves that hands such a row back; Of, SameList, same. -/
import Derived.Test.YtjnggbpifclpcaaG
import Derived.Laws.OwnMore
import Derived.Maps.AppendAt
import Derived.Deep.Onto
import Derived.Deep.AppendLies
import Derived.Deep.RegionHeld3
namespace Go.Proofs.Ytjnggbpifclpcaa
open Go.ChangeShapes Go.WideShapes Go.ChangeAt Go.RowKit Go.Fl Ieee
attribute [local go_sem] run_store_float run_store_complex call34 call33 run_neg fold_eq fold_ne fold_lt fold_gt abs_eq

theorem Up.alloc (w : World) (o : Obj) : Up w (w.alloc o) := (Below.refl _ _).alloc (Nat.le_refl _) _
def ce (p : Nat × Nat) : Value := .complex .f64 p.1 p.2
def se (p : Nat × Nat) : List Value := [.float .f64 p.1, .float .f64 p.2]
/-- A number's two parts, all NaN being one. -/
def ab2 (p : Nat × Nat) : Option Nat × Option Nat := (ab p.1, ab p.2)
/-- A row of numbers of one's own: complex ones; structs of two. -/
def CRow (b : Nat) (w : World) (v : Value) (d : List (Nat × Nat)) : Prop := w.ownsRow b 40 1 v d.length (d.map ce)
def SRow (b : Nat) (w : World) (v : Value) (d : List (Nat × Nat)) : Prop := w.ownsRow b 48 2 v d.length (d.flatMap se)

theorem owns_below {w w' : World} {b m n : Nat} {t : TypeId} {s : Nat} {v : Value} {xs : List Value} (h : w.ownsRow b t s v n xs) (hu : Below m w w') (hm : ∀ k, v.ownBlock = some k → k < m) : w'.ownsRow b t s v n xs := by
  obtain ⟨h1, h2⟩ := h
  refine ⟨h1, ?_⟩
  rcases h2 with h2 | ⟨g, cap, cur, rfl, k2, k3, k4⟩
  · exact Or.inl h2
  · refine Or.inr ⟨g, cap, cur, rfl, k2, ?_, k4⟩
    rw [hu.block g (hm g rfl)]; exact k3
theorem owns_up {w w' : World} {b n : Nat} {t : TypeId} {s : Nat} {v : Value} {xs : List Value} (h : w.ownsRow b t s v n xs) (hu : Up w w') : w'.ownsRow b t s v n xs := owns_below h hu (fun k hk => (h.lt k hk).2)
theorem CRow.up {b : Nat} {w w' : World} {v : Value} {d : List (Nat × Nat)} (h : CRow b w v d) (hu : Up w w') : CRow b w' v d := owns_up h hu
theorem SRow.up {b : Nat} {w w' : World} {v : Value} {d : List (Nat × Nat)} (h : SRow b w v d) (hu : Up w w') : SRow b w' v d := owns_up h hu
theorem flat_len (d : List (Nat × Nat)) : (d.flatMap se).length = d.length * 2 := by
  induction d with
  | nil => rfl
  | cons a l ih => simp only [List.flatMap_cons, List.length_append, ih, List.length_cons]; simp [se]; omega
theorem flat_get (d : List (Nat × Nat)) : ∀ i, i < d.length → (d.flatMap se)[i * 2]? = some (.float .f64 d[i]!.1) ∧ (d.flatMap se)[i * 2 + 1]? = some (.float .f64 d[i]!.2) := by
  induction d with
  | nil => intro i h; simp at h
  | cons a l ih =>
    intro i h
    cases i with
    | zero => simp [List.flatMap_cons, se]
    | succ k =>
      have hk : k < l.length := by simpa using h
      have := ih k hk
      have e1 : (k + 1) * 2 = k * 2 + 1 + 1 := by omega
      simp only [List.flatMap_cons, se, e1]
      simpa using this
/-- The form of a row's value. -/
theorem own_form {b n : Nat} {w : World} {t : TypeId} {s : Nat} {v : Value} {xs : List Value} (h : w.ownsRow b t s v n xs) : ∃ p cap, v = .slice p n cap ∧ (0 < n → ∃ g, p = some ⟨g, 0, none⟩) := by
  rcases h.2 with ⟨rfl, rfl⟩ | ⟨g, cap, cur, rfl, _⟩
  · exact ⟨none, 0, rfl, fun h => by omega⟩
  · exact ⟨_, cap, rfl, fun _ => ⟨g, rfl⟩⟩
theorem CRow.cell {b g n cap : Nat} {w : World} {d : List (Nat × Nat)} (h : CRow b w (.slice (some ⟨g, 0, none⟩) n cap) d) {i : Nat} (hi : i < d.length) : w.cell? ⟨g, i, none⟩ = some (.complex .f64 d[i]!.1 d[i]!.2) := by
  obtain ⟨p, cap', he, _⟩ := own_form h
  simp only [Value.slice.injEq] at he
  obtain ⟨rfl, rfl, rfl⟩ := he
  rw [World.ownsRow.cellAt h i (by omega)]
  rw [List.getElem?_map, List.getElem?_eq_getElem hi, getElem!_pos d i hi]
  rfl
theorem SRow.cell {b g n cap : Nat} {w : World} {d : List (Nat × Nat)} (h : SRow b w (.slice (some ⟨g, 0, none⟩) n cap) d) {i : Nat} (hi : i < d.length) : w.cell? ⟨g, i * 2, none⟩ = some (.float .f64 d[i]!.1) ∧ w.cell? ⟨g, i * 2 + 1, none⟩ = some (.float .f64 d[i]!.2) := by
  obtain ⟨p, cap', he, _⟩ := own_form h
  simp only [Value.slice.injEq] at he
  obtain ⟨rfl, rfl, rfl⟩ := he
  rw [World.ownsRow.cellAt h (i * 2) (by omega), World.ownsRow.cellAt h (i * 2 + 1) (by omega)]
  exact flat_get d i hi

/-- What a call leaves that hands back a row and a code. -/
def PL (w : World) (L : List (Option Nat × Option Nat)) (c : Int) (e : Ending) (w' : World) : Prop := ∃ v d, e = .returned (.tuple #[v, .int .i64 c]) ∧ Hid (CRow w.heap.size w' v d) ∧ Hid (Up w w') ∧ Hid (d.map ab2 = L)
def QL (w : World) (L : List (Option Nat × Option Nat)) (c : Int) (e : Ending) (w' : World) : Prop := ∃ v d, e = .returned (.tuple #[v, .int .i64 c]) ∧ Hid (SRow w.heap.size w' v d) ∧ Hid (Up w w') ∧ Hid (d.map ab2 = L)

theorem info47 : (Try.prog.info? 48).map (fun i => (i.zero, i.size, i.bytes)) = some (some (.agg #[.float .f64 0, .float .f64 0]), 2, 16) := by kernel_rfl
theorem info41 : (Try.prog.info? 40).map (fun i => (i.zero, i.size, i.bytes)) = some (some (.complex .f64 0 0), 1, 16) := by kernel_rfl
theorem info26 : (Try.prog.info? 40).map (fun i => (i.zero, i.size, i.bytes)) = some (some (.complex .f64 0 0), 1, 16) := by kernel_rfl
/-- One more struct behind a row. -/
theorem srow_push {w wr w1 : World} {v v' : Value} {x y m : Nat} {O : List (Nat × Nat)} {wa : World}
    (hown : wr.ownsRow w.heap.size 48 2 v m (O.flatMap se)) (hu : Up w wr) (ha : Up wr wa)
    (hown' : w1.ownsRow w.heap.size 48 2 v' (m + 1) (O.flatMap se ++ [.float .f64 x, .float .f64 y])) (hg : wa.grownBy w1 v.ownBlock) :
    w1.ownsRow w.heap.size 48 2 v' (m + 1) ((O ++ [(x, y)]).flatMap se) ∧ Up w w1 := by
  refine ⟨by rw [List.flatMap_append]; exact hown', ?_⟩
  exact Below.grown (hu.trans ha) hg (Nat.le_trans hu.size ha.size) (fun j hj => (hown.lt j hj).1)
theorem cell_new2 (w : World) (x y : Nat) (t : TypeId) : ∀ (j : Nat) (u : Value), [Value.float .f64 x, .float .f64 y][j]? = some u → (w.alloc (.cells #[.float .f64 x, .float .f64 y] t)).cell? ((⟨w.heap.size, 0, none⟩ : Addr).add j) = some u := by
  intro j u hj
  match j, hj with
  | 0, hj => simp at hj; subst hj; exact World.cell?_alloc_at _ _ _ _ rfl
  | 1, hj => simp at hj; subst hj; exact World.cell?_alloc_at _ _ _ _ rfl
theorem two_cell (x y : Nat) : ∀ u ∈ [Value.float .f64 x, .float .f64 y], u.oneCell' = true := by
  intro u hu; simp at hu; rcases hu with rfl | rfl <;> rfl

/-- What Of leaves. -/
def OfR (w : World) (d : List (Nat × Nat)) (e : Ending) (w' : World) : Prop := ∃ v, e = .returned v ∧ Hid (SRow w.heap.size w' v d) ∧ Hid (Up w w')
set_option maxHeartbeats 1000000 in
theorem t55 {b : Nat} {v : Value} {d : List (Nat × Nat)} {w : World} (h : CRow b w v d) (hn : d.length < 1000000000) : Calls Try.prog 55 #[v] w (OfR w d) := by
  obtain ⟨i0, hi, hz0, hz1, hz2⟩ := info_parts info47
  obtain ⟨p, cap, rfl, hp⟩ := own_form h
  have HR : Hid (CRow b w (.slice p d.length cap) d) := h
  have HP : Hid (0 < d.length → ∃ g, p = some ⟨g, 0, none⟩) := hp
  clear h hp
  generalize hN : d.length = N at *
  have HN : Hid (d.length = N) := hN
  clear hN
  go_enter Try.func55, Try.ntmps55
  go_wp2
  go_loopw [3, 4] (fun v i wr => ∃ k : Nat, k ≤ N ∧ i = .int .i64 k ∧ wr.ownsRow w.heap.size 48 2 v k ((d.take k).flatMap se) ∧ Hid (Up w wr)) (fun _ i _ => N - (intOf i).toNat)
  case atStart => exact ⟨0, by omega, rfl, by simpa using World.ownsRow_nil _ _ _ _, Up.refl _⟩
  case round =>
    obtain ⟨k, hk, rfl, hown, HU⟩ := hrel
    by_cases hlt : k < N
    · obtain ⟨g, hg⟩ := HP.out (by omega)
      subst hg
      obtain ⟨x, y, HX, hc⟩ : ∃ x y, Hid (d[k]! = (x, y)) ∧ wr.cell? ⟨g, k, none⟩ = some (.complex .f64 x y) := ⟨_, _, rfl, (HR.out.up HU.out).cell (by have := HN.out; omega)⟩
      have sz : w.heap.size ≤ wr.heap.size := HU.out.size
      have hkz : (k : Int) < (N : Int) := by omega
      have lk := World.block_lt_of_cell? wr _ hc
      have lg : g < w.heap.size := (World.ownsRow.lt HR.out g rfl).2
      have ag : u3.ownBlock ≠ some g := fun e => by have := (hown.lt g e).1; omega
      have hk0 : (0 : Int) ≤ (k : Int) := Int.natCast_nonneg _
      go_wp2_with fail
      go_region_held3 (fun w' => w'.cell? ⟨g, k, none⟩ = some (.complex .f64 x y))
        (first
          | go_keep
          | (rw [hgrow.cell_far _ (by simp; omega) (Ne.symm ag)]; assumption))
        ((refine step_append_lies _ (by rfl) _ _ _ (by rfl) w.heap.size 48 i0 _ 2 16 Try.underlying23 hi hz0 hz1 hz2 rfl (by omega) u3 k _ (by rfl) ((hown.alloc _).drew)
            ⟨wr.heap.size, 0, none⟩ 1 1 [.float .f64 x, .float .f64 y] (by rfl) (by rfl) (World.news_of_block (cs := #[.float .f64 x, .float .f64 y]) (t := 48) (fr := (0, 0)) (heap_alloc_new wr _)) (two_cell _ _)
            (by omega) (by unfold maxLen; omega) (by omega) (by simp; omega) (wr.heap.size + 1) (by simp) ?_; intro gg cap' w1 hown1 hgrow hat hlt2))
      all_goals
        have R := srow_push hown HU.out (wa := (wr.alloc (.cells #[.float .f64 x, .float .f64 y] 48)).drew) ((Up.alloc _ _).trans (Up.drewN _ 1)) hown1 hgrow
        have RO : w1.ownsRow w.heap.size 48 2 (.slice (some ⟨gg, 0, none⟩) (k + 1) cap') (k + 1) ((d.take (k + 1)).flatMap se) := by
          have e : d.take (k + 1) = d.take k ++ [(x, y)] := by
            have hkd : k < d.length := by have := HN.out; omega
            rw [List.take_succ_eq_append_getElem hkd, ← HX.out, getElem!_pos d k hkd]
          rw [e]; exact R.1
        have RU : Hid (Up w w1) := R.2
        clear hown1 hgrow hat hlt2 hown R HU hc
        try go_wp2
        go_roundw
        case rel => exact ⟨k + 1, by omega, by go_num, RO, RU⟩
        case measure => simp [intOf]; omega
    · obtain rfl : k = N := by omega
      go_wp2
      go_ret
      refine ⟨_, rfl, ?_, HU⟩
      have e := HN.out
      show World.ownsRow _ _ _ _ _ _ _
      rw [e]
      rw [List.take_of_length_le (by omega)] at hown
      exact hown
end Go.Proofs.Ytjnggbpifclpcaa
