/- CfarMore: the walk. -/
import Derived.Test.YtfggdaebahdnfaaPa
import Derived.Deep.CutRange
import Derived.BigQuiet
namespace Go.Proofs.Ytfggdaebahdnfaa
open Go.ChangeShapes Go.WideShapes Go.ChangeAt Go.RowKit Go.Fl Go.Sort Ieee
attribute [local go_sem] run_store_float run_store_func call35 call46 run_neg fold_eq fold_ne fold_lt fold_gt abs_eq

theorem read_is {y : Nat} (h : isN y = false) : (∃ s m e, double.read y = .number s m e) ∨ ∃ s, double.read y = .infinity s := by
  unfold isN at h
  cases e : double.read y with
  | number s m i => exact Or.inl ⟨s, m, i, rfl⟩
  | infinity s => exact Or.inr ⟨s, rfl⟩
  | nan s f => rw [e] at h; cases h
theorem fnt_read {x : Nat} {s : Bool} {m : Nat} {e : Int} (h : double.read x = .number s m e) : Fnt x := by
  unfold Fnt
  rcases Nat.lt_or_ge (x % 2 ^ 63) 0x7ff0000000000000 with h1 | h1
  · exact h1
  · exfalso
    unfold Format.read at h
    have e1 : double.signWeight = 2 ^ 63 := rfl
    have e2 : double.binade = 2 ^ 52 := rfl
    have e3 : double.infRung = 0x7ff0000000000000 := rfl
    simp only [e1, e2, e3, if_neg (show ¬ x % 2 ^ 63 < 0x7ff0000000000000 by omega)] at h
    rw [if_neg (show ¬ x % 2 ^ 63 < 2 ^ 52 by omega)] at h
    split at h <;> cases h
theorem not_fnt {x : Nat} (h : ¬ Fnt x) : eqF (ab x) (ab x) = false ∨ (eqF (ab x) (ab x) = true ∧ bin .sub (ab x) (ab x) = none) := by
  cases hn : isN x
  · right
    refine ⟨by rw [eqF_self, hn]; rfl, ?_⟩
    rw [ab_some hn]
    rcases read_is hn with ⟨s, m, e, hr⟩ | ⟨s, hr⟩
    · exact absurd (fnt_read hr) h
    · show double.sub x x = none
      unfold Format.sub
      rw [hr]
      cases s <;> rfl
  · left
    rw [eqF_self, hn]; rfl
theorem fits_of {n : Nat} {g t m : Int} {x : Nat} (h : fitsB n g t m x = true) : n ≤ 16384 ∧ mayF g t m = true ∧ Fnt x := by
  unfold fitsB at h
  simp only [Bool.and_eq_true, decide_eq_true_eq] at h
  obtain ⟨⟨⟨_, h2⟩, h3⟩, h4⟩ := h
  refine ⟨h2, h3, ?_⟩
  rcases Classical.em (Fnt x) with q | q
  · exact q
  · exfalso
    rcases not_fnt q with k | ⟨_, k⟩
    · have : ab x = none := by
        rw [eqF_self] at k
        exact ab_none (by simpa using k)
      rw [this] at h4
      cases h4
    · rw [k] at h4
      cases h4
theorem fits_lin {n : Nat} {g t m : Int} {x : Nat} (h : fitsB n g t m x = true) : linE n g t m x = 0 := by
  obtain ⟨h1, h2, h3⟩ := fits_of h
  unfold linE refE
  rw [if_neg (by omega), if_neg (by rw [h2]; decide), if_pos (fin_of h3)]
/-- What a line leaves where the look fits. -/
def LF (w : World) (n : Nat) (l : List Bool) (e : Ending) (w' : World) : Prop := ∃ p c, e = .returned (.tuple #[.slice p n c, .int .i64 0]) ∧ Hid (BR w.heap.size w' (.slice p n c) l) ∧ Hid (Up w w')
theorem lin_fit {w : World} {p : Option Addr} {n cap x : Nat} {d : Array Nat} {way g t m : Int} (h : SV w p n cap d) (h1 : -128 ≤ way) (h2 : way ≤ 127) (hE : linE n g t m x = 0) :
    Calls Try.prog 15 #[.slice p n cap, .int .i8 way, .int .i64 g, .int .i64 t, .int .i64 m, .float .f64 x] w (LF w n (linL way g.toNat t.toNat m.toNat (ab x) d)) := by
  refine (t15 g t m h1 h2 h).mono ?_
  rintro e w' ⟨q, c, he, hb, hu⟩
  have e1 : linE d.size g t m x = 0 := by rw [h.len]; exact hE
  have e2 : linD way g t m x d = linL way g.toNat t.toNat m.toNat (ab x) d := by unfold linD; rw [if_pos e1]
  rw [e1, e2, linL_len, h.len] at he
  rw [e2, linL_len, h.len] at hb
  exact ⟨q, c, he, hb, hu⟩
/-- A line's row, read at a place. -/
theorem br_at {b : Nat} {w : World} {q : Option Addr} {n c : Nat} {l : List Bool} (h : BR b w (.slice q n c) l) {i : Nat} (hi : i < n) : ∃ g, q = some ⟨g, 0, none⟩ ∧ w.cell? ⟨g, i, none⟩ = some (.bool l[i]!) := by
  have hl : l.length = n := OR.len h
  obtain ⟨p', c', e, hp⟩ := OR.form h
  obtain ⟨g, hg⟩ := hp (by omega)
  simp only [Value.slice.injEq] at e
  have h2 := h
  rw [e.1, hg] at h2
  exact ⟨g, e.1.trans hg, OR.cell h2 (by omega)⟩
theorem linL_at {way : Int} {G T M : Nat} {x : Option Nat} {d : Array Nat} {k : Nat} (h : k < d.size) : (linL way G T M x d)[k]! = echoD way G T M x d k := by
  rw [getElem!_pos _ k (by rw [linL_len]; exact h)]; simp [linL]
/-- The cells of a place do not hang on what stands there. -/
theorem lef_set (d : Array Nat) (k G T v : Nat) : lef (d.set! k v) k G T = lef d k G T := by
  unfold lef
  refine Array.ext (by simp) (fun i h1 h2 => ?_)
  have h3 : i < min (k - G) d.size - (k - G - T) := by simpa using h2
  simp only [Array.getElem_extract, Array.set!_eq_setIfInBounds]
  rw [Array.getElem_setIfInBounds_ne _ (by omega)]
theorem rig_set (d : Array Nat) (k G T v : Nat) : rig (d.set! k v) k G T = rig d k G T := by
  unfold rig
  refine Array.ext (by simp) (fun i h1 h2 => ?_)
  simp only [Array.getElem_extract, Array.set!_eq_setIfInBounds]
  rw [Array.getElem_setIfInBounds_ne _ (by omega)]
theorem echo_more {way : Int} {G T M t k v : Nat} {d : Array Nat} (hk : k < d.size) (h : echoD way G T M (ab t) d k = true) (hm : (gtF (ab v) (ab d[k]!) || eqF (ab v) (ab d[k]!)) = true) : echoD way G T M (ab t) (d.set! k v) k = true := by
  unfold echoD lvD at *
  rw [lef_set, rig_set]
  have e : (d.set! k v)[k]! = v := by
    rw [getElem!_pos _ k (by simp; exact hk)]; simp
  rw [e]
  exact gt_more h hm
end Go.Proofs.Ytfggdaebahdnfaa
