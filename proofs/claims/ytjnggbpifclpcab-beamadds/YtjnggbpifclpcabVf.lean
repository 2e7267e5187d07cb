/- Fan of elements that have one sample each. -/
import Derived.Test.YtjnggbpifclpcabVe
namespace Go.Proofs.Ytjnggbpifclpcab
open Go.ChangeShapes Go.WideShapes Go.ChangeAt Go.RowKit Go.Fl Ieee
attribute [local go_sem] run_store_float run_store_complex call20 call19 run_neg fold_eq fold_ne fold_lt fold_gt abs_eq

/-- Fan at work: the place i is next (there is but one). -/
structure FnS (w0 : World) (hs n bf A B : Nat) (T : Nat → CN) (i : Nat) (wr : World) : Prop where
  bt : ∃ d, BT w0 wr A B n 1 d ∧ (0 < i → ∀ b, b < n → ab2 d[b]! = T b)
  cf : wr.cell? ⟨bf, 0, none⟩ = some (.slice (some ⟨A, 0, none⟩) n n)
  ne : bf ≠ B
  lt : bf < hs ∧ A < hs ∧ B < hs ∧ w0.heap.size ≤ hs
theorem FnS.up {w0 : World} {hs n bf A B : Nat} {T : Nat → CN} {i : Nat} {wr : World} (h : FnS w0 hs n bf A B T i wr) : Up w0 wr := by
  obtain ⟨d, h1, _⟩ := h.bt
  exact h1.up
theorem FnS.far {w0 : World} {hs n bf A B : Nat} {T : Nat → CN} {i : Nat} {wr w' : World} {g : Nat} (h : FnS w0 hs n bf A B T i wr) (hA : hs ≤ g) (hb : But g wr w') : FnS w0 hs n bf A B T i w' := by
  obtain ⟨l1, l2, l3, l4⟩ := h.lt
  obtain ⟨d, h1, h2⟩ := h.bt
  exact ⟨⟨d, h1.far hb (by omega) (by omega) (by omega), h2⟩, hb.cell (by omega) h.cf, h.ne, h.lt⟩
/-- While the beams are stored. -/
def FnK (w0 : World) (hs n bf A B : Nat) (T : Nat → CN) (w : World) (k : Nat) (wr : World) : Prop := ∃ d, BT w0 wr A B n 1 d ∧ (∀ b, b < k → ab2 d[b]! = T b) ∧ wr.cell? ⟨bf, 0, none⟩ = some (.slice (some ⟨A, 0, none⟩) n n) ∧ bf ≠ B ∧ (bf < hs ∧ A < hs ∧ B < hs ∧ w0.heap.size ≤ hs) ∧ But B w wr
theorem FnK.put {w0 : World} {hs n bf A B : Nat} {T : Nat → CN} {w wr : World} {k r s : Nat} (h : FnK w0 hs n bf A B T w k wr) (hk : k < n) (hv : (ab r, ab s) = T k) : FnK w0 hs n bf A B T w (k + 1) (wr.setCell ⟨B, k, none⟩ (.complex .f64 r s)) := by
  obtain ⟨d, h1, h2, h3, h4, h5, h6⟩ := h
  have hb := (h1.all.put k r s).2
  have hl := h1.all.len
  refine ⟨_, h1.put k r s, fun b hb' => ?_, hb.cell h4 h3, h4, h5, h6.trans hb⟩
  rw [set_at d _ _ _ (by omega)]
  by_cases e : b = k
  · subst e
    rw [if_pos rfl]
    exact hv
  · rw [if_neg e]; exact h2 b (by omega)
theorem hv_in {U : Nat → Nat → C2} : ∀ (m : Nat) (F G : Nat → C2) (j : Nat), (∀ i, i < 2 ^ m → F i = G i) → hv U m F j = hv U m G j
  | 0, F, G, _, h => h 0 (by decide)
  | m + 1, F, G, j, h => by
    have e : 2 ^ (m + 1) = 2 ^ m + 2 ^ m := by rw [Nat.pow_succ]; omega
    have a := fun j => hv_in (U := U) m (fun i => F (2 * i)) (fun i => G (2 * i)) j fun i hi => h (2 * i) (by omega)
    have b := fun j => hv_in (U := U) m (fun i => F (2 * i + 1)) (fun i => G (2 * i + 1)) j fun i hi => h (2 * i + 1) (by omega)
    rw [hv, hv, a, b, a, b]
theorem FnS.k {w0 : World} {hs n bf A B : Nat} {T : Nat → CN} {wr w1 : World} (h : FnS w0 hs n bf A B T 0 wr) (hu : Up wr w1) : FnK w0 hs n bf A B T w1 0 w1 := by
  obtain ⟨d, h1, _⟩ := h.bt
  exact ⟨d, h1.mono hu, fun b hb => by omega, cell_up h.cf hu, h.ne, h.lt, But.refl _ _⟩
theorem FnK.s {w0 : World} {hs n bf A B : Nat} {T : Nat → CN} {wr w1 w2 : World} (h : FnK w0 hs n bf A B T w1 n w2) (hu : Up wr w1) : FnS w0 hs n bf A B T (0 + 1) w2 ∧ But B wr w2 := by
  obtain ⟨d, h1, h2, h3, h4, h5, h6⟩ := h
  exact ⟨⟨⟨d, h1, fun _ => h2⟩, h3, h4, h5⟩, (But.of_up hu).trans h6⟩
theorem fan_row {n M : Nat} {fA : Nat → Nat × Nat} {X T : Nat → CN} (hn : n = 2 ^ M) (hX : ∀ j, j < n → ab2 (fA j) = X j) (hT : (List.range n).map T = fastL false M X) {d : List (Nat × Nat)} (hd : d.map ab2 = fastL false M (fun i => ab2 (fA i))) : d.length = n ∧ ∀ j, j < n → ab2 d[j]! = T j := by
  have e : fastL false M (fun i => ab2 (fA i)) = fastL false M X := by
    unfold fastL
    subst hn
    simp only [Bool.false_eq_true, if_false]
    refine List.map_congr_left fun j _ => ?_
    exact hv_in _ _ _ _ hX
  rw [e, ← hT] at hd
  have hl : d.length = n := by simpa using congrArg List.length hd
  refine ⟨hl, fun j hj => ?_⟩
  have := congrArg (fun l => l[j]?) hd
  simp only [List.getElem?_map, List.getElem?_eq_getElem (show j < d.length by omega), List.getElem?_range hj, Option.map_some, Option.some.injEq] at this
  rw [getElem!_pos d j (by omega)]
  exact this
/-- What Fast leaves here. -/
def FsR (n : Nat) (T : Nat → CN) (w : World) (e : Ending) (w' : World) : Prop := ∃ (p : Option Addr) (c : Nat) (d : List (Nat × Nat)), e = .returned (.tuple #[.slice p n c, .int .i64 0]) ∧ Hid (Up w w') ∧ Hid (0 < n → ∃ g, p = some ⟨g, 0, none⟩ ∧ w.heap.size ≤ g ∧ RD w' g 0 n (fun j => d[j]!)) ∧ Hid (∀ j, j < n → ab2 d[j]! = T j)
theorem t34r {w : World} {n M Q : Nat} {hs : Nat} {T X : Nat → CN} (hA : XR hs w Q n X) (hn : n = 2 ^ M) (h2 : n ≤ 64) (hT : (List.range n).map T = fastL false M X) : Calls Try.prog 34 #[.slice (some ⟨Q, 0, none⟩) n n, .bool false] w (FsR n T w) := by
  obtain ⟨fA, hRA, hX⟩ := hA.rd
  refine (t34 M Q 0 n n false fA w hn (by omega) (Nat.le_refl _) hA.lt hRA).mono fun e w1 ⟨v1, d1, h1, HC1, HU1, HD1⟩ => ?_
  obtain ⟨p1, cp1, e1, hp1⟩ := own_form HC1.out
  obtain ⟨l1, l2⟩ := fan_row hn hX hT HD1.out
  rw [l1] at e1 hp1
  refine ⟨p1, cp1, d1, by rw [h1, e1], HU1, fun hp => ?_, l2⟩
  obtain ⟨g, hg⟩ := hp1 hp
  have hc := HC1.out
  rw [e1, hg, ← l1] at hc
  refine ⟨g, hg, (World.ownsRow.lt hc g rfl).1, fun j hj => ?_⟩
  rw [Nat.zero_add]
  exact hc.cell (by omega)
set_option maxHeartbeats 4000000 in
set_option maxRecDepth 20000 in
theorem t33 {w0 wr : World} {hs n M bf A B Q : Nat} {T X : Nat → CN} (h : FnS w0 hs n bf A B T 0 wr) (hA : XR hs wr Q n X) (hn : n = 2 ^ M) (h2 : n ≤ 64) (hT : (List.range n).map T = fastL false M X) :
    Calls Try.prog 33 #[.int .i64 0, .slice (some ⟨Q, 0, none⟩) n n, .pointer (some ⟨bf, 0, none⟩)] wr (AcR (FnS w0 hs n bf A B T) B 0 wr) := by
  have H60 : Hid (Calls Try.prog 34 #[.slice (some ⟨Q, 0, none⟩) n n, .bool false] wr (FsR n T wr)) := t34r hA hn h2 hT
  have HS : Hid (FnS w0 hs n bf A B T 0 wr) := h
  have HB : Hid (B < wr.heap.size) := by
    obtain ⟨d, h1, _⟩ := h.bt
    exact (World.ownsRow.lt h1.all B rfl).2
  clear h hA hT hn
  have z0 : (n : Int) ≤ 64 := by omega
  go_enter Try.func33, Try.ntmps33
  go_wp2_with (go_at_call 34; (with_reducible refine H60.out.mono ?_); rintro e w1 ⟨p1, c1, d1, rfl, HU1, HR1, HT1⟩; (have HK1 : Hid (FnK w0 hs n bf A B T w1 0 w1) := HS.out.k HU1.out))
  go_loopw [7, 8, 16] (fun _ _ vk wx => ∃ k : Nat, k ≤ n ∧ vk = .int .i64 k ∧ Hid (FnK w0 hs n bf A B T w1 k wx)) (fun _ _ vk _ => n - (intOf vk).toNat)
  case atStart => exact ⟨0, by omega, rfl, HK1⟩
  case round =>
    clear HK1
    obtain ⟨k, hk, rfl, HK⟩ := hrel
    rename World => wx
    by_cases hlt : k < n
    · obtain ⟨g, rfl, hge, hrd⟩ := HR1.out (by omega)
      obtain ⟨x, y, hxy⟩ : ∃ x y, d1[k]! = (x, y) := ⟨_, _, rfl⟩
      obtain ⟨d, b1, b2, b3, b4, b5, b6⟩ := HK.out
      have hl := b1.all.len
      have hgB : g ≠ B := by have := HB.out; omega
      have c1' : wx.cell? ⟨g, k, none⟩ = some (.complex .f64 x y) := by
        have h := hrd k hlt
        rw [Nat.zero_add, show ((fun j => d1[j]!) k) = (x, y) from hxy] at h
        exact b6.cell hgB h
      have HV : Hid ((ab x, ab y) = T k) := by
        have := HT1.out k hlt
        rw [hxy] at this; exact this
      have c2' : wx.cell? ⟨A, k, none⟩ = some (.slice (some ⟨B, k, none⟩) 1 1) := by have h : wx.cell? ⟨A, k, none⟩ = some (.slice (some ⟨B, k * 1, none⟩) 1 1) := b1.ans k hlt; rw [Nat.mul_one] at h; exact h
      have c3' : wx.cell? ⟨B, k, none⟩ = some (.complex .f64 d[k]!.1 d[k]!.2) := b1.all.cell (by omega)
      have c4' : wx.frozen? ⟨B, k, none⟩ = false := b1.all.frz _
      have c5' : (wx.cell? ⟨B, k, none⟩).isSome = true := by rw [c3']; rfl
      have z1 : (k : Int) < (n : Int) := by omega
      have z2 : (0 : Int) ≤ (k : Int) := by omega
      clear b1 b2 b4 b5 b6 hrd hxy
      go_wp2
      go_roundw
      case rel => exact ⟨k + 1, by omega, by go_num, HK.out.put hlt HV.out⟩
      case measure => simp [intOf]; omega
    · obtain rfl : k = n := by omega
      have HE : Hid (FnS w0 hs k bf A B T (0 + 1) wx ∧ But B wr wx) := HK.out.s HU1.out
      go_wp2
      go_end0
      exact ⟨rfl, HE.out.1, HE.out.2⟩
end Go.Proofs.Ytjnggbpifclpcab
