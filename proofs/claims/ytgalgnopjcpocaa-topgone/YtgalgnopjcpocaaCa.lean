/- Scene: where a target is; what is refused. -/
import Derived.Test.YtgalgnopjcpocaaBa
import Derived.Test.YtgalgnopjcpocaaLc
namespace Go.Proofs.Ytgalgnopjcpocaa
open Go.ChangeShapes Go.WideShapes Go.ChangeAt Go.RowKit Go.Fl Ieee
def FD (w : World) (blk off n : Nat) (f : Nat → Nat) : Prop := ∀ j, j < n → w.cell? ⟨blk, off + j, none⟩ = some (.float .f64 (f j))
attribute [local go_sem] run_store_float run_store_c isSome_set call20 call33 run_neg fold_eq fold_ne fold_lt fold_gt abs_eq

/-- Where a target is at a time. -/
def atF (r s x : Option Nat) : Option Nat := bin .add r (bin .mul s x)
set_option maxRecDepth 20000 in
theorem t57 (r s a t b x : Nat) (w : World) : Calls Try.prog 57 #[.agg #[.float .f64 r, .float .f64 s, .float .f64 a, .float .f64 t, .float .f64 b], .float .f64 x] w (FU w (atF (ab r) (ab s) (ab x))) := by
  go_enter Try.func57, Try.ntmps57
  go_wp2_with (first | ((with_reducible refine upon_fl (by simp) ?_); intro r1 n1 h1) | ((with_reducible refine upon_fl (by simp) ?_); intro r2 n2 h2))
  go_ret
  refine ⟨_, rfl, ?_, (Up.alloc _ _).trans (Up.drewN _ _)⟩
  simp_all [Hid, atF]
/-- What a call leaves that answers yes or no and may make memory. -/
def BU (b : Bool) (w : World) (e : Ending) (w' : World) : Prop := e = .returned (.bool b) ∧ Hid (Up w w')
theorem fd_new (w : World) (t : TypeId) (d : List Nat) {cs : Array Value} {n : Nat} (hn : d.length = n) (h : cs = (d.map (Value.float .f64)).toArray) : FD (w.alloc (.cells cs t)) w.heap.size 0 n (fun i => d[i]!) := by
  subst h
  subst hn
  intro j hj
  rw [cell_of_row _ _ _ _ _ _ (heap_alloc_last _ _)]
  simp [getElem!_pos d j hj, List.getElem?_eq_getElem hj]
set_option maxRecDepth 20000 in
set_option maxHeartbeats 1000000 in
theorem t54 (g n c k : Nat) (f : Nat → Nat) (b : Bool) (w : World) (h : FD w g 0 n f) (hn : n ≤ 1000000) (hk : ∀ i, i < k → fin (ab (f i)) = true) (hb : k < n ∧ fin (ab (f k)) = false ∧ b = false ∨ k = n ∧ b = true) :
    Calls Try.prog 54 #[.slice (some ⟨g, 0, none⟩) n c] w (BR b w) := by
  have H : Hid (FD w g 0 n f) := h
  have HB : Hid (k < n ∧ fin (ab (f k)) = false ∧ b = false ∨ k = n ∧ b = true) := hb
  have HK : Hid (∀ i, i < k → fin (ab (f i)) = true) := hk
  have hkn : k ≤ n := by omega
  clear h hb hk
  go_enter Try.func54, Try.ntmps54
  go_wp2
  go_loopw [7] (fun vi wr => ∃ i : Nat, i ≤ k ∧ vi = .int .i64 i ∧ wr = w) (fun vi _ => n - (intOf vi).toNat)
  case atStart => exact ⟨0, by omega, rfl, rfl⟩
  case round =>
    obtain ⟨i, hi, rfl, rfl⟩ := hrel
    by_cases hlt : i < n
    · have z1 : (i : Int) < (n : Int) := by omega
      have z2 : (0 : Int) ≤ (i : Int) := by omega
      have hc := H.out i hlt
      rw [Nat.zero_add] at hc
      by_cases hik : i < k
      · have q := HK.out i hik
        generalize f i = x at hc q
        have q1 : eqF (ab x) (ab x) = true := by unfold fin at q; rw [Bool.and_eq_true] at q; exact q.1
        have q2 : gtF ((ab x).map abs) (ab 9218868437227405311) = false := by unfold fin at q; rw [Bool.and_eq_true, Bool.not_eq_true'] at q; exact q.2
        clear q
        go_wp2_with (first
          | (go_at_call 49; refine (t49 _ _).mono ?_; rintro e w' ⟨rfl, hw⟩; subst w')
          | (go_at_call 50; refine (t50 _ _).mono ?_; rintro e w' ⟨rfl, hw⟩; subst w'))
        go_roundw
        case rel => exact ⟨i + 1, by omega, by go_num, by trivial⟩
        case measure => simp [intOf]; omega
      · obtain rfl : i = k := by omega
        have hne : fin (ab (f i)) = false ∧ b = false := by
          rcases HB.out with ⟨_, q, r⟩ | ⟨q, r⟩
          · exact ⟨q, r⟩
          · omega
        obtain ⟨q, rfl⟩ := hne
        generalize f i = x at hc q
        clear HB HK
        unfold fin at q
        cases q1 : eqF (ab x) (ab x)
        · clear q
          go_wp2_with (first
            | (go_at_call 49; refine (t49 _ _).mono ?_; rintro e w' ⟨rfl, hw⟩; subst w')
            | (go_at_call 50; refine (t50 _ _).mono ?_; rintro e w' ⟨rfl, hw⟩; subst w'))
          all_goals (go_ret; exact ⟨rfl, rfl⟩)
        · rw [q1, Bool.true_and, Bool.not_eq_false'] at q
          go_wp2_with (first
            | (go_at_call 49; refine (t49 _ _).mono ?_; rintro e w' ⟨rfl, hw⟩; subst w')
            | (go_at_call 50; refine (t50 _ _).mono ?_; rintro e w' ⟨rfl, hw⟩; subst w'))
          all_goals (go_ret; exact ⟨rfl, rfl⟩)
    · obtain rfl : i = n := by omega
      have hb : b = true := by
        rcases HB.out with ⟨q, _⟩ | ⟨_, r⟩
        · omega
        · exact r
      subst hb
      go_wp2
      go_ret
      exact ⟨rfl, rfl⟩
set_option maxRecDepth 20000 in
/-- Of floats that are written out. -/
theorem fin_list (w : World) (d : List Nat) {cs : Array Value} {n : Nat} (hn : d.length = n) (hl : n ≤ 1000) (h : cs = (d.map (Value.float .f64)).toArray) {b : Bool} (hb : d.all (fun x => fin (ab x)) = b) :
    Calls Try.prog 54 #[.slice (some ⟨w.heap.size, 0, none⟩) n n] (w.alloc (.cells cs 26)) (BR b (w.alloc (.cells cs 26))) := by
  have hf := fd_new w 26 d hn h
  have key : ∀ m, m ≤ n → (∀ i, i < m → fin (ab d[i]!) = true) ∨ ∃ k, k < m ∧ fin (ab d[k]!) = false ∧ ∀ i, i < k → fin (ab d[i]!) = true := by
    intro m
    induction m with
    | zero => intro _; exact Or.inl fun i hi => by omega
    | succ m ih =>
      intro hm
      rcases ih (by omega) with h1 | ⟨k, h1, h2, h3⟩
      · cases q : fin (ab d[m]!)
        · exact Or.inr ⟨m, by omega, q, h1⟩
        · refine Or.inl fun i hi => ?_
          by_cases e : i = m
          · subst e; exact q
          · exact h1 i (by omega)
      · exact Or.inr ⟨k, by omega, h2, h3⟩
  rcases key n (Nat.le_refl _) with h1 | ⟨k, h1, h2, h3⟩
  · refine t54 _ n n n _ b _ hf (by omega) (fun i hi => h1 i hi) (Or.inr ⟨rfl, ?_⟩)
    rw [← hb, List.all_eq_true]
    intro x hx
    obtain ⟨i, hi, rfl⟩ := List.mem_iff_getElem.1 hx
    have := h1 i (by omega)
    rw [getElem!_pos d i hi] at this
    exact this
  · refine t54 _ n n k _ b _ hf (by omega) (fun i hi => h3 i hi) (Or.inl ⟨h1, h2, ?_⟩)
    rw [← hb, List.all_eq_false]
    refine ⟨d[k]!, by rw [getElem!_pos d k (by omega)]; exact List.getElem_mem _, fun e => by rw [h2] at e; cases e⟩
set_option maxRecDepth 20000 in
theorem fin1 (w : World) (x : Nat) {g : Nat} (hg : g = w.heap.size) : Calls Try.prog 54 #[.slice (some ⟨g, 0, none⟩) 1 1] (w.alloc (.cells #[.float .f64 x] 26)) (BR (fin (ab x)) (w.alloc (.cells #[.float .f64 x] 26))) := by
  subst hg; exact fin_list w [x] rfl (by simp) rfl (by simp)
theorem fin2 (w : World) (x y : Nat) {g : Nat} (hg : g = w.heap.size) : Calls Try.prog 54 #[.slice (some ⟨g, 0, none⟩) 2 2] (w.alloc (.cells #[.float .f64 x, .float .f64 y] 26)) (BR (fin (ab x) && fin (ab y)) (w.alloc (.cells #[.float .f64 x, .float .f64 y] 26))) := by
  subst hg; exact fin_list w [x, y] rfl (by simp) rfl (by simp)
/-- The four numbers of a target. -/
def fin4F (r s a t : Nat) : Bool := fin (ab r) && (fin (ab s) && (fin (ab a) && fin (ab t)))
set_option maxRecDepth 20000 in
theorem fin4 (w : World) (r s a t : Nat) {g : Nat} (hg : g = w.heap.size) : Calls Try.prog 54 #[.slice (some ⟨g, 0, none⟩) 4 4] (w.alloc (.cells #[.float .f64 r, .float .f64 s, .float .f64 a, .float .f64 t] 26)) (BR (fin4F r s a t) (w.alloc (.cells #[.float .f64 r, .float .f64 s, .float .f64 a, .float .f64 t] 26))) := by
  subst hg; exact fin_list w [r, s, a, t] rfl (by simp) rfl (by simp [fin4F])
/-- tooMuch -/
def muchF (T R n : Nat) : Bool := decide (256 < T) || decide (16384 < n) || decide (16777216 < T * R * n)
set_option maxRecDepth 20000 in
theorem t53 (T R n : Nat) (w : World) (hT : T < 4611686018427387904) (hn : n < 4611686018427387904) (hR : R ≤ 256) : Calls Try.prog 53 #[.int .i64 T, .int .i64 R, .int .i64 n] w (BR (muchF T R n) w) := by
  by_cases h1 : 256 < T
  · have z : (256 : Int) < (T : Int) := by omega
    have e : muchF T R n = true := by simp [muchF, h1]
    rw [e]
    go_enter Try.func53, Try.ntmps53
    go_wp2
    go_ret
    exact ⟨rfl, rfl⟩
  · have z : ¬ (256 : Int) < (T : Int) := by omega
    by_cases h2 : 16384 < n
    · have z2 : (16384 : Int) < (n : Int) := by omega
      have e : muchF T R n = true := by simp [muchF, h2]
      rw [e]
      go_enter Try.func53, Try.ntmps53
      go_wp2
      go_ret
      exact ⟨rfl, rfl⟩
    · have z2 : ¬ (16384 : Int) < (n : Int) := by omega
      have m1 : T * R ≤ 256 * 256 := Nat.mul_le_mul (by omega) hR
      obtain ⟨k, hk⟩ : ∃ k, T * R = k := ⟨_, rfl⟩
      have m2 : k * n ≤ 65536 * 16384 := Nat.mul_le_mul (by omega) (by omega)
      obtain ⟨m, hm⟩ : ∃ m, k * n = m := ⟨_, rfl⟩
      have k1 : (T : Int) * (R : Int) = k := by rw [← hk, Int.natCast_mul]
      have k2 : (k : Int) * (n : Int) = m := by rw [← hm, Int.natCast_mul]
      have e : muchF T R n = decide ((16777216 : Int) < (m : Int)) := by
        unfold muchF
        rw [hk, hm, decide_eq_false h1, decide_eq_false h2, Bool.false_or, Bool.false_or, decide_eq_decide]
        omega
      rw [e]
      rw [hm] at m2
      rw [hk] at m1
      clear hk hm e
      go_enter Try.func53, Try.ntmps53
      go_wp2
      go_ret
      exact ⟨rfl, rfl⟩
end Go.Proofs.Ytgalgnopjcpocaa
