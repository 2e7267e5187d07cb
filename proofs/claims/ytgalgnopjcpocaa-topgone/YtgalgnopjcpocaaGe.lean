/- TopMoved: size, ground, the code, tables that are told by their numbers. -/
import Derived.Test.YtgalgnopjcpocaaGd
import Derived.Test.YtgalgnopjcpocaaBa
namespace Go.Proofs.Ytgalgnopjcpocaa
open Go.ChangeShapes Go.WideShapes Go.ChangeAt Go.RowKit Go.Fl Ieee
attribute [local go_sem] run_store_float run_store_c isSome_set call20 call33 run_neg fold_eq fold_ne fold_lt fold_gt abs_eq

theorem row_form' {b : Nat} {w' : World} {v : Value} {d : List (Nat × Nat)} {n : Nat} (h : CRow b w' v d) (hn : d.length = n) (h0 : 0 < n) : ∃ g cap, v = .slice (some ⟨g, 0, none⟩) n cap := by
  obtain ⟨p, cap, rfl, hp⟩ := own_form h
  obtain ⟨g, rfl⟩ := hp (by omega)
  exact ⟨g, cap, by rw [hn]⟩
set_option maxRecDepth 20000 in
theorem t25 (z : Int) (most s : Nat) (w : World) (h1 : 1 ≤ most) (h2 : most ≤ 2000000) (hs : ((z.tmod (most : Int) + most).toNat % most) + 1 = s) : Calls Try.prog 25 #[.int .i64 z, .int .i64 most] w fun e w' => e = .returned (.int .i64 (s : Int)) ∧ w' = w := by
  obtain ⟨r, hr⟩ : ∃ r, z.tmod (most : Int) = r := ⟨_, rfl⟩
  have r1 : r < most := by rw [← hr]; exact Int.tmod_lt_of_pos z (by omega)
  have r2 : -(most : Int) < r := by rw [← hr]; exact Int.lt_tmod_of_pos z (by omega)
  rw [hr] at hs
  obtain ⟨q, hq⟩ : ∃ q : Nat, r + most = (q : Int) := ⟨(r + most).toNat, by omega⟩
  rw [hq, Int.toNat_natCast] at hs
  obtain ⟨u, hu⟩ : ∃ u, q % most = u := ⟨_, rfl⟩
  have s1 : u < most := by rw [← hu]; exact Nat.mod_lt _ (by omega)
  have e2 : (q : Int).tmod (most : Int) = u := by rw [Int.tmod_eq_emod_of_nonneg (by omega), ← hu]; rfl
  have e3 : (q : Int) % (most : Int) = u := by rw [← hu]; rfl
  have n0 : ((most : Int) == 0) = false := by rw [beq_eq_false_iff_ne]; omega
  have n1 : ¬ (most : Int) = 0 := by omega
  have n2 : ¬ most = 0 := by omega
  have n3 : ((most : Int) == -1) = false := by rw [beq_eq_false_iff_ne]; omega
  have HS : Hid (u + 1 = s) := by show u + 1 = s; omega
  clear hs hu
  go_enter Try.func25, Try.ntmps25
  go_wp2
  go_ret
  have := HS.out
  exact ⟨by show Ending.returned (.int .i64 ((u : Int) + 1)) = _; rw [← this]; simp, rfl⟩
set_option maxRecDepth 20000 in
theorem size_is (z : Int) (most : Nat) (h1 : 1 ≤ most) (h2 : most ≤ 2000000) : ∃ s : Nat, 1 ≤ s ∧ s ≤ most ∧ ∀ w, Calls Try.prog 25 #[.int .i64 z, .int .i64 most] w fun e w' => e = .returned (.int .i64 (s : Int)) ∧ w' = w := by
  refine ⟨_, by omega, ?_, fun w => t25 z most _ w h1 h2 rfl⟩
  have := Nat.mod_lt (z.tmod (most : Int) + most).toNat (show 0 < most by omega)
  omega
set_option maxRecDepth 20000 in
theorem t26 (E R : Int) (w : World) : Calls Try.prog 26 #[.int .i64 E, .int .i64 R] w fun e w' => e = .returned (.agg #[.float .f64 4607182418800017408, .float .f64 4602678819172646912, .float .f64 4652007308841189376, .int .i64 E, .int .i64 R]) ∧ Hid (Up w w') := by
  go_enter Try.func26, Try.ntmps26
  go_wp2
  exact bodyPost_ret (results_cell_row Try.results26 _ _ _ 63 #[.float .f64 4607182418800017408, .float .f64 4602678819172646912, .float .f64 4652007308841189376, .int .i64 E, .int .i64 R] (0, 0) _ rfl (heap_alloc_last _ _) Try.underlying63 rfl (by kernel_rfl)) rfl ⟨rfl, Up.alloc _ _⟩
/-- The pulse of a code. -/
def CD (n : Nat) (w : World) (e : Ending) (w' : World) : Prop := ∃ (pg cap : Nat) (d : List (Nat × Nat)), e = .returned (.tuple #[.slice (some ⟨pg, 0, none⟩) n cap, .int .i64 0]) ∧ Hid (RD w' pg 0 n (fun i => d[i]!)) ∧ Hid (Up w w') ∧ Hid (∀ i, i < n → BC2 (ab2 d[i]!) 2) ∧ Hid (ab2 d[0]! = (some 4607182418800017408, some 0))
set_option maxRecDepth 20000 in
theorem code_ok {s n : Nat} (hs : s < 13) (hn : (codeL (s : Int)).length = n) (w : World) : Calls Try.prog 24 #[.int .i64 (s : Int)] w (CD n w) := by
  obtain ⟨c0, c1, c2, c3⟩ := code_is hs
  refine (t24 (s : Int) w).mono fun e w' h => ?_
  obtain ⟨v, d, rfl, h1, h2, h3⟩ := h
  have hl : d.length = n := by
    have := congrArg List.length h3.out
    rw [List.length_map, hn] at this
    exact this
  obtain ⟨S, cap, rfl⟩ := row_form' h1.out hl (by omega)
  refine ⟨S, cap, d, by rw [c0], fun j hj => by rw [Nat.zero_add]; exact h1.out.cell (by omega), h2, fun i hi => ?_, ?_⟩
  · have g := code_goodL (s : Int) (ab2 d[i]!) (by
      rw [← h3.out, getElem!_pos d i (by omega)]
      exact List.mem_map.2 ⟨_, List.getElem_mem _, rfl⟩)
    obtain ⟨a, b, e, hg⟩ := g
    rw [e]; exact good_bc hg
  · have e : (d.map ab2)[0]? = some (some 4607182418800017408, some 0) := by rw [h3.out]; exact c3
    rw [List.getElem?_map, List.getElem?_eq_getElem (show 0 < d.length by omega)] at e
    show ab2 d[0]! = _
    rw [getElem!_pos d 0 (by omega)]
    simpa using e
/-- A table, told by its numbers. -/
structure MT (W : World) (A B R E : Nat) (d : List (Nat × Nat)) (V : Nat → Nat → C2) : Prop where
  tb : TB W A R (fun i => some ⟨B, i * E, none⟩) (fun _ => E) (fun _ => E)
  rd : RD W B 0 (R * E) (fun j => d[j]!)
  is : ∀ k, k < R → ∀ g, g < E → ab2 d[k * E + g]! = V k g
theorem MT.up {W W' : World} {A B R E : Nat} {d : List (Nat × Nat)} {V : Nat → Nat → C2} (h : MT W A B R E d V) (u : Up W W') : MT W' A B R E d V := ⟨h.tb.up u, h.rd.up u, h.is⟩
theorem OKT.mt {w w' : World} {n m : Nat} {F : Nat → Nat → Option Nat × Option Nat} {e : Ending} (h : OKT w n m F e w') : ∃ A B d, e = .returned (.tuple #[.slice (some ⟨A, 0, none⟩) n n, .int .i64 0]) ∧ Hid (MT w' A B n m d F) ∧ Hid (Up w w') := by
  obtain ⟨A, B, d, he, h1, h2⟩ := h
  refine ⟨A, B, d, he, ⟨h1.out.ans, fun j hj => ?_, h2.out⟩, h1.out.up⟩
  rw [Nat.zero_add, h1.out.all.cell (by rw [h1.out.all.len]; exact hj)]
  rfl
theorem mul_lt' {p g R E : Nat} (hp : p < R) (hg : g < E) : p * E + g < R * E := by
  have h : (p + 1) * E ≤ R * E := Nat.mul_le_mul_right E hp
  rw [Nat.succ_mul] at h
  omega
theorem MT.ti {W : World} {A B R E : Nat} {d : List (Nat × Nat)} {V : Nat → Nat → C2} (h : MT W A B R E d V) : TI W A R E (fun i => some ⟨B, i * E, none⟩) (fun _ => E) (fun _ => B) (fun i => i * E) (fun p g => d[p * E + g]!) := by
  refine ⟨h.tb, fun i hi _ => ⟨rfl, fun j hj => ?_⟩, fun _ _ => Nat.le_refl _⟩
  have := h.rd (i * E + j) (mul_lt' hi hj)
  rw [Nat.zero_add] at this
  exact this
theorem MT.row {W : World} {A B R E : Nat} {d : List (Nat × Nat)} {V : Nat → Nat → C2} (h : MT W A B R E d V) {p z : Nat} (hp : p < R) (hz : p * E = z) : W.cell? ⟨A, p, none⟩ = some (.slice (some ⟨B, z, none⟩) E E) := by
  have := h.tb p hp
  rw [← hz]; exact this
theorem MT.cell {W : World} {A B R E : Nat} {d : List (Nat × Nat)} {V : Nat → Nat → C2} (h : MT W A B R E d V) {p g z : Nat} (hp : p < R) (hg : g < E) (hz : p * E = z) : ∃ x y, W.cell? ⟨B, z + g, none⟩ = some (.complex .f64 x y) ∧ ab x = (V p g).1 ∧ ab y = (V p g).2 := by
  subst hz
  have h1 := h.rd (p * E + g) (mul_lt' hp hg)
  have h2 := h.is p hp g hg
  rw [Nat.zero_add] at h1
  exact ⟨_, _, h1, congrArg Prod.fst h2, congrArg Prod.snd h2⟩
/-- Whatever is no number or endless is not its own difference. -/
theorem fnt_read {x : Nat} {s : Bool} {m : Nat} {e : Int} (h : double.read x = .number s m e) : Fnt x := by
  unfold Fnt
  rcases Nat.lt_or_ge (x % 2 ^ 63) 0x7ff0000000000000 with h1 | h1
  · exact h1
  · exfalso
    unfold Format.read at h
    have e1 : double.signWeight = 2 ^ 63 := rfl
    have e2 : double.binade = 2 ^ 52 := rfl
    have e3 : double.infRung = 0x7ff0000000000000 := rfl
    simp only [e1, e2, e3, if_neg (show ¬ x % 2 ^ 63 < 0x7ff0000000000000 by omega)] at h
    rw [if_neg (show ¬ x % 2 ^ 63 < 2 ^ 52 by omega)] at h
    split at h <;> cases h
theorem not_fnt {x : Nat} (h : ¬ Fnt x) : eqF (ab x) (ab x) = false ∨ (eqF (ab x) (ab x) = true ∧ bin .sub (ab x) (ab x) = none) := by
  cases hn : isN x
  · right
    refine ⟨by rw [eqF_self, hn]; rfl, ?_⟩
    rw [ab_some hn]
    rcases read_is hn with ⟨s, m, e, hr⟩ | ⟨s, hr⟩
    · exact absurd (fnt_read hr) h
    · show double.sub x x = none
      unfold Format.sub
      rw [hr]
      cases s <;> rfl
  · left
    rw [eqF_self, hn]; rfl
theorem fnt_sub {x : Nat} (h : Fnt x) : eqF (ab x) (ab x) = true ∧ ∃ r, bin .sub (ab x) (ab x) = some r ∧ eqF (ab r) (ab 0) = true := by
  refine ⟨by rw [eqF_self, h.num]; rfl, ?_⟩
  obtain ⟨r, hr⟩ := bin_some_sub h h
  have e : val x - val x = 0 := by grind
  have p0 : (0 : Rat) ≤ pw 1000 := Rat.le_of_lt (pw_pos _)
  obtain ⟨fr, _⟩ := sub_near h h hr (B := 0) (by rw [e]; exact Rat.le_refl) (by rw [e]; grind) p0
  have m := sub_mono h h hr (by rw [e]; exact p0) (by rw [e]; grind) (z := 0)
  rw [e, val0] at m
  refine ⟨r, by rw [Fnt.ab h]; exact hr, ?_⟩
  rw [eqF_val fr fzero.1, fzero.2]
  have : val r = 0 := Rat.le_antisymm (m.1 Rat.le_refl) (m.2 Rat.le_refl)
  simp [this]
end Go.Proofs.Ytgalgnopjcpocaa
