/- slices.Grow of none, a row of floats appended to one's own, slices.Concat of two. -/
import Derived.Test.YtfggdaebahdnfaaHa
import Derived.Lib.AppendZeros
import Derived.Deep.Upon
import Derived.Deep.AppendLies
namespace Go.Proofs.Ytfggdaebahdnfaa
open Go.ChangeShapes Go.WideShapes Go.ChangeAt Go.RowKit Go.Fl Go.Sort
attribute [local go_sem] run_store_float call35 call46 run_neg fold_eq fold_ne fold_lt fold_gt abs_eq

theorem app_sv {w : World} {base m c ty : Nat} {p q : Option Addr} {n cq : Nat} {O : List Nat} {d : Array Nat} (hown : w.ownsRow base 24 1 (.slice p m c) m (O.map fe)) (hv : SV w q n cq d) (hmn : m + n ≤ 1000000) (hbase : base ≤ w.heap.size) :
    ∃ p' c' w', (Builtin.append_ #[22, 22] ty #[.slice p m c, .slice q n cq]).run Try.prog w = .ok (.slice p' (m + n) c') w' ∧ w'.ownsRow base 24 1 (.slice p' (m + n) c') (m + n) ((O ++ d.toList).map fe) ∧ w.grownBy w' (Value.slice p m c).ownBlock := by
  obtain ⟨i0, hi, hz0, hz1, hz2⟩ := info_parts info23
  have hmc : m ≤ c := by
    rcases hown.2 with ⟨e, h0⟩ | ⟨g, c0, cur, e, _, _, h4, _⟩
    · simp only [Value.slice.injEq] at e; omega
    · simp only [Value.slice.injEq] at e; omega
  rcases Nat.eq_zero_or_pos n with rfl | hp
  · have hd : d.toList = [] := by have := hv.len; simpa using this
    refine ⟨p, c, w, ?_, ?_, World.grownBy.refl _ _⟩
    · refine run_append_nothing w 22 22 ty 24 i0 Try.underlying22 hi _ m c hmc _ ?_
      cases q with
      | none => exact Src.ofNil w Try.underlying22 cq
      | some a => exact Src.ofSlice w Try.underlying22 a 0 cq [] (by simp) (fun j u h => by simp at h) (fun u h => by cases h)
    · rw [hd, List.append_nil]; exact hown
  · obtain ⟨b, o, rfl, hr⟩ := hv.rd hp
    obtain ⟨g, cap, w', h1, h2, h3, h4, _⟩ := run_append_lies (P := Try.prog) w 22 ty base 24 i0 (.float .f64 0) 1 8 Try.underlying22 hi hz0 hz1 hz2 rfl (by omega) (.slice p m c) m (O.map fe) hown ⟨b, o, none⟩ n cq (d.toList.map fe) (by simp [hv.len]) (reads_news hr) (one_cells _) hp (by unfold maxLen; omega) (by omega) hbase w.heap.size rfl
    exact ⟨_, cap, w', h1, by rw [List.map_append]; exact h2, h3⟩
theorem wpList_app_sv {ops : Array Oper} {rest : List Oper} {o : Oper} {a : Act} {w : World} {Q : Exit → Act → World → Prop} (hgd : o.guard = none) (s x : Operand)
    (ho : o.op = .call { callee := .builtin .append, args := #[s, x], argTypes := #[22, 22] })
    (base m c : Nat) (p q : Option Addr) (n cq : Nat) (O : List Nat) (d : Array Nat) (hs : a.eval s = .slice p m c) (hx : a.eval x = .slice q n cq) (hown : w.ownsRow base 24 1 (.slice p m c) m (O.map fe)) (hv : SV w q n cq d) (hmn : m + n ≤ 1000000) (hbase : base ≤ w.heap.size)
    (h : ∀ p' c' w', w'.ownsRow base 24 1 (.slice p' (m + n) c') (m + n) ((O ++ d.toList).map fe) → w.grownBy w' (Value.slice p m c).ownBlock → wpList Try.prog ops Q rest (a.put o.dst (.slice p' (m + n) c')) w') : wpList Try.prog ops Q (o :: rest) a w := by
  refine wpList_plain hgd fun K hK => ?_
  obtain ⟨p', c', w', h1, h2, h3⟩ := app_sv (ty := o.type) hown hv hmn hbase
  unfold Oper.wp execOp
  simp only [ho, resolve, invoke, builtin, Sem.run_bind, Sem.run_pure, Result.andThen_ok, List.map_toArray, List.map_cons, List.map_nil, hs, hx, h1]
  exact hK _ _ (h p' c' w' h2 h3)
/-- A row of one's own can be read. -/
theorem sv_own {b : Nat} {w : World} {p : Option Addr} {n cap : Nat} {d : Array Nat} (h : w.ownsRow b 24 1 (.slice p n cap) n (d.toList.map fe)) (hl : d.size = n) (hF : Fit d) : SV w p n cap d := by
  refine ⟨hl, ?_, hF, fun hp => ?_⟩
  · rcases h.2 with ⟨e, h0⟩ | ⟨g, c0, cur, e, _, _, h4, _⟩
    · simp only [Value.slice.injEq] at e; omega
    · simp only [Value.slice.injEq] at e; omega
  · subst hl
    obtain ⟨g, c, e, _, _, r⟩ := own_reads (own_of hp h)
    simp only [Value.slice.injEq] at e
    exact ⟨g, 0, e.1, r⟩
theorem fit_app {a b : Array Nat} (ha : Fit a) (hb : Fit b) : Fit (a ++ b) := by
  intro i hi
  have hi' : i < a.size + b.size := by simpa using hi
  rw [getElem!_pos _ i hi, Array.getElem_append]
  split
  · rename_i h; have := ha i h; rwa [getElem!_pos a i h] at this
  · rename_i h; have := hb (i - a.size) (by omega); rwa [getElem!_pos b _ (by omega)] at this
theorem zeros_own (w : World) (G : Nat) (hG : G ≤ maxLen) (cs : Array Value) (hs : cs.size = G) : (w.alloc (.cells cs 24)).ownsRow w.heap.size 24 1 (.slice (some ⟨w.heap.size, 0, none⟩) 0 G) 0 [] :=
  ⟨by simp, .inr ⟨w.heap.size, G, cs, rfl, Nat.le_refl _, heap_alloc_last _ _, Nat.zero_le _, hG, by simpa using hs, by simp⟩⟩
theorem t75z (w : World) : Calls Try.prog 75 #[.slice none 0 0, .int .i64 0] w fun e w' => e = .returned (.slice none 0 0) ∧ w' = w := by
  go_enter Try.func75, Try.ntmps75
  go_wp2
  go_ret
  exact ⟨rfl, rfl⟩
theorem wpList_zeros {ops : Array Oper} {rest : List Oper} {o : Oper} {a : Act} {w : World} {Q : Exit → Act → World → Prop} (hgd : o.guard = none) (s x : Operand)
    (ho : o.op = .call { callee := .builtin .append, args := #[s, x], argTypes := #[22, 3] }) (n : Nat) (hs : a.eval s = .slice none 0 0) (hx : a.eval x = .int .i64 n) (hp : 0 < n) (hn : n ≤ 1000000)
    (h : ∀ G w', n ≤ G → G ≤ 9223372036854775807 → Hid (w'.ownsRow w.heap.size 24 1 (.slice (some ⟨w.heap.size, 0, none⟩) 0 G) 0 []) → Hid (Up w w') → wpList Try.prog ops Q rest (a.put o.dst (.slice (some ⟨w.heap.size, 0, none⟩) n G)) w') : wpList Try.prog ops Q (o :: rest) a w := by
  obtain ⟨i0, hi, hz0, hz1, hz2⟩ := info_parts info23
  have hrun := Lib.run_append_nil_zeros (P := Try.prog) w 22 3 o.type 24 i0 (.float .f64 0) .i64 .i64 Try.underlying22 Try.underlying3 hi hz0 n hp (by omega) (by omega) (by rw [hz2]; omega)
  have hG := grownCap_ge w n 0 24
  have hGm := grownCap_le_maxLen w n 0 24 (by unfold maxLen; omega)
  generalize grownCap w n 0 24 = G at hrun hG hGm
  refine wpList_plain hgd fun K hK => ?_
  unfold Oper.wp execOp
  simp only [ho, resolve, invoke, builtin, Sem.run_bind, Sem.run_pure, Result.andThen_ok, List.map_toArray, List.map_cons, List.map_nil, hs, hx, hrun]
  refine hK _ _ (h G _ hG (by unfold maxLen at hGm; omega) ?_ ((Up.drewN w 1).trans (Up.alloc _ _)))
  exact zeros_own w.drew G hGm _ (by rw [Array.size_append, size_zeroCells, size_zeroCells]; simp [Value.cells]; omega)
set_option maxHeartbeats 1000000 in
theorem t75 {n : Nat} (hp : 0 < n) (hn : n ≤ 1000000) (w : World) : Calls Try.prog 75 #[.slice none 0 0, .int .i64 n] w fun e w' => ∃ p c, e = .returned (.slice p 0 c) ∧ Hid (w'.ownsRow w.heap.size 24 1 (.slice p 0 c) 0 []) ∧ Hid (Up w w') := by
  have h1 : (0 : Int) < (n : Int) := by omega
  go_enter Try.func75, Try.ntmps75
  go_wp2_with (at_builtin; refine wpList_zeros rfl _ _ rfl n rfl rfl hp hn ?_; intro G w1 hG1 hG2 HO HU)
  go_ret
  exact ⟨_, _, rfl, HO, HU⟩
theorem grow75 {n : Nat} (hn : n ≤ 1000000) (w : World) : Calls Try.prog 75 #[.slice none 0 0, .int .i64 n] w fun e w' => ∃ p c, e = .returned (.slice p 0 c) ∧ Hid (w'.ownsRow w.heap.size 24 1 (.slice p 0 c) 0 []) ∧ Hid (Up w w') := by
  rcases Nat.eq_zero_or_pos n with rfl | hp
  · exact (t75z w).mono fun e w' ⟨he, hw⟩ => ⟨none, 0, he, World.ownsRow_nil _ _ _ _, hw ▸ Up.refl _⟩
  · exact t75 hp hn w
theorem cell_up {w w' : World} {b k : Nat} {v : Value} (h : w.cell? ⟨b, k, none⟩ = some v) (hu : Up w w') : w'.cell? ⟨b, k, none⟩ = some v := by
  obtain ⟨c, e, fr, hb, _⟩ := cells_of_cell? h
  rw [RowKit.Below.cell hu (Array.getElem?_eq_some_iff.1 hb).1]; exact h
theorem grown_up {w0 w w' : World} {row : Option Nat} (hu : Up w0 w) (hg : w.grownBy w' row) (hb : ∀ j, row = some j → w0.heap.size ≤ j) : Up w0 w' := RowKit.Below.grown hu hg (RowKit.Below.size hu) hb
/-- What a call leaves that hands back a row of floats. -/
def RV (w : World) (n : Nat) (d : Array Nat) (e : Ending) (w' : World) : Prop := ∃ p c, e = .returned (.slice p n c) ∧ Hid (SV w' p n c d) ∧ Hid (Up w w')
set_option maxHeartbeats 1000000 in
theorem t68 {w : World} {g n1 n2 c1 c2 : Nat} {p1 p2 : Option Addr} {d1 d2 : Array Nat} (h1 : w.cell? ⟨g, 0, none⟩ = some (.slice p1 n1 c1)) (h2 : w.cell? ⟨g, 1, none⟩ = some (.slice p2 n2 c2)) (s1 : SV w p1 n1 c1 d1) (s2 : SV w p2 n2 c2 d2) (b1 : n1 ≤ 20000) (b2 : n2 ≤ 20000) :
    Calls Try.prog 68 #[.slice (some ⟨g, 0, none⟩) 2 2] w (RV w (n1 + n2) (d1 ++ d2)) := by
  have S1 : Hid (SV w p1 n1 c1 d1) := s1
  have S2 : Hid (SV w p2 n2 c2 d2) := s2
  clear s1 s2
  obtain ⟨N, hN⟩ : ∃ N, n1 + n2 = N := ⟨_, rfl⟩
  have HN : Hid (n1 + n2 = N) := hN
  have bN : N ≤ 40000 := by omega
  have eN : (n1 : Int) + (n2 : Int) = (N : Int) := by omega
  rw [hN]
  clear hN
  go_enter Try.func68, Try.ntmps68
  go_wp2
  go_loopw [3, 5, 11] (fun vs _ vi wr => ∃ i s : Nat, vs = .int .i64 s ∧ vi = .int .i64 i ∧ ((i = 0 ∧ s = 0) ∨ (i = 1 ∧ s = n1) ∨ (i = 2 ∧ s = N)) ∧ wr = w) (fun _ _ vi _ => 2 - (intOf vi).toNat)
  case atStart => exact ⟨0, 0, rfl, rfl, Or.inl ⟨rfl, rfl⟩, by trivial⟩
  case round =>
    obtain ⟨i, s, rfl, rfl, hi, hwr⟩ := hrel
    subst hwr
    rcases hi with ⟨rfl, rfl⟩ | ⟨rfl, rfl⟩ | ⟨rfl, rfl⟩
    · go_wp2
      go_roundw
      case rel => exact ⟨1, n1, by go_num, by go_num, Or.inr (Or.inl ⟨rfl, rfl⟩), by trivial⟩
      case measure => simp [intOf]
    · have q : ¬ (N : Int) < 0 := by omega
      go_wp2
      go_roundw
      case rel => exact ⟨2, N, by go_num, by go_num, Or.inr (Or.inr ⟨rfl, rfl⟩), by trivial⟩
      case measure => simp [intOf]
    · rename World => w
      go_wp2_with (go_at_call 75; (with_reducible refine (grow75 (n := s) (by omega) _).mono ?_); rintro e w1 ⟨p0, c0, rfl, HO, HU⟩)
      go_loopw [6, 8, 27] (fun v _ vi wr => ∃ (i m c : Nat) (p : Option Addr) (O : List Nat), v = .slice p m c ∧ vi = .int .i64 i ∧ ((i = 0 ∧ m = 0 ∧ O = []) ∨ (i = 1 ∧ m = n1 ∧ O = d1.toList) ∨ (i = 2 ∧ m = s ∧ O = d1.toList ++ d2.toList)) ∧ Hid (wr.ownsRow w.heap.size 24 1 (.slice p m c) m (O.map fe)) ∧ Hid (Up w wr)) (fun _ _ vi _ => 2 - (intOf vi).toNat)
      case atStart => exact ⟨0, 0, c0, p0, [], rfl, rfl, Or.inl ⟨rfl, rfl, rfl⟩, HO, HU⟩
      case round =>
        clear HO HU
        obtain ⟨i, m, c, p, O, rfl, rfl, hi, HO, HU⟩ := hrel
        rename World => w2
        have g1 : w2.cell? ⟨g, 0, none⟩ = some (.slice p1 n1 c1) := cell_up h1 HU.out
        have g2 : w2.cell? ⟨g, 1, none⟩ = some (.slice p2 n2 c2) := cell_up h2 HU.out
        have sz : w.heap.size ≤ w2.heap.size := RowKit.Below.size HU.out
        rcases hi with ⟨rfl, rfl, rfl⟩ | ⟨rfl, rfl, rfl⟩ | ⟨rfl, rfl, rfl⟩
        · go_wp2_with (at_builtin; refine wpList_app_sv rfl _ _ rfl w.heap.size 0 c p p1 n1 c1 [] d1 rfl rfl HO.out (S1.out.up HU.out) (by omega) sz ?_; intro p' c' w3 hown hgr)
          have HO3 : Hid (w3.ownsRow w.heap.size 24 1 (.slice p' n1 c') n1 (d1.toList.map fe)) := by rw [Nat.zero_add] at hown; exact hown
          have HU3 : Hid (Up w w3) := grown_up HU.out hgr (fun j hj => (HO.out.lt j hj).1)
          clear hown hgr
          go_roundw
          case rel => exact ⟨1, n1, c', p', _, rfl, by go_num, Or.inr (Or.inl ⟨rfl, rfl, rfl⟩), HO3, HU3⟩
          case measure => simp [intOf]
        · go_wp2_with (at_builtin; refine wpList_app_sv rfl _ _ rfl w.heap.size _ c p p2 n2 c2 d1.toList d2 rfl rfl HO.out (S2.out.up HU.out) (by omega) sz ?_; intro p' c' w3 hown hgr)
          have HO3 : Hid (w3.ownsRow w.heap.size 24 1 (.slice p' (m + n2) c') (m + n2) ((d1.toList ++ d2.toList).map fe)) := hown
          have HU3 : Hid (Up w w3) := grown_up HU.out hgr (fun j hj => (HO.out.lt j hj).1)
          clear hown hgr
          go_roundw
          case rel => exact ⟨2, m + n2, c', p', _, rfl, by go_num, Or.inr (Or.inr ⟨rfl, HN.out, rfl⟩), HO3, HU3⟩
          case measure => simp [intOf]
        · go_wp2
          go_ret
          refine ⟨p, c, rfl, sv_own (b := w.heap.size) (d := d1 ++ d2) ?_ ?_ (fit_app S1.out.fit S2.out.fit), HU⟩
          · have := HO.out
            rwa [← Array.toList_append] at this
          · rw [Array.size_append, S1.out.len, S2.out.len]; exact HN.out
end Go.Proofs.Ytfggdaebahdnfaa
