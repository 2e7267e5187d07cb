/- Sums of floats, the first alone. -/
import Derived.Test.YtflngnnoibkkoaaGreatCA
import Derived.Lib.AppendZeros
import Derived.Deep.Upon
import Derived.Deep.AppendLies
namespace Go.Proofs.YtflngnnoibkkoaaGreat.Cf
open Go.ChangeShapes Go.WideShapes Go.ChangeAt Go.RowKit Go.Fl Go.Sort
set_option maxRecDepth 200000
set_option maxHeartbeats 8000000
attribute [local go_sem] run_store_float run_store_complex call35 call46 run_neg fold_eq fold_ne fold_lt fold_gt abs_eq

/-- The sum of n numbers, the first alone. -/
def sumN (F : Nat → Option Nat) : Nat → Option Nat
  | 0 => ab 0
  | 1 => F 0
  | n + 2 => bin .add (sumN F (n + 1)) (F (n + 1))
theorem sumN_step (F : Nat → Option Nat) (k : Nat) : sumN F (k + 1 + 1) = bin .add (sumN F (k + 1)) (F (k + 1)) := rfl
set_option maxHeartbeats 1000000 in
theorem t80 (g n : Nat) (c : Value) (F : Nat → Option Nat) (w : World) (hn : n < 4611686018427387904) (eg : ∀ args w, (callFunc g args).run Tryz.prog w = .ok (.enter g args) w)
    (hat : ∀ i, i < n → ∀ k, Calls Tryz.prog g #[.int .i64 i, c] (w.drewN k) (FR (w.drewN k) (F i))) :
    Calls Tryz.prog 237 #[.int .i64 n, .func (.func g) #[] #[c]] w (FR w (sumN F n)) := by
  have HA : Hid (∀ i, i < n → ∀ k, Calls Tryz.prog g #[.int .i64 i, c] (w.drewN k) (FR (w.drewN k) (F i))) := hat
  clear hat
  rcases Nat.eq_zero_or_pos n with rfl | hp
  · go_enter Tryz.func237, Tryz.ntmps237
    go_wp2
    go_ret
    exact FR.mk0 rfl
  · obtain ⟨m, rfl⟩ : ∃ m, n = m + 1 := ⟨n - 1, by omega⟩
    have A0 : Hid (Calls Tryz.prog g #[.int .i64 0, c] w (FR w (F 0))) := HA.out 0 hp 0
    have A1 : Hid (∀ i, i < m → ∀ k, Calls Tryz.prog g #[.int .i64 ((i : Int) + 1), c] (w.drewN k) (FR (w.drewN k) (F (i + 1)))) := fun i hi k => HA.out (i + 1) (by omega) k
    clear HA
    have h0 : ((m : Int) + 1 == 0) = false := by rw [beq_eq_false_iff_ne]; omega
    go_enter Tryz.func237, Tryz.ntmps237
    go_wp2_with fail
    (with_reducible refine A0.out.mono ?_)
    rintro e w' ⟨r, k, rfl, rfl, hr⟩
    go_wp2
    go_loopw [5, 6, 13] (fun vs _ vi wr => ∃ i r k : Nat, i ≤ m ∧ vs = .float .f64 r ∧ vi = .int .i64 i ∧ wr = w.drewN k ∧ Hid (ab r = sumN F (i + 1))) (fun _ _ vi _ => m - (intOf vi).toNat)
    case atStart => exact ⟨0, r, k, by omega, rfl, rfl, by simp, hr⟩
    case round =>
      clear hr
      obtain ⟨i, r, k, hi, rfl, rfl, rfl, hr⟩ := hrel
      by_cases hlt : i < m
      · go_wp2_with fail
        (with_reducible refine (A1.out i hlt _).mono ?_)
        rintro e w' ⟨r2, k2, rfl, rfl, hr2⟩
        go_wp2_with ((with_reducible refine upon_fl (by simp) ?_); intro r3 k3 hr3)
        go_roundw
        case rel =>
          refine ⟨i + 1, r3, _, by omega, rfl, by go_num, by first | rfl | (simp only [World.drewN_drewN]; rfl), ?_⟩
          show _ = _
          rw [sumN_step, ← hr.out, ← hr2.out, ← hr3.out]
        case measure => simp [intOf]; omega
      · obtain rfl : i = m := by omega
        go_wp2
        go_ret
        exact FR.mkN hr.out

/-- The sum of a row. -/
def sumD (d : Array Nat) : Option Nat := sumN (fun i => ab d[i]!) d.size
/-- What a call leaves that hands back one float. -/
def FU (w : World) (v : Option Nat) (e : Ending) (w' : World) : Prop := ∃ r, e = .returned (.float .f64 r) ∧ Hid (ab r = v) ∧ Hid (Up w w')
theorem FU.mk {w w' : World} {v : Option Nat} {r : Nat} (h : ab r = v) (hu : Up w w') : FU w v (.returned (.float .f64 r)) w' := ⟨r, rfl, h, hu⟩
theorem enters {f : FuncId} {fn : Func} (hf : Tryz.prog.funcs[f]? = some fn) (hn : (fn.name == "runtime.NumGoroutine") = false) (hb : fn.body.isSome = true) (args : Array Value) (w : World) : (callFunc f args).run Tryz.prog w = .ok (.enter f args) w := by
  have h1 : fn.name ≠ "runtime.NumGoroutine" := by simpa using hn
  obtain ⟨c, hc⟩ := Option.isSome_iff_exists.1 hb
  simp [callFunc, hf, h1, hc]
theorem eg81 (args : Array Value) (w : World) : (callFunc 238 args).run Tryz.prog w = .ok (.enter 238 args) w := enters Tryz.func238 (by kernel_rfl) (by kernel_rfl) _ _
theorem t81 (blk off cap i b : Nat) (d : Array Nat) (w : World) (hB : w.cell? ⟨b, 0, none⟩ = some (.slice (some ⟨blk, off, none⟩) d.size cap)) (hR : Reads w blk off d) (hi : i < d.size) :
    Calls Tryz.prog 238 #[.int .i64 i, .pointer (some ⟨b, 0, none⟩)] w (FR w (ab d[i]!)) := by
  obtain ⟨x, hx⟩ : ∃ x, d[i]! = x := ⟨_, rfl⟩
  have hc := hR i hi
  rw [hx] at hc
  rw [hx]
  clear hx hR
  have hiz : (i : Int) < (d.size : Int) := by omega
  go_enter Tryz.func238, Tryz.ntmps238
  go_wp2
  go_ret
  exact FR.mk0 rfl

theorem box_cell (w : World) (v : Value) (t : TypeId) (k : Nat) : ((w.alloc (.cells #[v] t)).drewN k).cell? ⟨w.heap.size, 0, none⟩ = some v := World.cell?_alloc_at _ _ _ _ rfl
theorem sum26 (blk off cap : Nat) (d : Array Nat) (w : World) (hR : Reads w blk off d) (hn : d.size < 4611686018427387904) :
    Calls Tryz.prog 237 #[.int .i64 d.size, .func (.func 238) #[] #[.pointer (some ⟨w.heap.size, 0, none⟩)]] (w.alloc (.cells #[.slice (some ⟨blk, off, none⟩) d.size cap] 47)) (FR (w.alloc (.cells #[.slice (some ⟨blk, off, none⟩) d.size cap] 47)) (sumD d)) :=
  t80 238 d.size _ (fun i => ab d[i]!) _ hn eg81 fun i hi _ => t81 blk off cap i w.heap.size d _ (box_cell _ _ _ _) (hR.up ((Up.alloc _ _).trans (Up.drewN _ _))) hi
theorem t74 (blk off cap : Nat) (d : Array Nat) (w : World) (hR : Reads w blk off d) (hn : d.size < 4611686018427387904) : Calls Tryz.prog 212 #[.slice (some ⟨blk, off, none⟩) d.size cap] w (FU w (sumD d)) := by
  have HR : Hid (Reads w blk off d) := hR
  clear hR
  go_enter Tryz.func212, Tryz.ntmps212
  go_wp2_with (go_at_call 237; (with_reducible refine (sum26 _ _ _ _ _ HR.out hn).mono ?_); rintro e w' ⟨r, k, rfl, rfl, hr⟩)
  go_ret
  exact FU.mk hr.out ((Up.alloc _ _).trans (Up.drewN _ _))
end Go.Proofs.YtflngnnoibkkoaaGreat.Cf
/- The numbers that a list is looked through with: which may be. -/
namespace Go.Proofs.YtflngnnoibkkoaaGreat.Cf
open Go.ChangeShapes Go.WideShapes Go.ChangeAt Go.RowKit Go.Fl Go.Sort
set_option maxRecDepth 200000
set_option maxHeartbeats 8000000
attribute [local go_sem] run_store_float call35 call46 run_neg fold_eq fold_ne fold_lt fold_gt abs_eq

def mayF (g t n : Int) : Bool := decide (0 ≤ g) && decide (g ≤ 16384) && (decide (1 ≤ t) && decide (t ≤ 16384)) && (decide (0 ≤ n) && decide (n ≤ 32768))
theorem t48 (a b c : Int) (w : World) : Calls Tryz.prog 172 #[.int .i64 a, .int .i64 b, .int .i64 c] w fun e w' => e = .returned (.bool (decide (b ≤ a) && decide (a ≤ c))) ∧ w' = w := by
  go_enter Tryz.func172, Tryz.ntmps172
  go_wp2
  all_goals (go_ret; go_tidy; simp_all; try omega)
theorem t31 (f : Value) (g t n : Int) (w : World) : Calls Tryz.prog 144 #[.agg #[f, .int .i64 g, .int .i64 t, .int .i64 n]] w fun e w' => e = .returned (.bool (mayF g t n)) ∧ Hid (Up w w') := by
  go_enter Tryz.func144, Tryz.ntmps144
  go_wp2
  all_goals (go_ret; go_tidy; refine ⟨?_, Up.alloc _ _⟩; simp_all [mayF]; try omega)
/-- The first error of the numbers that a list is looked through with. -/
def refE (g t n : Int) (x : Nat) : Int := if mayF g t n = false then 2 else if fin (ab x) = true then 0 else 6
theorem t37 (f : Value) (g t n : Int) (x : Nat) (w : World) : Calls Tryz.prog 118 #[.agg #[f, .int .i64 g, .int .i64 t, .int .i64 n], .float .f64 x] w fun e w' => e = .returned (.int .i64 (refE g t n x)) ∧ Hid (Up w w') := by
  obtain ⟨m, hm⟩ : ∃ m, mayF g t n = m := ⟨_, rfl⟩
  have H31 : Hid (∀ W, Calls Tryz.prog 144 #[.agg #[f, .int .i64 g, .int .i64 t, .int .i64 n]] W fun e w' => e = .returned (.bool m) ∧ Hid (Up W w')) := fun W => hm ▸ t31 f g t n W
  have HM : Hid _ := hm
  clear hm
  cases m
  · go_enter Tryz.func118, Tryz.ntmps118
    go_wp2_with (go_at_call 144; (with_reducible refine (H31.out _).mono ?_); rintro e w1 ⟨rfl, HU⟩)
    go_ret
    refine ⟨?_, (Up.alloc _ _).trans HU.out⟩
    unfold refE; rw [if_pos HM.out]; rfl
  · go_enter Tryz.func118, Tryz.ntmps118
    go_wp2_with (first
      | (go_at_call 144; (with_reducible refine (H31.out _).mono ?_); rintro e w1 ⟨rfl, HU⟩)
      | (go_at_call 51; (with_reducible refine (t54 _ _).mono ?_); rintro e w' ⟨rfl, hw⟩; subst w')
      | (go_at_call 52; (with_reducible refine (t29 _ _).mono ?_); rintro e w' ⟨rfl, hw⟩; subst w'))
    all_goals
      go_ret
      go_tidy
      refine ⟨?_, (Up.alloc _ _).trans HU.out⟩
      unfold refE; rw [HM.out]
      simp_all [fin, eqF_self]
theorem t50 (w : World) : Calls Tryz.prog 174 #[.int .i64 1] w fun e w' => e = .returned (.float .f64 9218868437227405312) ∧ w' = w := by
  go_enter Tryz.func174, Tryz.ntmps174
  go_wp2
  all_goals (go_ret)
  all_goals exact ⟨rfl, rfl⟩
/-- A slice that holds these floats. -/
structure SV (w : World) (p : Option Addr) (n cap : Nat) (d : Array Nat) : Prop where
  len : d.size = n
  cap : n ≤ cap
  fit : Fit d
  rd : 0 < n → ∃ b o, p = some ⟨b, o, none⟩ ∧ Reads w b o d
theorem SV.up {w w' : World} {p : Option Addr} {n cap : Nat} {d : Array Nat} (h : SV w p n cap d) (hu : Up w w') : SV w' p n cap d :=
  ⟨h.len, h.cap, h.fit, fun hp => by obtain ⟨b, o, e, r⟩ := h.rd hp; exact ⟨b, o, e, r.up hu⟩⟩
abbrev wholeF (n : Nat) : Nat := floatOfInt FloatKind.f64 (n : Int)
/-- The mean of a row. -/
def meanD (d : Array Nat) : Option Nat := bin .quo (sumD d) (ab (wholeF d.size))
theorem sum74 {w : World} {p : Option Addr} {n cap : Nat} {d : Array Nat} (h : SV w p n cap d) (hp : 0 < n) (hn : n ≤ 1000000) : Calls Tryz.prog 212 #[.slice p n cap] w (FU w (sumD d)) := by
  obtain ⟨b, o, rfl, r⟩ := h.rd hp
  have := t74 b o cap d w r (by rw [h.len]; omega)
  rwa [h.len] at this
theorem t67 {w : World} {p : Option Addr} {n cap : Nat} {d : Array Nat} (h : SV w p n cap d) (hp : 0 < n) (hn : n ≤ 1000000) : Calls Tryz.prog 194 #[.slice p n cap] w (FU w (meanD d)) := by
  have H : Hid (SV w p n cap d) := h
  clear h
  go_enter Tryz.func194, Tryz.ntmps194
  go_wp2_with (first
    | ((with_reducible refine upon_fl (by simp) ?_); intro r3 k3 hr3)
    | (go_at_call 212; (with_reducible refine (sum74 H.out hp hn).mono ?_); rintro e w1 ⟨r, rfl, hr, HU⟩))
  go_ret
  refine FU.mk ?_ (HU.out.trans (Up.drewN _ _))
  rw [hr3.out, hr.out, ← H.out.len]; rfl
end Go.Proofs.YtflngnnoibkkoaaGreat.Cf
/- slices.Grow of none, a row of floats appended to one's own, slices.Concat of two. -/
namespace Go.Proofs.YtflngnnoibkkoaaGreat.Cf
open Go.ChangeShapes Go.WideShapes Go.ChangeAt Go.RowKit Go.Fl Go.Sort
set_option maxRecDepth 200000
set_option maxHeartbeats 8000000
attribute [local go_sem] run_store_float call35 call46 run_neg fold_eq fold_ne fold_lt fold_gt abs_eq

theorem app_sv {w : World} {base m c ty : Nat} {p q : Option Addr} {n cq : Nat} {O : List Nat} {d : Array Nat} (hown : w.ownsRow base 22 1 (.slice p m c) m (O.map fe)) (hv : SV w q n cq d) (hmn : m + n ≤ 1000000) (hbase : base ≤ w.heap.size) :
    ∃ p' c' w', (Builtin.append_ #[47, 47] ty #[.slice p m c, .slice q n cq]).run Tryz.prog w = .ok (.slice p' (m + n) c') w' ∧ w'.ownsRow base 22 1 (.slice p' (m + n) c') (m + n) ((O ++ d.toList).map fe) ∧ w.grownBy w' (Value.slice p m c).ownBlock := by
  obtain ⟨i0, hi, hz0, hz1, hz2⟩ := info_parts info23
  have hmc : m ≤ c := by
    rcases hown.2 with ⟨e, h0⟩ | ⟨g, c0, cur, e, _, _, h4, _⟩
    · simp only [Value.slice.injEq] at e; omega
    · simp only [Value.slice.injEq] at e; omega
  rcases Nat.eq_zero_or_pos n with rfl | hp
  · have hd : d.toList = [] := by have := hv.len; simpa using this
    refine ⟨p, c, w, ?_, ?_, World.grownBy.refl _ _⟩
    · refine run_append_nothing w 47 47 ty 22 i0 Tryz.underlying47 hi _ m c hmc _ ?_
      cases q with
      | none => exact Src.ofNil w Tryz.underlying47 cq
      | some a => exact Src.ofSlice w Tryz.underlying47 a 0 cq [] (by simp) (fun j u h => by simp at h) (fun u h => by cases h)
    · rw [hd, List.append_nil]; exact hown
  · obtain ⟨b, o, rfl, hr⟩ := hv.rd hp
    obtain ⟨g, cap, w', h1, h2, h3, h4, _⟩ := run_append_lies (P := Tryz.prog) w 47 ty base 22 i0 (.float .f64 0) 1 8 Tryz.underlying47 hi hz0 hz1 hz2 rfl (by omega) (.slice p m c) m (O.map fe) hown ⟨b, o, none⟩ n cq (d.toList.map fe) (by simp [hv.len]) (reads_news hr) (one_cells _) hp (by unfold maxLen; omega) (by omega) hbase w.heap.size rfl
    exact ⟨_, cap, w', h1, by rw [List.map_append]; exact h2, h3⟩
theorem wpList_app_sv {ops : Array Oper} {rest : List Oper} {o : Oper} {a : Act} {w : World} {Q : Exit → Act → World → Prop} (hgd : o.guard = none) (s x : Operand)
    (ho : o.op = .call { callee := .builtin .append, args := #[s, x], argTypes := #[47, 47] })
    (base m c : Nat) (p q : Option Addr) (n cq : Nat) (O : List Nat) (d : Array Nat) (hs : a.eval s = .slice p m c) (hx : a.eval x = .slice q n cq) (hown : w.ownsRow base 22 1 (.slice p m c) m (O.map fe)) (hv : SV w q n cq d) (hmn : m + n ≤ 1000000) (hbase : base ≤ w.heap.size)
    (h : ∀ p' c' w', w'.ownsRow base 22 1 (.slice p' (m + n) c') (m + n) ((O ++ d.toList).map fe) → w.grownBy w' (Value.slice p m c).ownBlock → wpList Tryz.prog ops Q rest (a.put o.dst (.slice p' (m + n) c')) w') : wpList Tryz.prog ops Q (o :: rest) a w := by
  refine wpList_plain hgd fun K hK => ?_
  obtain ⟨p', c', w', h1, h2, h3⟩ := app_sv (ty := o.type) hown hv hmn hbase
  unfold Oper.wp execOp
  simp only [ho, resolve, invoke, builtin, Sem.run_bind, Sem.run_pure, Result.andThen_ok, List.map_toArray, List.map_cons, List.map_nil, hs, hx, h1]
  exact hK _ _ (h p' c' w' h2 h3)
/-- A row of one's own can be read. -/
theorem sv_own {b : Nat} {w : World} {p : Option Addr} {n cap : Nat} {d : Array Nat} (h : w.ownsRow b 22 1 (.slice p n cap) n (d.toList.map fe)) (hl : d.size = n) (hF : Fit d) : SV w p n cap d := by
  refine ⟨hl, ?_, hF, fun hp => ?_⟩
  · rcases h.2 with ⟨e, h0⟩ | ⟨g, c0, cur, e, _, _, h4, _⟩
    · simp only [Value.slice.injEq] at e; omega
    · simp only [Value.slice.injEq] at e; omega
  · subst hl
    obtain ⟨g, c, e, _, _, r⟩ := own_reads (own_of hp h)
    simp only [Value.slice.injEq] at e
    exact ⟨g, 0, e.1, r⟩
theorem fit_app {a b : Array Nat} (ha : Fit a) (hb : Fit b) : Fit (a ++ b) := by
  intro i hi
  have hi' : i < a.size + b.size := by simpa using hi
  rw [getElem!_pos _ i hi, Array.getElem_append]
  split
  · rename_i h; have := ha i h; rwa [getElem!_pos a i h] at this
  · rename_i h; have := hb (i - a.size) (by omega); rwa [getElem!_pos b _ (by omega)] at this
theorem zeros_own (w : World) (G : Nat) (hG : G ≤ maxLen) (cs : Array Value) (hs : cs.size = G) : (w.alloc (.cells cs 22)).ownsRow w.heap.size 22 1 (.slice (some ⟨w.heap.size, 0, none⟩) 0 G) 0 [] :=
  ⟨by simp, .inr ⟨w.heap.size, G, cs, rfl, Nat.le_refl _, heap_alloc_last _ _, Nat.zero_le _, hG, by simpa using hs, by simp⟩⟩
theorem t75z (w : World) : Calls Tryz.prog 213 #[.slice none 0 0, .int .i64 0] w fun e w' => e = .returned (.slice none 0 0) ∧ w' = w := by
  go_enter Tryz.func213, Tryz.ntmps213
  go_wp2
  go_ret
  exact ⟨rfl, rfl⟩
theorem wpList_zeros {ops : Array Oper} {rest : List Oper} {o : Oper} {a : Act} {w : World} {Q : Exit → Act → World → Prop} (hgd : o.guard = none) (s x : Operand)
    (ho : o.op = .call { callee := .builtin .append, args := #[s, x], argTypes := #[47, 3] }) (n : Nat) (hs : a.eval s = .slice none 0 0) (hx : a.eval x = .int .i64 n) (hp : 0 < n) (hn : n ≤ 1000000)
    (h : ∀ G w', n ≤ G → G ≤ 9223372036854775807 → Hid (w'.ownsRow w.heap.size 22 1 (.slice (some ⟨w.heap.size, 0, none⟩) 0 G) 0 []) → Hid (Up w w') → wpList Tryz.prog ops Q rest (a.put o.dst (.slice (some ⟨w.heap.size, 0, none⟩) n G)) w') : wpList Tryz.prog ops Q (o :: rest) a w := by
  obtain ⟨i0, hi, hz0, hz1, hz2⟩ := info_parts info23
  have hrun := Lib.run_append_nil_zeros (P := Tryz.prog) w 47 3 o.type 22 i0 (.float .f64 0) .i64 .i64 Tryz.underlying47 Tryz.underlying3 hi hz0 n hp (by omega) (by omega) (by rw [hz2]; omega)
  have hG := grownCap_ge w n 0 22
  have hGm := grownCap_le_maxLen w n 0 22 (by unfold maxLen; omega)
  generalize grownCap w n 0 22 = G at hrun hG hGm
  refine wpList_plain hgd fun K hK => ?_
  unfold Oper.wp execOp
  simp only [ho, resolve, invoke, builtin, Sem.run_bind, Sem.run_pure, Result.andThen_ok, List.map_toArray, List.map_cons, List.map_nil, hs, hx, hrun]
  refine hK _ _ (h G _ hG (by unfold maxLen at hGm; omega) ?_ ((Up.drewN w 1).trans (Up.alloc _ _)))
  exact zeros_own w.drew G hGm _ (by rw [Array.size_append, size_zeroCells, size_zeroCells]; simp [Value.cells]; omega)
set_option maxHeartbeats 1000000 in
theorem t75 {n : Nat} (hp : 0 < n) (hn : n ≤ 1000000) (w : World) : Calls Tryz.prog 213 #[.slice none 0 0, .int .i64 n] w fun e w' => ∃ p c, e = .returned (.slice p 0 c) ∧ Hid (w'.ownsRow w.heap.size 22 1 (.slice p 0 c) 0 []) ∧ Hid (Up w w') := by
  have h1 : (0 : Int) < (n : Int) := by omega
  go_enter Tryz.func213, Tryz.ntmps213
  go_wp2_with (at_builtin; refine wpList_zeros rfl _ _ rfl n rfl rfl hp hn ?_; intro G w1 hG1 hG2 HO HU)
  go_ret
  exact ⟨_, _, rfl, HO, HU⟩
theorem grow75 {n : Nat} (hn : n ≤ 1000000) (w : World) : Calls Tryz.prog 213 #[.slice none 0 0, .int .i64 n] w fun e w' => ∃ p c, e = .returned (.slice p 0 c) ∧ Hid (w'.ownsRow w.heap.size 22 1 (.slice p 0 c) 0 []) ∧ Hid (Up w w') := by
  rcases Nat.eq_zero_or_pos n with rfl | hp
  · exact (t75z w).mono fun e w' ⟨he, hw⟩ => ⟨none, 0, he, World.ownsRow_nil _ _ _ _, hw ▸ Up.refl _⟩
  · exact t75 hp hn w
theorem cell_up {w w' : World} {b k : Nat} {v : Value} (h : w.cell? ⟨b, k, none⟩ = some v) (hu : Up w w') : w'.cell? ⟨b, k, none⟩ = some v := by
  obtain ⟨c, e, fr, hb, _⟩ := cells_of_cell? h
  rw [RowKit.Below.cell hu (Array.getElem?_eq_some_iff.1 hb).1]; exact h
theorem grown_up {w0 w w' : World} {row : Option Nat} (hu : Up w0 w) (hg : w.grownBy w' row) (hb : ∀ j, row = some j → w0.heap.size ≤ j) : Up w0 w' := RowKit.Below.grown hu hg (RowKit.Below.size hu) hb
/-- What a call leaves that hands back a row of floats. -/
def RV (w : World) (n : Nat) (d : Array Nat) (e : Ending) (w' : World) : Prop := ∃ p c, e = .returned (.slice p n c) ∧ Hid (SV w' p n c d) ∧ Hid (Up w w')
set_option maxHeartbeats 1000000 in
theorem t68 {w : World} {g n1 n2 c1 c2 : Nat} {p1 p2 : Option Addr} {d1 d2 : Array Nat} (h1 : w.cell? ⟨g, 0, none⟩ = some (.slice p1 n1 c1)) (h2 : w.cell? ⟨g, 1, none⟩ = some (.slice p2 n2 c2)) (s1 : SV w p1 n1 c1 d1) (s2 : SV w p2 n2 c2 d2) (b1 : n1 ≤ 20000) (b2 : n2 ≤ 20000) :
    Calls Tryz.prog 195 #[.slice (some ⟨g, 0, none⟩) 2 2] w (RV w (n1 + n2) (d1 ++ d2)) := by
  have S1 : Hid (SV w p1 n1 c1 d1) := s1
  have S2 : Hid (SV w p2 n2 c2 d2) := s2
  clear s1 s2
  obtain ⟨N, hN⟩ : ∃ N, n1 + n2 = N := ⟨_, rfl⟩
  have HN : Hid (n1 + n2 = N) := hN
  have bN : N ≤ 40000 := by omega
  have eN : (n1 : Int) + (n2 : Int) = (N : Int) := by omega
  rw [hN]
  clear hN
  go_enter Tryz.func195, Tryz.ntmps195
  go_wp2
  go_loopw [3, 5, 11] (fun vs _ vi wr => ∃ i s : Nat, vs = .int .i64 s ∧ vi = .int .i64 i ∧ ((i = 0 ∧ s = 0) ∨ (i = 1 ∧ s = n1) ∨ (i = 2 ∧ s = N)) ∧ wr = w) (fun _ _ vi _ => 2 - (intOf vi).toNat)
  case atStart => exact ⟨0, 0, rfl, rfl, Or.inl ⟨rfl, rfl⟩, by trivial⟩
  case round =>
    obtain ⟨i, s, rfl, rfl, hi, hwr⟩ := hrel
    subst hwr
    rcases hi with ⟨rfl, rfl⟩ | ⟨rfl, rfl⟩ | ⟨rfl, rfl⟩
    · go_wp2
      go_roundw
      case rel => exact ⟨1, n1, by go_num, by go_num, Or.inr (Or.inl ⟨rfl, rfl⟩), by trivial⟩
      case measure => simp [intOf]
    · have q : ¬ (N : Int) < 0 := by omega
      go_wp2
      go_roundw
      case rel => exact ⟨2, N, by go_num, by go_num, Or.inr (Or.inr ⟨rfl, rfl⟩), by trivial⟩
      case measure => simp [intOf]
    · rename World => w
      go_wp2_with (go_at_call 213; (with_reducible refine (grow75 (n := s) (by omega) _).mono ?_); rintro e w1 ⟨p0, c0, rfl, HO, HU⟩)
      go_loopw [6, 8, 27] (fun v _ vi wr => ∃ (i m c : Nat) (p : Option Addr) (O : List Nat), v = .slice p m c ∧ vi = .int .i64 i ∧ ((i = 0 ∧ m = 0 ∧ O = []) ∨ (i = 1 ∧ m = n1 ∧ O = d1.toList) ∨ (i = 2 ∧ m = s ∧ O = d1.toList ++ d2.toList)) ∧ Hid (wr.ownsRow w.heap.size 22 1 (.slice p m c) m (O.map fe)) ∧ Hid (Up w wr)) (fun _ _ vi _ => 2 - (intOf vi).toNat)
      case atStart => exact ⟨0, 0, c0, p0, [], rfl, rfl, Or.inl ⟨rfl, rfl, rfl⟩, HO, HU⟩
      case round =>
        clear HO HU
        obtain ⟨i, m, c, p, O, rfl, rfl, hi, HO, HU⟩ := hrel
        rename World => w2
        have g1 : w2.cell? ⟨g, 0, none⟩ = some (.slice p1 n1 c1) := cell_up h1 HU.out
        have g2 : w2.cell? ⟨g, 1, none⟩ = some (.slice p2 n2 c2) := cell_up h2 HU.out
        have sz : w.heap.size ≤ w2.heap.size := RowKit.Below.size HU.out
        rcases hi with ⟨rfl, rfl, rfl⟩ | ⟨rfl, rfl, rfl⟩ | ⟨rfl, rfl, rfl⟩
        · go_wp2_with (at_builtin; refine wpList_app_sv rfl _ _ rfl w.heap.size 0 c p p1 n1 c1 [] d1 rfl rfl HO.out (S1.out.up HU.out) (by omega) sz ?_; intro p' c' w3 hown hgr)
          have HO3 : Hid (w3.ownsRow w.heap.size 22 1 (.slice p' n1 c') n1 (d1.toList.map fe)) := by rw [Nat.zero_add] at hown; exact hown
          have HU3 : Hid (Up w w3) := grown_up HU.out hgr (fun j hj => (HO.out.lt j hj).1)
          clear hown hgr
          go_roundw
          case rel => exact ⟨1, n1, c', p', _, rfl, by go_num, Or.inr (Or.inl ⟨rfl, rfl, rfl⟩), HO3, HU3⟩
          case measure => simp [intOf]
        · go_wp2_with (at_builtin; refine wpList_app_sv rfl _ _ rfl w.heap.size _ c p p2 n2 c2 d1.toList d2 rfl rfl HO.out (S2.out.up HU.out) (by omega) sz ?_; intro p' c' w3 hown hgr)
          have HO3 : Hid (w3.ownsRow w.heap.size 22 1 (.slice p' (m + n2) c') (m + n2) ((d1.toList ++ d2.toList).map fe)) := hown
          have HU3 : Hid (Up w w3) := grown_up HU.out hgr (fun j hj => (HO.out.lt j hj).1)
          clear hown hgr
          go_roundw
          case rel => exact ⟨2, m + n2, c', p', _, rfl, by go_num, Or.inr (Or.inr ⟨rfl, HN.out, rfl⟩), HO3, HU3⟩
          case measure => simp [intOf]
        · go_wp2
          go_ret
          refine ⟨p, c, rfl, sv_own (b := w.heap.size) (d := d1 ++ d2) ?_ ?_ (fit_app S1.out.fit S2.out.fit), HU⟩
          · have := HO.out
            rwa [← Array.toList_append] at this
          · rw [Array.size_append, S1.out.len, S2.out.len]; exact HN.out
end Go.Proofs.YtflngnnoibkkoaaGreat.Cf
/- The merge in place of two sorted neighbours, one of which is of one place. -/
namespace Go.Proofs.YtflngnnoibkkoaaGreat.Cf
open Go.ChangeShapes Go.WideShapes Go.ChangeAt Go.RowKit Go.Fl Go.Sort
set_option maxRecDepth 200000
set_option maxHeartbeats 8000000
attribute [local go_sem] run_store_float call35 call46 run_neg fold_eq fold_ne fold_lt fold_gt abs_eq

/-- What a call of the merge promises. -/
def Merges (w : World) (blk off a b : Nat) (d : Array Nat) (e : Ending) (w' : World) : Prop := e = .returned (.tuple #[]) ∧ ∃ n d', w' = (putRow fe w blk off d').drewN n ∧ PermIn a b d d' ∧ SortedIn ltK a b d'
theorem ltK_true {x y : Nat} : ltK x y = true ↔ key x < key y := by simp [ltK]
theorem ltK_false {x y : Nat} : ltK x y = false ↔ key y ≤ key x := by simp [ltK]

/-- The first is moved up, step by step. -/
theorem up_start (a : Nat) (d : Array Nat) : Rot a (a + 1) (a + 1) d d := ⟨rfl, fun x => by
  repeat' split
  all_goals first | omega | rfl | (congr 1; omega)⟩
theorem up_step {a k : Nat} {d dk : Array Nat} (h : Rot a (a + 1) (k + 1) d dk) (hk : a ≤ k) (hs : k + 1 < d.size) : Rot a (a + 1) (k + 2) d (swp dk k (k + 1)) := by
  refine ⟨(size_swp _ _ _).trans h.1, fun x => ?_⟩
  have hs' : dk.size = d.size := h.1
  by_cases h1 : x = k
  · subst h1
    rw [swp_left _ _ _ (by omega) (by omega), h.2]
    repeat' split
    all_goals first | omega | rfl | (congr 1; omega)
  · by_cases h2 : x = k + 1
    · subst h2
      rw [swp_right _ _ _ (by omega), h.2]
      repeat' split
      all_goals first | omega | rfl | (congr 1; omega)
    · rw [swp_other _ _ _ _ h1 h2, h.2]
      repeat' split
      all_goals first | omega | rfl | (congr 1; omega)
theorem up_sorted {a b i : Nat} {d d' : Array Nat} (h : Rot a (a + 1) i d d') (hi : a + 1 ≤ i) (hib : i ≤ b) (h2 : SortedIn ltK (a + 1) b d) (hl : ∀ x, a + 1 ≤ x → x < i → ltK d[x]! d[a]! = true) (hg : ∀ x, i ≤ x → x < b → ltK d[x]! d[a]! = false) : SortedIn ltK a b d' := by
  intro p q hp hpq hq
  rw [ltK_false, h.2 p, h.2 q]
  repeat' split
  · exact ltK_false.1 (h2 _ _ (by omega) (by omega) (by omega))
  · have := ltK_true.1 (hl (p - a + (a + 1)) (by omega) (by omega))
    have e : q - (i - (a + 1)) = a := by omega
    rw [e]; omega
  · exact ltK_false.1 (h2 _ _ (by omega) (by omega) (by omega))
  · omega
  · omega
  · have := ltK_false.1 (hg q (by omega) (by omega))
    have e : p - (i - (a + 1)) = a := by omega
    rw [e]; exact this
  · omega
  · omega
  · exact ltK_false.1 (h2 _ _ (by omega) (by omega) (by omega))

set_option maxHeartbeats 2000000 in
theorem t85up (blk off cap a m b : Nat) (d : Array Nat) (w : World) (hH : Holds fe w blk off d) (hF : Fit d) (hm : m = a + 1) (hb : b ≤ d.size) (hmb : m < b) (hsz : d.size < 4611686018427387904) (h2 : SortedIn ltK m b d) :
    Calls Tryz.prog 251 #[.slice (some ⟨blk, off, none⟩) d.size cap, .int .i64 a, .int .i64 m, .int .i64 b, ord29] w (Merges w blk off a b d) := by
  have HH : Hid (Holds fe w blk off d) := hH
  have HST : Hid (w = (putRow fe w blk off d).drewN 0) := (putRow_self fe w blk off d hH).symm
  have HF : Hid (Fit d) := hF
  have H2 : Hid (SortedIn ltK m b d) := h2
  clear hF h2
  obtain ⟨y, hy⟩ : ∃ y, d[a]! = y := ⟨_, rfl⟩
  obtain ⟨ca, fa⟩ := hH a (by omega)
  rw [hy] at ca
  have bya := fit_at HF.out rfl (show a < d.size by omega) hy
  have HY : Hid _ := hy
  clear hH hy
  have am : (m : Int) - (a : Int) = 1 := by omega
  have ham : a < m := by omega
  have HM : Hid (m = a + 1) := hm
  clear hm
  go_enter Tryz.func251, Tryz.ntmps251
  go_wp2
  go_loopw [10, 11] (fun vi vj wr => ∃ (i j n : Nat), vi = .int .i64 i ∧ vj = .int .i64 j ∧ m ≤ i ∧ i ≤ j ∧ j ≤ b ∧ wr = w.drewN n ∧ Hid (∀ x, m ≤ x → x < i → ltK d[x]! d[a]! = true) ∧ Hid (∀ x, j ≤ x → x < b → ltK d[x]! d[a]! = false)) (fun vi vj _ => (intOf vj).toNat - (intOf vi).toNat)
  case atStart => exact ⟨m, b, 0, rfl, rfl, by omega, by omega, by omega, rfl, fun x h1 h2 => by omega, fun x h1 h2 => by omega⟩
  case round =>
    obtain ⟨i, j, n, rfl, rfl, hi, hij, hjb, hw, HL, HG⟩ := hrel
    rename World => W1
    have HW : Hid (W1 = w.drewN n) := hw
    by_cases hlt : i < j
    · obtain ⟨c, hc⟩ : ∃ c, (i + j) / 2 = c := ⟨_, rfl⟩
      have ec : ((i : Int) + (j : Int)) / 2 = (c : Int) := by omega
      obtain ⟨x, hx⟩ : ∃ x, d[c]! = x := ⟨_, rfl⟩
      obtain ⟨cc, fc⟩ := HH.out c (by omega)
      rw [hx] at cc
      have bx := fit_at HF.out rfl (show c < d.size by omega) hx
      have HX : Hid _ := hx
      have cc1 : W1.cell? ⟨blk, off + c, none⟩ = some (.float .f64 x) := by rw [hw]; exact cc
      have ca1 : W1.cell? ⟨blk, off + a, none⟩ = some (.float .f64 y) := by rw [hw]; exact ca
      have hcz : (c : Int) < (d.size : Int) := by omega
      have haz : (a : Int) < (d.size : Int) := by omega
      have hc1 : i ≤ c := by omega
      have hc2 : c < j := by omega
      clear cc fc ca fa hx hw hc
      by_cases hlv : cmpK x y < 0
      · go_wp2_with fail
        go_quiet (first | (go_at_call 216; refine Calls.quiet_of (cmp29 bx bya _)))
        go_wp2
        go_roundw
        case rel =>
          refine ⟨c + 1, j, n + nq, by go_num, rfl, by omega, by omega, by omega, by rw [HW.out, World.drewN_drewN], fun z h1 h3 => ?_, HG⟩
          have hcc := ltK_true.1 ((cmpK_neg x y).1 hlv)
          rw [ltK_true, HY.out]
          rcases Nat.lt_or_ge z c with hz | hz
          · have := ltK_false.1 (H2.out z c (by omega) hz (by omega))
            rw [HX.out] at this
            omega
          · obtain rfl : z = c := by omega
            rw [HX.out]; exact hcc
        case measure => simp [intOf]; omega
      · go_wp2_with fail
        go_quiet (first | (go_at_call 216; refine Calls.quiet_of (cmp29 bx bya _)))
        go_wp2
        go_roundw
        case rel =>
          refine ⟨i, c, n + nq, rfl, rfl, by omega, by omega, by omega, by rw [HW.out, World.drewN_drewN], HL, fun z h1 h3 => ?_⟩
          have hcc : ltK x y = false := Bool.eq_false_iff.2 fun h => by have := (cmpK_neg x y).2 h; omega
          have hcc := ltK_false.1 hcc
          rw [ltK_false, HY.out]
          rcases Nat.lt_or_ge c z with hz | hz
          · have := ltK_false.1 (H2.out c z (by omega) hz (by omega))
            rw [HX.out] at this
            omega
          · obtain rfl : z = c := by omega
            rw [HX.out]; exact hcc
        case measure => simp [intOf]; omega
    · obtain rfl : i = j := by omega
      clear ca fa hw
      go_wp2
      go_loopw [13] (fun vk wr => ∃ (k n : Nat) (dk : Array Nat), vk = .int .i64 k ∧ a ≤ k ∧ k < i ∧ wr = (putRow fe w blk off dk).drewN n ∧ dk.size = d.size ∧ Hid (PermIn a b d dk) ∧ Hid (Rot a m (k + 1) d dk)) (fun vk _ => i - (intOf vk).toNat)
      case atStart =>
        refine ⟨a, n, d, rfl, by omega, by omega, ?_, rfl, permIn_refl _ _ _, ?_⟩
        · rw [HW.out, putRow_self fe w blk off d HH.out]
        · show Rot _ _ _ _ _
          rw [HM.out]; exact up_start a d
      case round =>
        clear HW
        obtain ⟨k, n2, dk, rfl, hk, hki, hw, hs, HP, HR⟩ := hrel
        rename World => W2
        have HW : Hid (W2 = (putRow fe w blk off dk).drewN n2) := hw
        by_cases hlt2 : k + 1 < i
        · obtain ⟨x, hx⟩ : ∃ x, dk[k]! = x := ⟨_, rfl⟩
          obtain ⟨z, hz⟩ : ∃ z, dk[k + 1]! = z := ⟨_, rfl⟩
          obtain ⟨cx, fx⟩ := fam HW.out HH.out hs (show k < d.size by omega) hx
          obtain ⟨cz, fz⟩ := fam HW.out HH.out hs (show k + 1 < d.size by omega) hz
          have HX : Hid _ := hx
          have HZ : Hid _ := hz
          clear hw hx hz
          have jz : (k : Int) + 1 < (d.size : Int) := by omega
          have jz1 : (k : Int) < (d.size : Int) := by omega
          have p0 : (0 : Int) ≤ (k : Int) + 1 := by omega
          obtain ⟨j1, hj1⟩ : ∃ j1, j1 = k + 1 := ⟨_, rfl⟩
          have e0 : ((k : Int) + 1).toNat = j1 := by omega
          rw [← hj1] at cz fz
          have J1 : Hid (j1 = k + 1) := hj1
          clear hj1
          go_wp2
          go_big_region
          all_goals go_wp2
          go_roundw
          case rel =>
            refine ⟨k + 1, n2 + 1, swp dk k (k + 1), by go_num, by omega, by omega, ?_, by rw [size_swp]; exact hs, ?_, ?_⟩
            · rw [J1.out, HW.out, ← HX.out, ← HZ.out]
              exact swap_row w blk off dk n2 k (k + 1) (by omega) (by omega)
            · exact permIn_trans _ _ _ _ _ HP.out (swp_permIn _ _ _ _ _ (by omega) (by omega) (by omega) (by omega) (by omega))
            · show Rot _ _ _ _ _
              have h := HR.out
              rw [HM.out] at h ⊢
              exact up_step h hk (by omega)
          case measure => simp [intOf]; omega
        · obtain rfl : i = k + 1 := by omega
          go_wp2
          go_end0
          refine ⟨rfl, n2, dk, by first | exact hw | rfl, HP.out, ?_⟩
          have h := HR.out
          have h2 := H2.out
          have hl := HL.out
          rw [HM.out] at h h2 hl
          exact up_sorted h (by omega) (by omega) h2 hl HG.out
end Go.Proofs.YtflngnnoibkkoaaGreat.Cf
