/- The document's Sub, Mul, Conj. -/
import Derived.Test.YtlgejebgkkmacaaPy
import Derived.Test.YtlgejebgkkmacaaN
import Derived.Test.YtlgejebgkkmacaaSa
namespace Go.Proofs.Ytlgejebgkkmacaa
open Go.ChangeShapes Go.WideShapes Go.ChangeAt Go.RowKit Go.Fl Ieee
attribute [local go_sem] run_store_float run_store_complex call39 call50 run_neg fold_eq fold_ne fold_lt fold_gt abs_eq

attribute [local go_sem] fieldC_0 fieldC_1
theorem ret2b {fn : Func} {p : Tmp} (hres : fn.results = #[.cell p 53]) {w W : World} {b : Nat} {c s : Option Nat} {tmps : Array Value} {r i n : Nat} {u v : Value} (hp : tmps.getD p undef = .pointer (some ⟨b, 0, none⟩))
    (hk : W.heap[b]? = some (.cells #[u, v] 53 (0, 0))) (hb : Below w.heap.size w W) (hw : w.heap.size ≤ b) (h1 : ab r = c) (h2 : ab i = s) :
    bodyPost Try.prog fn (SR w c s) .ret ⟨tmps, []⟩ (((W.drewN n).setCell ⟨b, 0, none⟩ (.float .f64 r)).setCell ⟨b, 1, none⟩ (.float .f64 i)) := by
  have e0 : (W.drewN n).heap[b]? = some (.cells #[u, v] 53 (0, 0)) := hk
  have e1 := setCell_eq_setRow (W.drewN n) b 0 #[u, v] 53 (0, 0) (.float .f64 r) e0
  have g1 := setRow_heap (W.drewN n) b #[u, v] #[.float .f64 r, v] 53 (0, 0) e0
  have e2 := setCell_eq_setRow _ b 1 #[.float .f64 r, v] 53 (0, 0) (.float .f64 i) g1
  have g2 := setRow_heap _ b #[.float .f64 r, v] #[.float .f64 r, .float .f64 i] 53 (0, 0) g1
  refine bodyPost_ret (results_cell_row hres _ _ b 53 #[.float .f64 r, .float .f64 i] (0, 0) _ hp ?_ Try.underlying53 rfl (by kernel_rfl)) rfl (SR.mk h1 h2 (((below_drewN hb n).setCell hw _).setCell hw _))
  rw [e1]
  show (((W.drewN n).setRow b #[.float .f64 r, v]).setCell ⟨b, 1, none⟩ (.float .f64 i)).heap[b]? = _
  rw [e2]
  exact g2
theorem third (w : World) (o1 o2 o3 : Obj) : (((w.alloc o1).alloc o2).alloc o3).heap[w.heap.size + 1 + 1]? = some o3 := by
  have := heap_alloc_last ((w.alloc o1).alloc o2) o3
  simpa using this
theorem second (w : World) (o1 o2 : Obj) : ((w.alloc o1).alloc o2).heap[w.heap.size + 1]? = some o2 := by
  have := heap_alloc_last (w.alloc o1) o2
  simpa using this
set_option maxHeartbeats 2000000 in
set_option maxRecDepth 20000 in
theorem t46 (a b c d : Nat) (w : World) : Calls Try.prog 46 #[.agg #[.float .f64 a, .float .f64 b], .agg #[.float .f64 c, .float .f64 d]] w (SR w (mulR (ab a) (ab b) (ab c) (ab d)) (mulI (ab a) (ab b) (ab c) (ab d))) := by
  go_enter Try.func46, Try.ntmps46
  go_wp2_with ((with_reducible refine upon_fl (by simp) ?_); intro r n hr)
  rename_i r1 n1 hr1 r2 n2 hr2 r3 n3 hr3 r4 n4 hr4 r5 n5 hr5
  refine ret2b rfl rfl (third _ _ _ _) (((Up.alloc _ _).trans (Up.alloc _ _)).trans (Up.alloc _ _)) (by omega) ?_ ?_
  · rw [hr5.out, hr1.out, hr2.out]; rfl
  · rw [hr.out, hr3.out, hr4.out]; rfl
theorem sign_bit (x : Nat) : decide (wrap64 (x : Int) < 0) = (x / 2 ^ 63 % 2 == 1) := by
  unfold wrap64
  rw [Bool.eq_iff_iff]
  simp only [decide_eq_true_eq, beq_iff_eq]
  omega
set_option maxHeartbeats 2000000 in
set_option maxRecDepth 20000 in
theorem t79 (x : Nat) (w : World) : Calls Try.prog 79 #[.float .f64 x] w (BR (x / 2 ^ 63 % 2 == 1) w) := by
  go_enter Try.func79, Try.ntmps79
  go_wp2
  go_ret
  refine ⟨?_, rfl⟩
  show Ending.returned (.bool (decide (wrap64 (x : Int) < 0))) = _
  rw [sign_bit]
theorem andnot_is (x : Nat) : bits BinOp.andNot IntKind.u64 (x : Int) 9223372036854775808 = (Go.Fl.abs x : Int) := by
  have h := abs_eq x
  have h0 : 0 ≤ bits BinOp.andNot IntKind.u64 (x : Int) 9223372036854775808 := by
    show 0 ≤ IntKind.u64.wrap _
    rw [IntKind.wrap_u64]
    omega
  omega
theorem or_is {a : Nat} (h : a < 2 ^ 63) : bits BinOp.or IntKind.u64 (a : Int) 9223372036854775808 = ((a + 2 ^ 63 : Nat) : Int) ∧ bits BinOp.or IntKind.u64 (a : Int) 0 = (a : Int) := by
  constructor
  · show IntKind.u64.wrap ((BitVec.ofInt 64 (a : Int) ||| BitVec.ofInt 64 ((9223372036854775808 : Nat) : Int)).toNat : Int) = _
    rw [BitVec.toNat_or, BitVec.ofInt_natCast, BitVec.ofInt_natCast, BitVec.toNat_ofNat, BitVec.toNat_ofNat, IntKind.wrap_u64, Nat.mod_eq_of_lt (show a < 2 ^ 64 by omega)]
    have e : a ||| 9223372036854775808 % 2 ^ 64 = a + 2 ^ 63 := by
      have := Nat.two_pow_add_eq_or_of_lt h 1
      rw [Nat.or_comm]
      have e2 : 9223372036854775808 % 2 ^ 64 = 2 ^ 63 * 1 := by omega
      rw [e2, ← this]
      omega
    rw [e]
    omega
  · show IntKind.u64.wrap ((BitVec.ofInt 64 (a : Int) ||| BitVec.ofInt 64 ((0 : Nat) : Int)).toNat : Int) = _
    rw [BitVec.toNat_or, BitVec.ofInt_natCast, BitVec.ofInt_natCast, BitVec.toNat_ofNat, BitVec.toNat_ofNat, IntKind.wrap_u64, Nat.mod_eq_of_lt (show a < 2 ^ 64 by omega)]
    simp
    omega
theorem t75a (x : Nat) (w : World) : Calls Try.prog 75 #[.float .f64 x, .float .f64 4607182418800017408] w fun e w' => e = .returned (.float .f64 (Go.Fl.abs x)) ∧ w' = w := by
  have h := or_is (a := Go.Fl.abs x) (Nat.mod_lt _ (by omega))
  have f1 := andnot_is x
  have f2 : bits BinOp.and IntKind.u64 4607182418800017408 9223372036854775808 = 0 := by decide +kernel
  have f3 := h.2
  go_enter Try.func75, Try.ntmps75
  go_wp2
  go_ret
  exact ⟨rfl, rfl⟩
theorem t75b (x : Nat) (w : World) : Calls Try.prog 75 #[.float .f64 x, .float .f64 13830554455654793216] w fun e w' => e = .returned (.float .f64 (Go.Fl.abs x + 2 ^ 63)) ∧ w' = w := by
  have h := or_is (a := Go.Fl.abs x) (Nat.mod_lt _ (by omega))
  have f1 := andnot_is x
  have f2 : bits BinOp.and IntKind.u64 13830554455654793216 9223372036854775808 = 9223372036854775808 := by decide +kernel
  have f3 := h.1
  go_enter Try.func75, Try.ntmps75
  go_wp2
  go_ret
  exact ⟨rfl, rfl⟩
end Go.Proofs.Ytlgejebgkkmacaa
/- The document's Conj. -/
namespace Go.Proofs.Ytlgejebgkkmacaa
open Go.ChangeShapes Go.WideShapes Go.ChangeAt Go.RowKit Go.Fl Ieee
attribute [local go_sem] run_store_float run_store_complex call39 call50 run_neg fold_eq fold_ne fold_lt fold_gt abs_eq

attribute [local go_sem] fieldC_0 fieldC_1
/-- The other sign, by the bits. -/
def flip (x : Nat) : Nat := if x / 2 ^ 63 % 2 == 1 then Go.Fl.abs x else Go.Fl.abs x + 2 ^ 63
theorem flip_ab {x : Nat} (h : isN x = false → x < 2 ^ 64) : ab (flip x) = (ab x).map neg := by
  have hm : flip x % 2 ^ 63 = x % 2 ^ 63 := by
    unfold flip Go.Fl.abs
    split <;> omega
  cases hn : isN x with
  | true =>
    have h2 : isN (flip x) = true := by rw [isN_mod, hm, ← isN_mod]; exact hn
    rw [ab_none hn, ab_none h2]; rfl
  | false =>
    have h2 : isN (flip x) = false := by rw [isN_mod, hm, ← isN_mod]; exact hn
    have hlt := h hn
    rw [ab_some hn, ab_some h2]
    show some _ = some _
    congr 1
    obtain ⟨p1, p2⟩ := neg_parts x
    refine of_parts (by rw [hm, p1]) ?_
    rw [p2]
    have hc : x / 2 ^ 63 = 0 ∨ x / 2 ^ 63 = 1 := by omega
    unfold flip Go.Fl.abs
    rcases hc with hc | hc
    · rw [hc]; simp; try omega
    · rw [hc]; simp; try omega
set_option maxHeartbeats 2000000 in
theorem t76 (x : Nat) (w : World) : Calls Try.prog 76 #[.float .f64 x] w fun e w' => e = .returned (.float .f64 (if x / 2 ^ 63 % 2 == 1 then 4607182418800017408 else 13830554455654793216)) ∧ w' = w := by
  obtain ⟨b, hs⟩ : ∃ b, (x / 2 ^ 63 % 2 == 1) = b := ⟨_, rfl⟩
  have HS : Hid (∀ w, Calls Try.prog 79 #[.float .f64 x] w (BR b w)) := fun w => by rw [← hs]; exact t79 x w
  rw [hs]
  clear hs
  cases b
  all_goals
    go_enter Try.func76, Try.ntmps76
    go_wp2_with (go_at_call 79; (with_reducible refine (HS.out _).mono ?_); rintro e w1 ⟨rfl, hw⟩; subst w1)
    go_ret
    exact ⟨rfl, rfl⟩
set_option maxHeartbeats 2000000 in
theorem t66 (x : Nat) (w : World) : Calls Try.prog 66 #[.float .f64 x] w fun e w' => e = .returned (.float .f64 (flip x)) ∧ w' = w := by
  have H81 : Hid (∀ w, Calls Try.prog 76 #[.float .f64 x] w fun e w' => e = .returned (.float .f64 (if x / 2 ^ 63 % 2 == 1 then 4607182418800017408 else 13830554455654793216)) ∧ w' = w) := fun w => t76 x w
  unfold flip
  cases hs : (x / 2 ^ 63 % 2 == 1)
  all_goals
    rw [hs] at H81
    simp only [if_true, Bool.false_eq_true, if_false] at H81 ⊢
    clear hs
    go_enter Try.func66, Try.ntmps66
    go_wp2_with (first
      | (go_at_call 76; (with_reducible refine (H81.out _).mono ?_); rintro e w1 ⟨rfl, hw⟩; subst w1)
      | (go_at_call 75; (with_reducible refine (t75a _ _).mono ?_); rintro e w1 ⟨rfl, hw⟩; subst w1)
      | (go_at_call 75; (with_reducible refine (t75b _ _).mono ?_); rintro e w1 ⟨rfl, hw⟩; subst w1))
    go_ret
    exact ⟨rfl, rfl⟩
theorem two_new (w : World) (a b : Nat) (o : Obj) (k : Nat) : (((w.alloc (.cells #[.float .f64 a, .float .f64 b] 53)).alloc o).drewN k).cell? ⟨w.heap.size, 0, none⟩ = some (.float .f64 a) ∧ (((w.alloc (.cells #[.float .f64 a, .float .f64 b] 53)).alloc o).drewN k).cell? ⟨w.heap.size, 1, none⟩ = some (.float .f64 b) := by
  constructor
  · exact cell_up (World.cell?_alloc_at _ _ _ _ rfl) ((Up.alloc _ _).trans (Up.drewN _ k))
  · exact cell_up (World.cell?_alloc_at _ _ _ _ rfl) ((Up.alloc _ _).trans (Up.drewN _ k))
set_option maxHeartbeats 2000000 in
set_option maxRecDepth 20000 in
theorem t48 (a b : Nat) (w : World) : Calls Try.prog 48 #[.agg #[.float .f64 a, .float .f64 b]] w (SR w (ab a) (ab (flip b))) := by
  obtain ⟨c1, c2⟩ := two_new w a b (.cells #[.float .f64 0, .float .f64 0] 53) 1
  have d1 : (((w.alloc (.cells #[.float .f64 a, .float .f64 b] 53)).alloc (.cells #[.float .f64 0, .float .f64 0] 53)).cell? ⟨w.heap.size, 0, none⟩) = some (.float .f64 a) := c1
  have d2 : (((w.alloc (.cells #[.float .f64 a, .float .f64 b] 53)).alloc (.cells #[.float .f64 0, .float .f64 0] 53)).cell? ⟨w.heap.size, 1, none⟩) = some (.float .f64 b) := c2
  clear c1 c2
  go_enter Try.func48, Try.ntmps48
  go_wp2_with fail
  go_region_with (go_at_call 66; (with_reducible refine (t66 _ _).mono ?_); rintro e w' ⟨rfl, hw⟩; subst w')
  all_goals (try go_wp2)
  all_goals
    refine bodyPost_ret (results_cell_row rfl _ _ (w.heap.size + 1) 53 #[.float .f64 a, .float .f64 (flip b)] (0, 0) _ rfl ?_ Try.underlying53 rfl (by kernel_rfl)) rfl (SR.mk rfl rfl (((Up.alloc _ _).trans (Up.alloc _ _)).trans (Up.drewN _ 1)))
    exact second _ _ _
end Go.Proofs.Ytlgejebgkkmacaa
