/- Dwell: rows that are taken; steps one behind the other. -/
import Derived.Test.YtflngnnoibkkoaaGreatEb
import Derived.Test.YtflngnnoibkkoaaGreatBb
import Derived.OrdersHeld
import Derived.StillTail
import Derived.Test.YtflngnnoibkkoaaGreatS
import Derived.Deep.RegionHeld3
import Derived.Deep.CutRange
import Derived.Sort.Grow
import Derived.Deep.AppendLies
import Derived.Maps.AppendAt
import Derived.Deep.QuietTactic
import Derived.BigQuiet
import Derived.Laws.IdiomCopy
namespace Go.Proofs.YtflngnnoibkkoaaGreat
open Go.ChangeShapes Go.WideShapes Go.ChangeAt Go.RowKit Go.Fl Ieee
set_option maxRecDepth 200000
set_option maxHeartbeats 8000000
attribute [local go_sem] run_store_float call34 call33 run_neg fold_eq fold_ne fold_lt fold_gt abs_eq

theorem st_zero {c v r : Nat} {E R cd can way gu tr nth : Int} {ti no : Nat} (h : stE c v r E R cd can way gu tr nth ti no = 0) : checkF (ab c) (ab v) (ab r) E R = 0 ∧ codeE cd = 0 ∧ ((codeL cd).length : Int) ≤ E ∧ canB R can = true ∧ levB way gu tr nth = true ∧ fin (ab ti) = true ∧ fin (ab no) = true ∧ ltF (ab ti) (ab 0) = false ∧ ltF (ab no) (ab 0) = false ∧ manyB E R (codeL cd).length = false := by
  unfold stE at h
  by_cases h0 : checkF (ab c) (ab v) (ab r) E R = 0
  · rw [if_neg (by simpa using h0)] at h
    by_cases h1 : codeE cd = 0
    · rw [if_neg (by simpa using h1)] at h
      by_cases h2 : (decide (E < ((codeL cd).length : Int)) || !canB R can || !levB way gu tr nth) = true
      · rw [if_pos h2] at h; cases h
      rw [if_neg h2] at h
      by_cases h3 : (fin (ab ti) && fin (ab no)) = false
      · rw [if_pos h3] at h; cases h
      rw [if_neg h3] at h
      by_cases h4 : (ltF (ab ti) (ab 0) || ltF (ab no) (ab 0)) = true
      · rw [if_pos h4] at h; cases h
      rw [if_neg h4] at h
      by_cases h5 : manyB E R (codeL cd).length = true
      · rw [if_pos h5] at h; cases h
      simp only [Bool.or_eq_true, decide_eq_true_eq, Bool.not_eq_true', not_or, Bool.not_eq_true, Bool.and_eq_false_iff, Bool.not_eq_false] at h2 h3 h4 h5
      exact ⟨h0, h1, by omega, h2.1.2, h2.2, h3.1, h3.2, h4.1, h4.2, h5⟩
    · rw [if_pos h1] at h; exact absurd h h1
  · rw [if_pos h0] at h; exact absurd h h0
/-- The pulse of a setup whose rows these are. -/
def TkR (w : World) (cd : Int) (e : Ending) (w' : World) : Prop := ∃ p cp d, e = .returned (.tuple #[.slice p (codeL cd).length cp, .int .i64 0]) ∧ Hid (CRow w.heap.size w' (.slice p (codeL cd).length cp) d) ∧ Hid (Up w w') ∧ Hid (d.map ab2 = codeL cd)
theorem t30 {c v r : Nat} {E R cd win can way gu tr nth : Int} {ti no : Nat} {w : World} {Rb n m cc : Nat} {P : Nat → Option Addr} {C : Nat → Nat} (hz : stE c v r E R cd can way gu tr nth ti no = 0) (hn : (n : Int) = R) (hm : (m : Int) = E) (h : TB w Rb n P (fun _ => m) C) : Calls Tryz.prog 30 #[.agg #[.float .f64 c, .float .f64 v, .float .f64 r, .int .i64 E, .int .i64 R, .int .i64 cd, .int .i8 win, .int .i64 can, .int .i8 way, .int .i64 gu, .int .i64 tr, .int .i64 nth, .float .f64 ti, .float .f64 no], .slice (some ⟨Rb, 0, none⟩) n cc] w (TkR w cd) := by
  obtain ⟨e1, e2, r1, r2, -⟩ := check_bounds (st_zero hz).1
  obtain ⟨nL, hnL⟩ : ∃ nL, (codeL cd).length = nL := ⟨_, rfl⟩
  have hfew := code_few cd
  have C20 : Hid (∀ W, Calls Tryz.prog 20 #[.agg #[.float .f64 c, .float .f64 v, .float .f64 r, .int .i64 E, .int .i64 R, .int .i64 cd, .int .i8 win, .int .i64 can, .int .i8 way, .int .i64 gu, .int .i64 tr, .int .i64 nth, .float .f64 ti, .float .f64 no]] W fun e w' => ∃ p cp d, e = .returned (.tuple #[.slice p nL cp, .int .i64 0]) ∧ Hid (CRow W.heap.size w' (.slice p nL cp) d) ∧ Hid (Up W w') ∧ Hid (d.map ab2 = codeL cd)) := fun W => (t20 c v r E R cd win can way gu tr nth ti no W).mono fun e w' hR => by
    rcases hR with ⟨q, _⟩ | ⟨_, q⟩
    · exact absurd hz q
    · rwa [hnL] at q
  have HT : Hid (TB w Rb n P (fun _ => m) C) := h
  have HS0 : Hid (SB (w.alloc (.cells #[.float .f64 c, .float .f64 v, .float .f64 r, .int .i64 E, .int .i64 R, .int .i64 cd, .int .i8 win, .int .i64 can, .int .i8 way, .int .i64 gu, .int .i64 tr, .int .i64 nth, .float .f64 ti, .float .f64 no] 27)) w.heap.size c v r E R cd win can way gu tr nth ti no) := SB.new w c v r E R cd win can way gu tr nth ti no
  have HS00 := HS0.out
  obtain ⟨s0, s1, s2, s3, s4, s5, s6, s7, s8, s9, s10, s11, s12, s13⟩ := HS00
  unfold TkR
  rw [hnL] at hfew ⊢
  clear h hz hnL
  subst hn hm
  go_enter Tryz.func30, Tryz.ntmps30
  go_wp2_with (go_at_call 20; (with_reducible refine (C20.out _).mono ?_); rintro e w1 ⟨p, cp, d, rfl, HV, HU1, HD⟩; (have HS1 := SB.up HS0.out HU1.out); clear s0 s1 s2 s3 s4 s5 s6 s7 s8 s9 s10 s11 s12 s13; (obtain ⟨s0, s1, s2, s3, s4, s5, s6, s7, s8, s9, s10, s11, s12, s13⟩ := HS1))
  have HU : Hid (Up w w1) := (Up.alloc _ _).trans HU1.out
  have HT1 : Hid (TB w1 Rb n P (fun _ => m) C) := HT.out.up HU.out
  clear HT HS0 C20 s0 s1 s2 s4 s5 s6 s7 s8 s9 s10 s11 s12 s13
  go_loopw [9, 26] (fun _ vi wr => ∃ i : Nat, i ≤ n ∧ vi = .int .i64 i ∧ wr = w1) (fun _ vi _ => n - (intOf vi).toNat)
  case atStart => exact ⟨0, Nat.zero_le _, rfl, rfl⟩
  case round =>
    obtain ⟨i, hi, rfl, rfl⟩ := hrel
    have y0 : (0 : Int) ≤ (i : Int) := by omega
    by_cases hin : i < n
    · have b0 : (i : Int) < (n : Int) := by omega
      have hc := HT1.out i hin
      simp only at hc
      go_wp2
      go_roundw
      case rel => exact ⟨i + 1, by omega, by go_num, by trivial⟩
      case measure => simp [intOf]; omega
    · have b0 : ¬ (i : Int) < (n : Int) := by omega
      go_wp2
      go_ret2
      exact ⟨p, cp, rfl, d, CRow.down HV.out (Up.alloc _ _).size, HU, HD⟩
theorem t31 {w : World} {wb sg n cc : Nat} (G : Nat → FuncId) (B : Nat → Array Value) (I : Nat → World → Prop) (hn : n ≤ 100) (hQ : ∀ i, i < n → ∀ W, I i W → W.cell? ⟨sg, i, none⟩ = some (.func (.func (G i)) #[] (B i))) (eg : ∀ i, i < n → ∀ args w, (callFunc (G i) args).run Tryz.prog w = .ok (.enter (G i) args) w)
    (hat : ∀ i, i < n → ∀ W, I i W → Calls Tryz.prog (G i) (#[.pointer (some ⟨wb, 0, none⟩)] ++ B i) W (fun e w' => e = .returned (.int .i64 0) ∧ Hid (I (i + 1) w'))) (h0 : I 0 w) : Calls Tryz.prog 31 #[.pointer (some ⟨wb, 0, none⟩), .slice (some ⟨sg, 0, none⟩) n cc] w (fun e w' => e = .returned (.int .i64 0) ∧ Hid (I n w')) := by
  have HQ : Hid (∀ i, i < n → ∀ W, I i W → W.cell? ⟨sg, i, none⟩ = some (.func (.func (G i)) #[] (B i))) := hQ
  have HE : Hid (∀ i, i < n → ∀ args w, (callFunc (G i) args).run Tryz.prog w = .ok (.enter (G i) args) w) := eg
  have HA : Hid (∀ i, i < n → ∀ W, I i W → Calls Tryz.prog (G i) (#[.pointer (some ⟨wb, 0, none⟩)] ++ B i) W (fun e w' => e = .returned (.int .i64 0) ∧ Hid (I (i + 1) w'))) := hat
  have H0 : Hid (I 0 w) := h0
  clear hQ eg hat h0
  go_enter Tryz.func31, Tryz.ntmps31
  go_wp2
  go_loopw [6, 7, 10] (fun _ _ vi wr => ∃ i : Nat, i ≤ n ∧ vi = .int .i64 i ∧ Hid (I i wr)) (fun _ _ vi _ => n - (intOf vi).toNat)
  case atStart => exact ⟨0, Nat.zero_le _, rfl, H0⟩
  case round =>
    obtain ⟨i, hi, rfl, HI⟩ := hrel
    rename World => wr
    have y0 : (0 : Int) ≤ (i : Int) := by omega
    by_cases hin : i < n
    · have b0 : (i : Int) < (n : Int) := by omega
      have c1 := HQ.out i hin wr HI.out
      have e1 := HE.out i hin
      have HC : Hid (Calls Tryz.prog (G i) (#[.pointer (some ⟨wb, 0, none⟩)] ++ B i) wr (fun e w' => e = .returned (.int .i64 0) ∧ Hid (I (i + 1) w'))) := HA.out i hin wr HI.out
      obtain ⟨g, hg⟩ : ∃ g, G i = g := ⟨_, rfl⟩
      obtain ⟨y, hy⟩ : ∃ y, B i = y := ⟨_, rfl⟩
      rw [hg, hy] at c1 HC
      rw [hg] at e1
      clear hg hy
      go_wp2_with fail
      (with_reducible refine HC.out.mono ?_)
      rintro e w' ⟨rfl, HI2⟩
      go_wp2
      go_roundw
      case rel => exact ⟨i + 1, by omega, by go_num, HI2⟩
      case measure => simp [intOf]; omega
    · have b0 : ¬ (i : Int) < (n : Int) := by omega
      obtain rfl : i = n := by omega
      go_wp2
      go_ret
      exact ⟨rfl, HI⟩
end Go.Proofs.YtflngnnoibkkoaaGreat
/- A region that draws its order: what reads is taken first; one call; what writes comes behind all of it. No program. -/
namespace Go.Proofs.YtflngnnoibkkoaaGreat
open Go
set_option maxRecDepth 200000
set_option maxHeartbeats 8000000

/-- As long as number n has not come up, S0 holds. -/
def Early (n : Nat) (S0 : World → Prop) (listed : Array Bool) (w : World) : Prop := listed.getD n true = false → S0 w
/-- Whatever order is picked; 'Early' holds behind each operation. -/
def anyE (P : Program) (ops : Array Oper) (Q : Exit → Act → World → Prop) (n : Nat) (S0 : World → Prop) : Nat → Array Bool → Act → World → Prop
  | 0, listed, a, w => Region.ready .any ops listed = [] ∧ Q .normal a w
  | f + 1, listed, a, w =>
    (Region.ready .any ops listed = [] → Q .normal a w) ∧
    ∀ i ∈ Region.ready .any ops listed, wpOp P ops Q i (fun a' w' => Early n S0 (listed.setIfInBounds i true) w' ∧ anyE P ops Q n S0 f (listed.setIfInBounds i true) a' w') a w
theorem anyE_any {P : Program} {ops : Array Oper} {Q : Exit → Act → World → Prop} {n : Nat} {S0 : World → Prop} : ∀ (f : Nat) (listed : Array Bool) (a : Act) (w : World), anyE P ops Q n S0 f listed a w → wpAny P .any ops Q f listed a w
  | 0, _, _, _, h => h
  | f + 1, _, _, _, h => ⟨h.1, fun i hi => wpOp_mono (fun a' w' k => anyE_any f _ a' w' k.2) (h.2 i hi)⟩
theorem late_set {n : Nat} {listed : Array Bool} (h : listed.getD n true = true) (i : Nat) : (listed.setIfInBounds i true).getD n true = true := by
  by_cases hi : i = n
  · subst hi
    rcases Nat.lt_or_ge i listed.size with k | k
    · simp [k]
    · simp [k]
  · rw [getD_set_ne true hi]; exact h
theorem any_anyE {P : Program} {ops : Array Oper} {Q : Exit → Act → World → Prop} {n : Nat} {S0 : World → Prop} : ∀ (f : Nat) (listed : Array Bool) (a : Act) (w : World), listed.getD n true = true → wpAny P .any ops Q f listed a w → anyE P ops Q n S0 f listed a w
  | 0, _, _, _, _, h => h
  | f + 1, listed, _, _, hl, h => ⟨h.1, fun i hi => wpOp_mono (fun a' w' k => ⟨fun hn => absurd (late_set hl i) (by rw [hn]; decide), any_anyE f _ a' w' (late_set hl i) k⟩) (h.2 i hi)⟩
theorem wpOp_call {P : Program} {ops : Array Oper} {Q : Exit → Act → World → Prop} {K : Act → World → Prop} {a : Act} {w : World} {m f : Nat} {o : Oper} {args : Array Operand} {tys : Array TypeId} (ho : ops[m]? = some o) (hg : o.guard = none) (hop : o.op = .call { callee := .value (.func f), args := args, argTypes := tys }) (vs : Array Value) (hvs : args.map a.eval = vs) (hen : (callFunc f vs).run P w = .ok (.enter f vs) w)
    (h : Calls P f vs w (fun e w' => ∃ v, e = .returned v ∧ K (a.put o.dst v) w')) : wpOp P ops Q m K a w := by
  unfold wpOp
  have hw : Region.wanted o (yielded ops a.tmps) = true := by simp [Region.wanted, hg]
  simp only [ho, hw, if_true]
  left
  unfold Oper.wp
  simp [execOp, hop, resolve, invoke, Act.eval, Oper.upon, Deferred.ofValue, hvs, hen]
  refine h.mono ?_
  rintro e w' ⟨v, rfl, hk⟩
  exact hk
end Go.Proofs.YtflngnnoibkkoaaGreat
/- A region that draws its order, in an order of one's own: what reads first, calls where nothing else may come up, what writes behind all that reads. No program. -/
namespace Go.Proofs.YtflngnnoibkkoaaGreat
open Go
set_option maxRecDepth 200000
set_option maxHeartbeats 8000000

/-- What has come up has all that it waits for behind it. -/
def Cl (ops : Array Oper) (listed : Array Bool) : Prop := ∀ j oj, ops[j]? = some oj → listed.getD j false = true → ∀ e ∈ oj.after, Region.binds .any e = true → listed.getD e.on false = true
theorem Cl.set {ops : Array Oper} {listed : Array Bool} {i : Nat} (h : Cl ops listed) (hi : i ∈ Region.ready .any ops listed) : Cl ops (listed.setIfInBounds i true) := by
  obtain ⟨_, oi, hoi, hall⟩ := mem_ready.1 hi
  intro j oj hj hl e he hb
  by_cases hij : i = j
  · subst hij
    obtain rfl : oj = oi := Option.some.inj (hj.symm.trans hoi)
    exact getD_set_true (hall e he hb)
  · rw [getD_set_ne false hij] at hl
    exact getD_set_true (h j oj hj hl e he hb)
/-- j waits for i, by way of others. -/
def reachB (ops : Array Oper) : Nat → Nat → Nat → Bool
  | 0, j, i => Region.waitsFor .any ops j i
  | f + 1, j, i => Region.waitsFor .any ops j i || (List.range ops.size).any fun k => Region.waitsFor .any ops j k && reachB ops f k i
theorem reach_listed {ops : Array Oper} {listed : Array Bool} (h : Cl ops listed) : ∀ (f j i : Nat), reachB ops f j i = true → listed.getD j false = true → listed.getD i false = true := by
  have one : ∀ j i, Region.waitsFor .any ops j i = true → listed.getD j false = true → listed.getD i false = true := fun j i hw hl => by
    obtain ⟨oj, hoj, e, he, hb, hon⟩ := Region.waitsFor_spec hw
    rw [← hon]
    exact h j oj hoj hl e he hb
  intro f
  induction f with
  | zero => exact one
  | succ f ih =>
    intro j i hr hl
    simp only [reachB, Bool.or_eq_true, List.any_eq_true, List.mem_range, Bool.and_eq_true] at hr
    rcases hr with hr | ⟨k, _, hk1, hk2⟩
    · exact one j i hr hl
    · exact ih k i hk2 (one j k hk1 hl)
theorem reach_ready {ops : Array Oper} {listed : Array Bool} (h : Cl ops listed) {f n i : Nat} (hr : reachB ops f n i = true) (hn : n ∈ Region.ready .any ops listed) : listed.getD i false = true := by
  obtain ⟨_, on, hon, hall⟩ := mem_ready.1 hn
  have one : ∀ i, Region.waitsFor .any ops n i = true → listed.getD i false = true := fun i hw => by
    obtain ⟨o2, ho2, e, he, hb, hoe⟩ := Region.waitsFor_spec hw
    obtain rfl : o2 = on := Option.some.inj (ho2.symm.trans hon)
    rw [← hoe]; exact hall e he hb
  cases f with
  | zero => exact one i hr
  | succ f =>
    simp only [reachB, Bool.or_eq_true, List.any_eq_true, List.mem_range, Bool.and_eq_true] at hr
    rcases hr with hr | ⟨k, _, hk1, hk2⟩
    · exact one i hr
    · exact reach_listed h f k i hk2 (one k hk1)
/-- What reads may be taken first: S0 holds as long as number n has not come up; or it looks at no world. -/
theorem anyC_first {P : Program} {ops : Array Oper} {Q : Exit → Act → World → Prop} {n : Nat} {S0 S1 : World → Prop} {i fu : Nat} {oi : Oper} {v : Value} (hin : i ≠ n) (hk : (reachB ops fu n i = true ∧ S1 = S0) ∨ (∀ w, S1 w)) (hi : ops[i]? = some oi) (hsel : ∀ (j : Nat) (o : Oper) cs b, ops[j]? = some o → o.op ≠ .select cs b)
    (hQ : ∀ c a w, Q (.panic c) (a.put oi.dst v) w → Q (.panic c) a w) : ∀ (f : Nat) (listed : Array Bool) (a : Act) (w : World), n < listed.size → Cl ops listed →
    (∀ j oj, ops[j]? = some oj → j ≠ i → listed.getD j true = false → (∀ e ∈ oj.after, Region.binds .any e = true → e.on ≠ i) → oi.apart ops oj = true) →
    i ∈ Region.ready .any ops listed → YieldsIf P ops S1 oi v a → Early n S0 listed w → S1 w →
    anyE P ops Q n S0 f (listed.setIfInBounds i true) (a.put oi.dst v) w → anyE P ops Q n S0 (f + 1) listed a w := by
  have hset : ∀ (listed : Array Bool) (w : World), Early n S0 listed w → Early n S0 (listed.setIfInBounds i true) w := fun listed w h hn => h (by rw [getD_set_ne true hin] at hn; exact hn)
  intro f
  induction f with
  | zero =>
    intro listed a w _ _ _ hr hy hE hS H
    refine ⟨fun h => (by rw [h] at hr; cases hr), fun j hj => ?_⟩
    by_cases hji : j = i
    · subst hji
      exact hy.wpOp hi hS ⟨hset _ _ hE, H⟩
    · have k := ready_mono hj hji
      rw [H.1] at k
      cases k
  | succ f ih =>
    intro listed a w hlt hC hfree hr hy hE hS H
    have hun := (mem_ready.1 hr).1
    refine ⟨fun h => (by rw [h] at hr; cases hr), fun j hj => ?_⟩
    by_cases hji : j = i
    · subst hji
      exact hy.wpOp hi hS ⟨hset _ _ hE, H⟩
    · obtain ⟨hjun, oj, hoj, hall⟩ := mem_ready.1 hj
      have hnot : ∀ e ∈ oj.after, Region.binds .any e = true → e.on ≠ i := fun e he hb heq => by
        have k := hall e he hb
        rw [heq, getD_both hun] at k
        cases k
      have hp := wpOp_putIf hoj (hfree j oj hoj hji hjun hnot) (fun cs b => hsel i oi cs b hi) (fun cs b => hsel j oj cs b hoj) hQ hy (H.2 j (ready_mono hj hji))
      refine wpOp_mono (fun a' w' k => ?_) hp
      obtain ⟨k1, k2, k3⟩ := k
      have hE' : Early n S0 (listed.setIfInBounds j true) w' := fun hn => k2 (by
        by_cases hjn : j = n
        · subst hjn
          rcases Nat.lt_or_ge j listed.size with q | q
          · simp [q] at hn
          · simp [q] at hn
        · rw [getD_set_ne true hjn] at hn ⊢
          rw [getD_set_ne true hin]; exact hn)
      have hS' : S1 w' := by
        rcases hk with ⟨hre, rfl⟩ | hk
        · have hjn : j ≠ n := by
            rintro rfl
            have := reach_ready hC hre hj
            rw [getD_both hun] at this
            cases this
          have hnun : listed.getD n true = false := by
            cases hq : listed.getD n true with
            | false => rfl
            | true =>
              exfalso
              have hq2 : listed.getD n false = true := by simp [hlt] at hq ⊢; exact hq
              have := reach_listed hC _ _ _ hre hq2
              rw [getD_both hun] at this
              cases this
          exact hE' (by rw [getD_set_ne true hjn]; exact hnun)
        · exact hk w'
      rw [Array.setIfInBounds_comm _ _ (Ne.symm hji)] at k3
      refine ⟨hE', ih _ _ _ (by simpa using hlt) (hC.set hj) (fun k ok hk hki hu hno => ?_) (ready_mono hr (Ne.symm hji)) k1 hE' hS' k3⟩
      refine hfree k ok hk hki ?_ hno
      by_cases hjk : j = k
      · subst hjk; exact hjun
      · rw [getD_set_ne true hjk] at hu; exact hu
/-- How an operation comes up: some false: it reads; some true: it is called, where nothing else may come up; none: it looks at no world. -/
def ordB (ops : Array Oper) (g n : Nat) : List (Nat × Option Bool) → Array Bool → Bool
  | [], listed => Region.seqB .any ops g n listed
  | (i, c) :: l, listed => decide (i ≠ n) && (match c with
      | some true => decide (Region.ready .any ops listed = [i])
      | some false => (Region.ready .any ops listed).contains i && Region.free .any ops listed i && reachB ops 6 n i
      | none => (Region.ready .any ops listed).contains i && Region.free .any ops listed i) && ordB ops g n l (listed.setIfInBounds i true)
def OrdW (P : Program) (ops : Array Oper) (Q : Exit → Act → World → Prop) (S0 : World → Prop) (K : Act → World → Prop) : List (Nat × Option Bool) → Act → World → Prop
  | [], a, w => K a w
  | (i, some false) :: l, a, w => ∃ o v d, ops[i]? = some o ∧ o.dst = d ∧ YieldsIf P ops S0 o v a ∧ OrdW P ops Q S0 K l (a.put d v) w
  | (i, none) :: l, a, w => ∃ o v d, ops[i]? = some o ∧ o.dst = d ∧ YieldsIf P ops (fun _ => True) o v a ∧ OrdW P ops Q S0 K l (a.put d v) w
  | (i, some true) :: l, a, w => wpOp P ops Q i (fun a' w' => S0 w' ∧ OrdW P ops Q S0 K l a' w') a w
theorem anyC_ord {P : Program} {ops : Array Oper} {Q : Exit → Act → World → Prop} {n g : Nat} {S0 : World → Prop} {K : Act → World → Prop} (hsel : Region.noSelect ops = true) (hQ : ∀ c a d v w, Q (.panic c) (a.put d v) w → Q (.panic c) a w)
    (hK : ∀ listed a w, Region.seqB .any ops g n listed = true → K a w → anyE P ops Q n S0 g listed a w) : ∀ (l : List (Nat × Option Bool)) (listed : Array Bool) (a : Act) (w : World), S0 w → n < listed.size → Cl ops listed → ordB ops g n l listed = true → OrdW P ops Q S0 K l a w → anyE P ops Q n S0 (l.length + g) listed a w
  | [], listed, a, w, _, _, _, hB, h => by
    rw [List.length_nil, Nat.zero_add]
    exact hK listed a w hB h
  | (i, some false) :: l, listed, a, w, hS, hz, hI, hB, h => by
    simp only [ordB, Bool.and_eq_true, decide_eq_true_eq] at hB
    obtain ⟨⟨hin, ⟨hr, hf⟩, hre⟩, hB'⟩ := hB
    obtain ⟨o, v, d, h0, rfl, hy, hrest⟩ := h
    have hr' : i ∈ Region.ready .any ops listed := by simpa using hr
    rw [show ((i, some false) :: l).length + g = (l.length + g) + 1 by simp; omega]
    refine anyC_first hin (Or.inl ⟨hre, rfl⟩) h0 (Region.noSelect_spec hsel) (fun c a w => hQ c a _ _ w) _ listed a w hz hI (Region.free_spec h0 hf) hr' hy (fun _ => hS) hS ?_
    exact anyC_ord hsel hQ hK l _ _ _ hS (by simpa using hz) (hI.set hr') hB' hrest
  | (i, none) :: l, listed, a, w, hS, hz, hI, hB, h => by
    simp only [ordB, Bool.and_eq_true, decide_eq_true_eq] at hB
    obtain ⟨⟨hin, hr, hf⟩, hB'⟩ := hB
    obtain ⟨o, v, d, h0, rfl, hy, hrest⟩ := h
    have hr' : i ∈ Region.ready .any ops listed := by simpa using hr
    rw [show ((i, none) :: l).length + g = (l.length + g) + 1 by simp; omega]
    refine anyC_first (fu := 0) hin (Or.inr fun _ => trivial) h0 (Region.noSelect_spec hsel) (fun c a w => hQ c a _ _ w) _ listed a w hz hI (Region.free_spec h0 hf) hr' hy (fun _ => hS) trivial ?_
    exact anyC_ord hsel hQ hK l _ _ _ hS (by simpa using hz) (hI.set hr') hB' hrest
  | (i, some true) :: l, listed, a, w, hS, hz, hI, hB, h => by
    simp only [ordB, Bool.and_eq_true, decide_eq_true_eq] at hB
    obtain ⟨⟨hin, hr⟩, hB'⟩ := hB
    have hr' : i ∈ Region.ready .any ops listed := by rw [hr]; simp
    rw [show ((i, some true) :: l).length + g = (l.length + g) + 1 by simp; omega]
    refine ⟨fun h0 => (by rw [hr] at h0; cases h0), fun j hj => ?_⟩
    rw [hr] at hj
    obtain rfl : j = i := by simpa using hj
    exact wpOp_mono (fun a' w' k => ⟨fun _ => k.1, anyC_ord hsel hQ hK l _ _ _ k.1 (by simpa using hz) (hI.set hr') hB' k.2⟩) h
def regB (ops : Array Oper) (n g : Nat) (l : List (Nat × Option Bool)) : Bool := Region.noSelect ops && ordB ops g n l (Array.replicate ops.size false)
theorem wp_region_ord {P : Program} {id : Nat} {Q : Exit → Act → World → Prop} {a : Act} {w : World} {l : List Oper} (n : Nat) (ord : List (Nat × Option Bool)) (S0 : World → Prop) (hm : P.follows .mixedOrders = true) (hlen : n < l.length) (hord : ord.length = n) (hB : regB l.toArray n (l.length - n) ord = true) (hQ : ∀ c a d v w, Q (.panic c) (a.put d v) w → Q (.panic c) a w)
    (hS : S0 w.drew) (h : OrdW P l.toArray Q S0 (fun a' w' => wpList P l.toArray Q (l.drop n) a' w') ord a w.drew) : (Code.region id l.toArray true).wp P Q a w := by
  simp only [regB, Bool.and_eq_true] at hB
  obtain ⟨hs, hlex⟩ := hB
  refine wp_region_any hm ?_
  have H := anyC_ord (P := P) (ops := l.toArray) (Q := Q) (n := n) (g := l.length - n) (S0 := S0) (K := fun a' w' => wpList P l.toArray Q (l.drop n) a' w') hs hQ (fun listed a2 w2 hq hk => by
    obtain ⟨g, hg⟩ : ∃ g, l.length - n = g + 1 := ⟨l.length - n - 1, by omega⟩
    have hgl : (l.drop n).length = g + 1 := by simp; omega
    rw [hg] at hq ⊢
    have hall := wpAny_of_seq (md := .any) (Q' := Q) (l.drop n) n listed a2 w2 (fun j => by simp [List.getElem?_drop]) (by rw [hgl]; exact hq) hk
    rw [hgl] at hall
    simp only [Region.seqB, Bool.and_eq_true, decide_eq_true_eq] at hq
    refine ⟨hall.1, fun j hj => ?_⟩
    have hj2 := hj
    rw [hq.1] at hj2
    obtain rfl : j = n := by simpa using hj2
    have hlate : (listed.setIfInBounds j true).getD j true = true := by
      rcases Nat.lt_or_ge j listed.size with q | q
      · simp [q]
      · simp [q]
    exact wpOp_mono (fun a3 w3 q => ⟨fun hn => absurd hlate (by rw [hn]; decide), any_anyE _ _ _ _ hlate q⟩) (hall.2 _ hj)) ord (Array.replicate l.toArray.size false) a w.drew hS (by simpa using hlen) (fun j oj _ hl => (by rw [getD_replicate_false] at hl; cases hl)) hlex h
  have := anyE_any _ _ _ _ H
  rw [hord, show n + (l.length - n) = l.toArray.size by simp; omega] at this
  exact this
end Go.Proofs.YtflngnnoibkkoaaGreat
/- Rows beside each other; drawn regions. -/
namespace Go.Proofs.YtflngnnoibkkoaaGreat
open Go.ChangeShapes Go.WideShapes Go.ChangeAt Go.RowKit Go.Fl Go.Sort
set_option maxRecDepth 200000
set_option maxHeartbeats 8000000

/-- A call whose guard is met, in a region whose order is drawn. -/
theorem wpOp_callG {P : Program} {ops : Array Oper} {Q : Exit → Act → World → Prop} {K : Act → World → Prop} {a : Act} {w : World} {m f : Nat} {o : Oper} {args : Array Operand} {tys : Array TypeId} (d : Option Tmp) (ho : ops[m]? = some o) (hd : o.dst = d) (hw : Region.wanted o (yielded ops a.tmps) = true) (hop : o.op = .call { callee := .value (.func f), args := args, argTypes := tys }) (vs : Array Value) (hvs : args.map a.eval = vs) (hen : (callFunc f vs).run P w = .ok (.enter f vs) w)
    (h : Calls P f vs w (fun e w' => ∃ v, e = .returned v ∧ K (a.put d v) w')) : wpOp P ops Q m K a w := by
  subst hd
  unfold wpOp
  simp only [ho, hw, if_true]
  left
  unfold Oper.wp
  simp [execOp, hop, resolve, invoke, Act.eval, Oper.upon, Deferred.ofValue, hvs, hen]
  refine h.mono ?_
  rintro e w' ⟨v, rfl, hk⟩
  exact hk
/-- A region in an order of one's own, shut: what is behind is not looked into. -/
structure OrdS (P : Program) (ops : Array Oper) (Q : Exit → Act → World → Prop) (S0 : World → Prop) (K : Act → World → Prop) (l : List (Nat × Option Bool)) (a : Act) (w : World) : Prop where
  out : OrdW P ops Q S0 K l a w
theorem OrdS.reads {P : Program} {ops : Array Oper} {Q : Exit → Act → World → Prop} {S0 : World → Prop} {K : Act → World → Prop} {i : Nat} {l : List (Nat × Option Bool)} {a : Act} {w : World} (v : Value) (d : Option Tmp) (o : Oper) (h0 : ops[i]? = some o) (h1 : o.dst = d) (h2 : YieldsIf P ops S0 o v a) (h3 : OrdS P ops Q S0 K l (a.put d v) w) : OrdS P ops Q S0 K ((i, some false) :: l) a w := ⟨⟨o, v, d, h0, h1, h2, h3.out⟩⟩
theorem OrdS.looks {P : Program} {ops : Array Oper} {Q : Exit → Act → World → Prop} {S0 : World → Prop} {K : Act → World → Prop} {i : Nat} {l : List (Nat × Option Bool)} {a : Act} {w : World} (v : Value) (d : Option Tmp) (o : Oper) (h0 : ops[i]? = some o) (h1 : o.dst = d) (h2 : YieldsIf P ops (fun _ => True) o v a) (h3 : OrdS P ops Q S0 K l (a.put d v) w) : OrdS P ops Q S0 K ((i, none) :: l) a w := ⟨⟨o, v, d, h0, h1, h2, h3.out⟩⟩
theorem OrdS.does {P : Program} {ops : Array Oper} {Q : Exit → Act → World → Prop} {S0 : World → Prop} {K : Act → World → Prop} {i : Nat} {l : List (Nat × Option Bool)} {a : Act} {w : World} (h : wpOp P ops Q i (fun a' w' => S0 w' ∧ OrdS P ops Q S0 K l a' w') a w) : OrdS P ops Q S0 K ((i, some true) :: l) a w := ⟨wpOp_mono (fun _ _ k => ⟨k.1, k.2.out⟩) h⟩
theorem OrdS.ends {P : Program} {ops : Array Oper} {Q : Exit → Act → World → Prop} {S0 : World → Prop} {K : Act → World → Prop} {a : Act} {w : World} (h : K a w) : OrdS P ops Q S0 K [] a w := ⟨h⟩
theorem wp_region_shut {P : Program} {id : Nat} {Q : Exit → Act → World → Prop} {a : Act} {w : World} {l : List Oper} (n : Nat) (ord : List (Nat × Option Bool)) (S0 : World → Prop) (hm : P.follows .mixedOrders = true) (hlen : n < l.length) (hord : ord.length = n) (hB : regB l.toArray n (l.length - n) ord = true) (hQ : ∀ c a d v w, Q (.panic c) (a.put d v) w → Q (.panic c) a w)
    (hS : S0 w.drew) (h : OrdS P l.toArray Q S0 (fun a' w' => wpList P l.toArray Q (l.drop n) a' w') ord a w.drew) : (Code.region id l.toArray true).wp P Q a w := wp_region_ord n ord S0 hm hlen hord hB hQ hS h.out
end Go.Proofs.YtflngnnoibkkoaaGreat
/- Rows of one's own, whatever stands in them; Weights, the program's and the reference's. -/
namespace Go.Proofs.YtflngnnoibkkoaaGreat
open Go.ChangeShapes Go.WideShapes Go.ChangeAt Go.RowKit Go.Fl Ieee
set_option maxRecDepth 200000
set_option maxHeartbeats 8000000

theorem get_set' {α : Type} [Inhabited α] (R : List α) (i : Nat) (z : α) {j : Nat} (hj : j < R.length) : (R.set i z)[j]! = if j = i then z else R[j]! := by
  rw [getElem!_pos _ j (by simpa using hj), List.getElem_set, getElem!_pos R j hj]
  by_cases e : i = j
  · subst e; simp
  · rw [if_neg e, if_neg (by omega)]
theorem t134 (o : Int) (w : World) : Calls Tryz.prog 134 #[.int .i64 o] w fun e w' => e = .returned (.bool (decide (0 ≤ o) && decide (o ≤ 8))) ∧ w' = w := by
  go_enter Tryz.func134, Tryz.ntmps134
  go_wp2
  all_goals (go_ret; go_tidy; simp_all; try omega)
theorem t134k {o : Int} {b : Bool} (h : (decide (0 ≤ o) && decide (o ≤ 8)) = b) (w : World) : Calls Tryz.prog 134 #[.int .i64 o] w fun e w' => e = .returned (.bool b) ∧ w' = w := by
  rw [← h]; exact t134 o w
end Go.Proofs.YtflngnnoibkkoaaGreat
/- Cancel: what it refuses; the rows copied. -/
namespace Go.Proofs.YtflngnnoibkkoaaGreat
open Go.ChangeShapes Go.WideShapes Go.ChangeAt Go.RowKit Go.Fl Ieee
set_option maxRecDepth 200000
set_option maxHeartbeats 8000000
attribute [local go_sem] run_store_float run_store_c isSome_set call34 call33 run_neg fold_eq fold_ne fold_lt fold_gt abs_eq

/-- A table that may be cancelled: its rows' values. -/
structure TC (w : World) (R n c m : Nat) (P : Nat → Option Addr) (C : Nat → Nat) : Prop where
  tb : TB w R n P (fun _ => m) C
  n1 : 1 ≤ n
  nc : n ≤ c
  n2 : n ≤ 256
  m2 : m ≤ 16384
  nm : n * m ≤ 262144
theorem t135 {w : World} {R n c m : Nat} {P : Nat → Option Addr} {C : Nat → Nat} (h : TC w R n c m P C) : Calls Tryz.prog 135 #[.slice (some ⟨R, 0, none⟩) n c] w (BR false w) := by
  have H : Hid (TC w R n c m P C) := h
  have z1 : ¬ (256 : Int) < (n : Int) := by have := h.n2; omega
  have z2 : ¬ (16384 : Int) < (m : Int) := by have := h.m2; omega
  have z3 : (n : Int) ≤ 256 := by omega
  have z4 : (m : Int) ≤ 16384 := by omega
  clear h
  go_enter Tryz.func135, Tryz.ntmps135
  go_wp2
  go_loopw [3, 5, 11] (fun vc _ vi wr => ∃ (i x : Nat), i ≤ n ∧ vi = .int .i64 i ∧ vc = .int .i64 x ∧ Hid (x = i * m) ∧ wr = w) (fun _ _ vi _ => n - (intOf vi).toNat)
  case atStart => exact ⟨0, 0, by omega, rfl, rfl, (Nat.zero_mul m).symm, rfl⟩
  case round =>
    obtain ⟨i, x, hi, rfl, rfl, HX, rfl⟩ := hrel
    have hx1 : x ≤ 262144 := by rw [HX.out]; exact Nat.le_trans (Nat.mul_le_mul_right m hi) H.out.nm
    have z5 : (x : Int) ≤ 262144 := by omega
    by_cases hlt : i < n
    · have z6 : (i : Int) < (n : Int) := by omega
      have z7 : (0 : Int) ≤ (i : Int) := by omega
      have c0 := H.out.tb i hlt
      simp only at c0
      obtain ⟨y, hy⟩ : ∃ y, x + m = y := ⟨_, rfl⟩
      have hz : (x : Int) + (m : Int) = (y : Int) := by omega
      have HY : Hid (y = (i + 1) * m) := by show _ = _; rw [← hy, HX.out, Nat.succ_mul]
      clear hy hx1
      go_wp2
      go_roundw
      case rel => exact ⟨i + 1, y, by omega, by go_num, rfl, HY, trivial⟩
      case measure => simp [intOf]; omega
    · obtain rfl : i = n := by omega
      have z8 : ¬ (262144 : Int) < (x : Int) := by omega
      go_wp2
      go_ret
      exact ⟨by simp, rfl⟩
set_option maxHeartbeats 1000000 in
theorem t136 {w : World} {R n c m : Nat} {P : Nat → Option Addr} {C : Nat → Nat} (h : TC w R n c m P C) : Calls Tryz.prog 136 #[.slice (some ⟨R, 0, none⟩) n c] w (BR false w) := by
  have H : Hid (TC w R n c m P C) := h
  have h1 := h.n1
  have h2 := h.nc
  have h3 := h.n2
  have c00 := h.tb 0 (by omega)
  simp only at c00
  have z0 : (0 : Int) < (n : Int) := by omega
  have z1 : (1 : Int) ≤ (n : Int) := by omega
  have z2 : (n : Int) ≤ (c : Int) := by omega
  have z3 : (n : Int) ≤ 256 := by omega
  clear h
  rcases Nat.eq_zero_or_pos (n - 1) with hn | hn
  · obtain rfl : n = 1 := by omega
    by_cases hc : c = 1
    · subst hc
      go_enter Tryz.func136, Tryz.ntmps136
      go_wp2
      go_loopw [4, 8] (fun _ vi wr => vi = .int .i64 0 ∧ wr = w) (fun _ _ _ => 0)
      case atStart => exact ⟨rfl, rfl⟩
      case round =>
        obtain ⟨rfl, rfl⟩ := hrel
        go_wp2
        go_ret
        exact ⟨rfl, rfl⟩
    · have e1 : ¬ c - 1 = 0 := by omega
      go_enter Tryz.func136, Tryz.ntmps136
      go_wp2
      go_loopw [4, 8] (fun _ vi wr => vi = .int .i64 0 ∧ wr = w) (fun _ _ _ => 0)
      case atStart => exact ⟨rfl, rfl⟩
      case round =>
        obtain ⟨rfl, rfl⟩ := hrel
        go_wp2
        go_ret
        exact ⟨rfl, rfl⟩
  · obtain ⟨k, hk⟩ : ∃ k, n = k + 1 := ⟨n - 1, by omega⟩
    have HK : Hid (n = k + 1) := hk
    have hc : ¬ c = 1 := by omega
    have e1 : ¬ c - 1 = 0 := by omega
    have e2 : n - 1 = k := by omega
    have e3 : (n : Int) - 1 = (k : Int) := by omega
    clear hk hn
    go_enter Tryz.func136, Tryz.ntmps136
    go_wp2
    go_loopw [4, 8] (fun _ vi wr => ∃ i : Nat, i ≤ k ∧ vi = .int .i64 i ∧ wr = w) (fun _ vi _ => k - (intOf vi).toNat)
    case atStart => exact ⟨0, by omega, rfl, rfl⟩
    case round =>
      obtain ⟨i, hi, rfl, rfl⟩ := hrel
      by_cases hlt : i < k
      · have z6 : (i : Int) < (k : Int) := by omega
        have z7 : (0 : Int) ≤ (i : Int) := by omega
        have c0 := H.out.tb (1 + i) (by have := HK.out; omega)
        simp only at c0
        go_wp2
        go_roundw
        case rel => exact ⟨i + 1, by omega, by go_num, trivial⟩
        case measure => simp [intOf]; omega
      · obtain rfl : i = k := by omega
        go_wp2
        go_ret
        exact ⟨rfl, rfl⟩
theorem t104 {w : World} {R n c m o : Nat} {P : Nat → Option Addr} {C : Nat → Nat} (h : TC w R n c m P C) (ho : o < 9) (hn : o < n) : Calls Tryz.prog 104 #[.slice (some ⟨R, 0, none⟩) n c, .int .i64 o] w fun e w' => e = .returned (.int .i64 0) ∧ w' = w := by
  have H : Hid (TC w R n c m P C) := h
  have HB : Hid ((decide ((0 : Int) ≤ (o : Int)) && decide ((o : Int) ≤ 8)) = true) := by show _ = _; simp; omega
  have z1 : ¬ (n : Int) ≤ (o : Int) := by omega
  clear h
  go_enter Tryz.func104, Tryz.ntmps104
  go_wp2_with (first
    | (go_at_call 134; (with_reducible refine (t134k HB.out _).mono ?_); rintro e w' ⟨rfl, hw⟩; subst w')
    | (go_at_call 135; (with_reducible refine (t135 H.out).mono ?_); rintro e w' ⟨rfl, hw⟩; subst w')
    | (go_at_call 136; (with_reducible refine (t136 H.out).mono ?_); rintro e w' ⟨rfl, hw⟩; subst w'))
  go_ret
  exact ⟨rfl, rfl⟩
end Go.Proofs.YtflngnnoibkkoaaGreat
/- Rows in memory of their own: copied. -/
namespace Go.Proofs.YtflngnnoibkkoaaGreat
open Go.ChangeShapes Go.WideShapes Go.ChangeAt Go.RowKit Go.Fl Ieee
set_option maxRecDepth 200000
set_option maxHeartbeats 8000000
attribute [local go_sem] run_store_float run_store_c isSome_set call34 call33 run_neg fold_eq fold_ne fold_lt fold_gt abs_eq

/-- A table of rows that stand each in memory of its own, behind b: the rows' values at A. -/
structure RT (b : Nat) (w : World) (A N m : Nat) (B : Nat → Nat) (D : Nat → List (Nat × Nat)) : Prop where
  hdr : ∀ a, a < N → w.cell? ⟨A, a, none⟩ = some (.slice (some ⟨B a, 0, none⟩) m m)
  row : ∀ a, a < N → CRow b w (.slice (some ⟨B a, 0, none⟩) m m) (D a)
  inj : ∀ i j, i < N → j < N → B i = B j → i = j
  neA : ∀ a, a < N → B a ≠ A
  loA : b ≤ A
theorem RT.up {b : Nat} {w w' : World} {A N m : Nat} {B : Nat → Nat} {D : Nat → List (Nat × Nat)} (h : RT b w A N m B D) (hu : Up w w') : RT b w' A N m B D :=
  ⟨fun a ha => cell_up (h.hdr a ha) hu, fun a ha => (h.row a ha).up hu, h.inj, h.neA, h.loA⟩
theorem RT.len {b : Nat} {w : World} {A N m : Nat} {B : Nat → Nat} {D : Nat → List (Nat × Nat)} (h : RT b w A N m B D) {a : Nat} (ha : a < N) : (D a).length = m := (h.row a ha).len
theorem RT.cell {b : Nat} {w : World} {A N m : Nat} {B : Nat → Nat} {D : Nat → List (Nat × Nat)} (h : RT b w A N m B D) {a g : Nat} (ha : a < N) (hg : g < m) : w.cell? ⟨B a, g, none⟩ = some (.complex .f64 (D a)[g]!.1 (D a)[g]!.2) := (h.row a ha).cell (by rw [h.len ha]; exact hg)
theorem RT.lo {b : Nat} {w : World} {A N m : Nat} {B : Nat → Nat} {D : Nat → List (Nat × Nat)} (h : RT b w A N m B D) {a : Nat} (ha : a < N) : b ≤ B a ∧ B a < w.heap.size := World.ownsRow.lt (h.row a ha) _ rfl
/-- One number is laid. -/
theorem RT.put {b : Nat} {w : World} {A N m : Nat} {B : Nat → Nat} {D : Nat → List (Nat × Nat)} (h : RT b w A N m B D) {a : Nat} (ha : a < N) (g x y : Nat) : RT b (w.setCell ⟨B a, g, none⟩ (.complex .f64 x y)) A N m B (fun i => if i = a then (D a).set g (x, y) else D i) ∧ But (B a) w (w.setCell ⟨B a, g, none⟩ (.complex .f64 x y)) := by
  obtain ⟨s1, s2⟩ := (h.row a ha).put g x y
  refine ⟨⟨fun i hi => s2.cell (fun e => h.neA a ha e.symm) (h.hdr i hi), fun i hi => ?_, h.inj, h.neA, h.loA⟩, s2⟩
  by_cases e : i = a
  · subst e; simp only [if_true]; exact s1
  · simp only [if_neg e]
    exact (h.row i hi).far s2 (fun q => e (h.inj i a hi ha q))
/-- The first k rows are copied. -/
structure CP (w wr : World) (A N m k : Nat) (B : Nat → Nat) (D : Nat → List (Nat × Nat)) : Prop where
  hd : ∃ l, l.length = N ∧ wr.ownsRow w.heap.size 34 1 (.slice (some ⟨A, 0, none⟩) N N) N l ∧ ∀ i, i < k → l[i]? = some (.slice (some ⟨B i, 0, none⟩) m m)
  row : ∀ a, a < k → CRow w.heap.size wr (.slice (some ⟨B a, 0, none⟩) m m) (D a)
  inj : ∀ i j, i < k → j < k → B i = B j → i = j
  neA : ∀ a, a < k → B a ≠ A
  up : Up w wr
theorem CP.cell {w wr : World} {A N m k : Nat} {B : Nat → Nat} {D : Nat → List (Nat × Nat)} (h : CP w wr A N m k B D) (i : Nat) (hi : i < N) : ∃ v, wr.cell? ⟨A, i, none⟩ = some v ∧ wr.frozen? ⟨A, i, none⟩ = false := by
  obtain ⟨l, hl, h1, h2⟩ := h.hd
  exact ⟨l[i]'(by omega), by rw [World.ownsRow.cellAt h1 i (by omega), List.getElem?_eq_getElem (by omega)], World.ownsRow.frozenAt h1 i⟩
theorem CP.lo {w wr : World} {A N m k : Nat} {B : Nat → Nat} {D : Nat → List (Nat × Nat)} (h : CP w wr A N m k B D) : w.heap.size ≤ A ∧ A < wr.heap.size := by
  obtain ⟨l, hl, h1, h2⟩ := h.hd
  exact World.ownsRow.lt h1 A rfl
theorem CP.next {w wr w1 w2 : World} {A N m k g : Nat} {B : Nat → Nat} {D : Nat → List (Nat × Nat)} {d : List (Nat × Nat)} (h : CP w wr A N m k B D) (hk : k < N) (hu : Up wr w1) (hg : wr.heap.size ≤ g)
    (h2 : But g (w1.setCell ⟨A, k, none⟩ (.slice (some ⟨g, 0, none⟩) m m)) w2) (hd : CRow wr.heap.size w2 (.slice (some ⟨g, 0, none⟩) m m) d) :
    CP w w2 A N m (k + 1) (fun i => if i < k then B i else g) (fun i => if i < k then D i else d) := by
  obtain ⟨l, hl, e1, e2⟩ := h.hd
  have hA := h.lo
  obtain ⟨s1, s2⟩ := World.ownsRow.stored (owns_up e1 hu) k (.slice (some ⟨g, 0, none⟩) m m)
  have hgA : A ≠ g := by omega
  have hlt : ∀ i, i < k → B i < wr.heap.size := fun i hi => (World.ownsRow.lt (h.row i hi) _ rfl).2
  refine ⟨⟨_, by simpa using hl, owns_far s1 h2 hgA, fun i hi => ?_⟩, fun a ha => ?_, fun i j hi hj e => ?_, fun a ha => ?_, ?_⟩
  · rw [List.getElem?_set]
    by_cases e : k = i
    · subst e; rw [if_pos rfl, if_pos (by omega), if_neg (Nat.lt_irrefl _)]
    · rw [if_neg e, if_pos (by omega)]; exact e2 i (by omega)
  · by_cases e : a < k
    · simp only [if_pos e]
      have := hlt a e
      exact (((h.row a e).up hu).far s2 (h.neA a e)).far h2 (by omega)
    · simp only [if_neg e]
      exact hd.down h.up.size
  · by_cases e1 : i < k <;> by_cases e3 : j < k
    · simp only [if_pos e1, if_pos e3] at e; exact h.inj i j e1 e3 e
    · simp only [if_pos e1, if_neg e3] at e; have := hlt i e1; omega
    · simp only [if_neg e1, if_pos e3] at e; have := hlt j e3; omega
    · omega
  · by_cases e : a < k
    · simp only [if_pos e]; exact h.neA a e
    · simp only [if_neg e]; exact Ne.symm hgA
  · exact h2.up (But.up s2 (h.up.trans hu) hA.1) (Nat.le_trans h.up.size hg)
theorem CP.done {w wr : World} {A N m : Nat} {B : Nat → Nat} {D : Nat → List (Nat × Nat)} (h : CP w wr A N m N B D) : RT w.heap.size wr A N m B D := by
  obtain ⟨l, hl, h1, h2⟩ := h.hd
  exact ⟨fun i hi => by rw [World.ownsRow.cellAt h1 i (by omega)]; exact h2 i hi, h.row, h.inj, h.neA, h.lo.1⟩
theorem set_but' (w : World) (g k : Nat) (v : Value) : But g w (w.setCell ⟨g, k, none⟩ v) :=
  ⟨rfl, rfl, rfl, by simp, fun j _ hk => Below.heap_setCell _ _ _ j (fun e => hk (by rw [e]))⟩
/-- What copied leaves. -/
def CO (w : World) (N m : Nat) (f : Nat → Nat → Nat × Nat) (e : Ending) (w' : World) : Prop := ∃ A B D, e = .returned (.slice (some ⟨A, 0, none⟩) N N) ∧ Hid (RT w.heap.size w' A N m B D) ∧ Hid (Up w w') ∧ Hid (∀ i, i < N → ∀ g, g < m → (D i)[g]! = f i g)
set_option maxHeartbeats 2000000 in
theorem t105 {w : World} {R N m c : Nat} {P : Nat → Option Addr} {C G O : Nat → Nat} {f : Nat → Nat → Nat × Nat} (h : TI w R N m P C G O f) (hN : N ≤ 256) (hm : m ≤ 16384) (hm1 : 1 ≤ m) : Calls Tryz.prog 105 #[.slice (some ⟨R, 0, none⟩) N c] w (CO w N m f) := by
  have H : Hid (TI w R N m P C G O f) := h
  clear h
  go_enter Tryz.func105, Tryz.ntmps105
  go_wp2_with ((with_reducible refine upon_makeS (by omega) ?_); intro A w1 HA)
  have HS : Hid (CP w w1 A N m 0 (fun _ => 0) (fun _ => [])) := by
    obtain ⟨e, r, u⟩ := HA.out
    exact ⟨⟨_, by simp, owns_down r (by omega), fun i hi => by omega⟩, fun a ha => by omega, fun i j hi => by omega, fun a ha => by omega, u⟩
  clear HA
  go_loopw [4, 5, 11] (fun _ _ vi wr => ∃ (k : Nat) (B : Nat → Nat) (D : Nat → List (Nat × Nat)), k ≤ N ∧ vi = .int .i64 k ∧ Hid (CP w wr A N m k B D) ∧ Hid (∀ i, i < k → ∀ g, g < m → (D i)[g]! = f i g)) (fun _ _ vi _ => N - (intOf vi).toNat)
  case atStart => exact ⟨0, _, _, by omega, rfl, HS, fun i hi => by omega⟩
  case round =>
    clear HS
    obtain ⟨k, B, D, hk, rfl, HS, HD⟩ := hrel
    by_cases hlt : k < N
    · have z1 : (k : Int) < (N : Int) := by omega
      have z2 : (0 : Int) ≤ (k : Int) := by omega
      have c0 := cell_up (H.out.tb k hlt) HS.out.up
      simp only at c0
      obtain ⟨p1, p2⟩ := H.out.rd k hlt (by omega)
      rw [p1] at c0
      have HR : Hid (RD w (G k) (O k) m (f k)) := p2
      obtain ⟨v0, a1, a2⟩ := HS.out.cell k hlt
      go_wp2_with (first
        | ((with_reducible refine upon_makeC (by omega) ?_); intro g w2 HG
           have b1 := cell_up a1 HG.out.2.2
           have b2 : w2.frozen? ⟨A, k, none⟩ = false := (World.frozen?_of_block (w := wr) (a := ⟨A, k, none⟩) (HG.out.2.2.block A (World.block_lt_of_cell? wr _ a1))).trans a2
           have HSB : Hid (But A w2 (w2.setCell ⟨A, k, none⟩ (.slice (some ⟨g, 0, none⟩) m m))) := set_but' _ _ _ _
           have HC : Hid ((w2.setCell ⟨A, k, none⟩ (.slice (some ⟨g, 0, none⟩) m m)).heap[g]? = some (.cells ((List.replicate m (0, 0)).map ce).toArray 65 (0, 0))) := by
             have q := HG.out.1
             have q2 := HS.out.lo
             exact (HG.out.2.1.far HSB.out (by omega)).heap
           have HR2 : Hid (RD (w2.setCell ⟨A, k, none⟩ (.slice (some ⟨g, 0, none⟩) m m)) (G k) (O k) m (f k)) := fun j hj => HSB.out.cell (by
             have q1 := World.block_lt_of_cell? w _ (HR.out j hj)
             have q2 := HS.out.lo.1
             intro e; simp only at q1; omega) (cell_up (HR.out j hj) (HS.out.up.trans HG.out.2.2)))
        | ((with_reducible refine upon_copy (lo := O k) (s := 0) (n := m) HC HR2 rfl (Nat.le_of_eq (Nat.zero_add m)) (Nat.le_refl m) (by simp) ?_); intro w3 hg3 HB3))
      have HN : Hid (CP w w3 A N m (k + 1) (fun i => if i < k then B i else g) (fun i => if i < k then D i else cut (f k) 0 m)) := by
        have e : splice (List.replicate m ((0 : Nat), (0 : Nat))) 0 (cut (f k) 0 m) = cut (f k) 0 m := by simp [splice, cut_len]
        have q := hg3.out
        rw [e] at q
        exact HS.out.next hlt HG.out.2.2 (Nat.le_of_eq HG.out.1) HB3.out (CRow.of_heap (cut_len _ _ _) (Nat.le_of_eq HG.out.1) (by omega) q)
      have HD2 : Hid (∀ i, i < k + 1 → ∀ j, j < m → ((fun i => if i < k then D i else cut (f k) 0 m) i)[j]! = f i j) := fun i hi j hj => by
        by_cases e : i < k
        · simp only [if_pos e]; exact HD.out i e j hj
        · obtain rfl : i = k := by omega
          simp only [if_neg e]
          rw [getElem!_pos _ j (by rw [cut_len]; exact hj)]
          simp [cut]
      go_roundw
      case rel => exact ⟨k + 1, _, _, by omega, by go_num, HN, HD2⟩
      case measure => simp [intOf]; omega
    · obtain rfl : k = N := by omega
      go_wp2
      go_ret
      exact ⟨A, B, D, rfl, HS.out.done, HS.out.up, HD⟩
theorem upon_copy0 {o : Oper} {a : Act} {next : Act → World → Prop} {Q : Exit → Act → World → Prop} {w : World} {F : Value → World → Result Next} {d s : Option Addr} {c c' : Nat}
    (h : o.upon Tryz.prog a next Q (F (.int .i64 0) w)) :
    o.upon Tryz.prog a next Q (((Builtin.copy_ #[34, 34] 3 #[.slice d 0 c, .slice s 0 c']).run Tryz.prog w).andThen F) := by
  rw [run_copy_none (P := Tryz.prog) w 34 34 3 65 d s 0 c 0 c' Tryz.underlying34 sz26 rfl]
  exact h
theorem upon_makeCz0 {o : Oper} {a : Act} {next : Act → World → Prop} {Q : Exit → Act → World → Prop} {w : World} {F : Value → World → Result Next}
    (hk : ∀ g w', Hid (Made 0 g w w') → o.upon Tryz.prog a next Q (F (.slice (some ⟨g, 0, none⟩) 0 0) w')) :
    o.upon Tryz.prog a next Q (((Instr.makeSlice 34 (.int .i64 0) (.int .i64 0)).run Tryz.prog w).andThen F) := upon_makeC (n := 0) (by omega) hk
set_option maxHeartbeats 2000000 in
theorem t105z {w : World} {R N c : Nat} {P : Nat → Option Addr} {C G O : Nat → Nat} {f : Nat → Nat → Nat × Nat} (h : TI w R N 0 P C G O f) (hN : N ≤ 256) : Calls Tryz.prog 105 #[.slice (some ⟨R, 0, none⟩) N c] w (CO w N 0 f) := by
  have H : Hid (TI w R N 0 P C G O f) := h
  clear h
  go_enter Tryz.func105, Tryz.ntmps105
  go_wp2_with ((with_reducible refine upon_makeS (by omega) ?_); intro A w1 HA)
  have HS : Hid (CP w w1 A N 0 0 (fun _ => 0) (fun _ => [])) := by
    obtain ⟨e, r, u⟩ := HA.out
    exact ⟨⟨_, by simp, owns_down r (by omega), fun i hi => by omega⟩, fun a ha => by omega, fun i j hi => by omega, fun a ha => by omega, u⟩
  clear HA
  go_loopw [4, 5, 11] (fun _ _ vi wr => ∃ (k : Nat) (B : Nat → Nat) (D : Nat → List (Nat × Nat)), k ≤ N ∧ vi = .int .i64 k ∧ Hid (CP w wr A N 0 k B D)) (fun _ _ vi _ => N - (intOf vi).toNat)
  case atStart => exact ⟨0, _, _, by omega, rfl, HS⟩
  case round =>
    clear HS
    obtain ⟨k, B, D, hk, rfl, HS⟩ := hrel
    by_cases hlt : k < N
    · have z1 : (k : Int) < (N : Int) := by omega
      have z2 : (0 : Int) ≤ (k : Int) := by omega
      have c0 := cell_up (H.out.tb k hlt) HS.out.up
      simp only at c0
      obtain ⟨v0, a1, a2⟩ := HS.out.cell k hlt
      go_wp2_with (first
        | ((with_reducible refine upon_makeCz0 ?_); intro g w2 HG
           have b1 := cell_up a1 HG.out.2.2
           have b2 : w2.frozen? ⟨A, k, none⟩ = false := (World.frozen?_of_block (w := wr) (a := ⟨A, k, none⟩) (HG.out.2.2.block A (World.block_lt_of_cell? wr _ a1))).trans a2)
        | (with_reducible refine upon_copy0 ?_))
      have HN : Hid (CP w (w2.setCell ⟨A, k, none⟩ (.slice (some ⟨g, 0, none⟩) 0 0)) A N 0 (k + 1) (fun i => if i < k then B i else g) (fun i => if i < k then D i else [])) := by
        have q := HG.out.1
        have q2 := HS.out.lo
        refine HS.out.next hlt HG.out.2.2 (Nat.le_of_eq HG.out.1) (But.refl _ _) ?_
        have q3 := HG.out.2.1
        rw [← q] at q3
        rw [← q]
        exact q3.far (set_but' _ _ _ _) (by omega)
      go_roundw
      case rel => exact ⟨k + 1, _, _, by omega, by go_num, HN⟩
      case measure => simp [intOf]; omega
    · obtain rfl : k = N := by omega
      go_wp2
      go_ret
      exact ⟨A, B, D, rfl, HS.out.done, HS.out.up, fun i _ g hg => by omega⟩
end Go.Proofs.YtflngnnoibkkoaaGreat
/- Cancel: differences taken in place. -/
namespace Go.Proofs.YtflngnnoibkkoaaGreat
open Go.ChangeShapes Go.WideShapes Go.ChangeAt Go.RowKit Go.Fl Ieee
set_option maxRecDepth 200000
set_option maxHeartbeats 8000000
attribute [local go_sem] run_store_float run_store_c isSome_set call34 call33 run_neg fold_eq fold_ne fold_lt fold_gt abs_eq

/-- A difference by parts. -/
def difC (p q : C2) : C2 := (bin .sub p.1 q.1, bin .sub p.2 q.2)
/-- What stands at a gate of a row, where the rows behind q are done, and of q so many gates. -/
def stF (F : Nat → Nat → C2) (q r a g : Nat) : C2 := if q < a ∨ (a = q ∧ g < r) then difC (F a g) (F (a - 1) g) else F a g
theorem stF_next (F : Nat → Nat → C2) (q r a g : Nat) : stF F q (r + 1) a g = if a = q ∧ g = r then difC (F a g) (F (a - 1) g) else stF F q r a g := by
  unfold stF
  by_cases h : a = q ∧ g = r
  · rw [if_pos h, if_pos (Or.inr ⟨h.1, by omega⟩)]
  · rw [if_neg h]
    by_cases h2 : q < a ∨ (a = q ∧ g < r)
    · rw [if_pos h2, if_pos (by omega)]
    · rw [if_neg h2, if_neg (by omega)]
theorem stF_row (F : Nat → Nat → C2) {q m a g : Nat} (hg : g < m) : stF F (q + 1) m a g = stF F q 0 a g := by
  unfold stF
  by_cases h : q < a ∨ (a = q ∧ g < 0)
  · rw [if_pos h, if_pos (by omega)]
  · rw [if_neg h, if_neg (by omega)]
/-- The differences under way. -/
structure DS (w0 w wr : World) (A N m q r : Nat) (B : Nat → Nat) (D : Nat → List (Nat × Nat)) (F : Nat → Nat → C2) : Prop where
  rt : RT w0.heap.size wr A N m B D
  up : Up w0 wr
  val : ∀ a, a < N → ∀ g, g < m → ab2 (D a)[g]! = stF F q r a g
/-- What differences leaves. -/
def DO (w0 : World) (A N m off n c : Nat) (B : Nat → Nat) (F : Nat → Nat → C2) (e : Ending) (w' : World) : Prop :=
  ∃ D, e = .returned (.slice (some ⟨A, off + 1, none⟩) n c) ∧ Hid (RT w0.heap.size w' A N m B D) ∧ Hid (Up w0 w') ∧ Hid (∀ a, a < N → ∀ g, g < m → ab2 (D a)[g]! = if off < a then difC (F a g) (F (a - 1) g) else F a g)
theorem DS.put {w0 w wr : World} {A N m q r : Nat} {B : Nat → Nat} {D : Nat → List (Nat × Nat)} {F : Nat → Nat → C2} (h : DS w0 w wr A N m q r B D F) (hq : q < N) (hr : r < m) {x y : Nat} (hx : (ab x, ab y) = difC (F q r) (F (q - 1) r)) : DS w0 w (wr.setCell ⟨B q, r, none⟩ (.complex .f64 x y)) A N m q (r + 1) B (fun i => if i = q then (D q).set r (x, y) else D i) F := by
  obtain ⟨s1, s2⟩ := h.rt.put hq r x y
  refine ⟨s1, s2.up h.up (h.rt.lo hq).1, fun a ha g hg => ?_⟩
  rw [stF_next]
  by_cases e : a = q
  · subst e
    simp only [if_true]
    rw [get_set' _ _ _ (by rw [h.rt.len ha]; exact hg)]
    by_cases e2 : g = r
    · subst e2; simp only [if_true, and_self]; exact hx
    · rw [if_neg e2, if_neg (fun h => e2 h.2)]; exact h.val a ha g hg
  · simp only [if_neg e]
    rw [if_neg (fun h => e h.1)]; exact h.val a ha g hg
theorem DS.drewN {w0 w wr : World} {A N m q r : Nat} {B : Nat → Nat} {D : Nat → List (Nat × Nat)} {F : Nat → Nat → C2} (h : DS w0 w wr A N m q r B D F) (j : Nat) : DS w0 w (wr.drewN j) A N m q r B D F := ⟨h.rt.up (Up.drewN _ _), h.up.trans (Up.drewN _ _), h.val⟩
set_option maxHeartbeats 2000000 in
theorem t106 {w0 w : World} {A N m off n n1 c : Nat} {B : Nat → Nat} {D : Nat → List (Nat × Nat)} {F : Nat → Nat → C2} (h : RT w0.heap.size w A N m B D) (hu : Up w0 w) (hv : ∀ a, a < N → ∀ g, g < m → ab2 (D a)[g]! = F a g) (hn : off + n = N) (hn1 : n = n1 + 1) (h1 : 1 ≤ n1) (hN : N ≤ 256) (hm : m ≤ 16384) (hc : n ≤ c) (hc2 : c ≤ 1000) :
    Calls Tryz.prog 106 #[.slice (some ⟨A, off, none⟩) n c] w (DO w0 A N m off n1 (c - 1) B F) := by
  have HS0 : Hid (DS w0 w w A N m (N - 1) 0 B D F) := ⟨h, hu, fun a ha g hg => by
    rw [hv a ha g hg]; unfold stF; rw [if_neg (by omega)]⟩
  have HN : Hid (off + n = N ∧ n = n1 + 1 ∧ N - 1 = off + n1) := ⟨hn, hn1, by omega⟩
  have z1 : (n : Int) - 1 = (n1 : Int) := by omega
  have z2 : (1 : Int) ≤ (n : Int) := by omega
  have z3 : (n : Int) ≤ (c : Int) := by omega
  have z4 : (n : Int) ≤ 256 := by omega
  have z5 : (c : Int) ≤ 1000 := by omega
  have z6 : n - 1 = n1 := by omega
  have z7 : ¬ c = 1 := by omega
  have z8 : ¬ c - 1 = 0 := by omega
  have z9 : (n1 : Int) ≤ 256 := by omega
  rw [HN.out.2.2] at HS0
  clear h hu hv hn hn1
  go_enter Tryz.func106, Tryz.ntmps106
  go_wp2
  go_loopw [3, 4, 5] (fun vp _ _ wr => ∃ (p : Nat) (D : Nat → List (Nat × Nat)), p ≤ n1 ∧ vp = .int .i64 p ∧ Hid (DS w0 w wr A N m (off + p) 0 B D F)) (fun vp _ _ _ => (intOf vp).toNat)
  case atStart => exact ⟨n1, D, by omega, rfl, HS0⟩
  case round =>
    clear HS0
    obtain ⟨p, D, hp, rfl, HS⟩ := hrel
    rcases Nat.eq_zero_or_pos p with hp0 | hp0
    · subst hp0
      go_wp2
      go_ret
      refine ⟨D, rfl, HS.out.rt, HS.out.up, fun a ha g hg => ?_⟩
      rw [HS.out.val a ha g hg]
      unfold stF
      by_cases e : off < a
      · rw [if_pos e, if_pos (by omega)]
      · rw [if_neg e, if_neg (by omega)]
    · obtain ⟨k, hk⟩ : ∃ k, p = k + 1 := ⟨p - 1, by omega⟩
      have HK : Hid (p = k + 1) := hk
      have y1 : (0 : Int) < (p : Int) := by omega
      have y2 : (p : Int) - 1 = (k : Int) := by omega
      have y3 : (k : Int) < (n : Int) := by omega
      have y4 : (p : Int) < (n : Int) := by omega
      have y5 : (0 : Int) ≤ (k : Int) := by omega
      have y6 : (0 : Int) ≤ (p : Int) := by omega
      have hpN : off + p < N := by have := HN.out; omega
      have hkN : off + k < N := by omega
      have c1 := HS.out.rt.hdr (off + k) hkN
      have HQ : Hid (off + p - 1 = off + k) := by show _ = _; omega
      have HPN : Hid (off + p < N ∧ off + k < N) := ⟨hpN, hkN⟩
      generalize hW : wr = W at *
      clear hW hk hpN hkN
      go_wp2
      clear c1
      go_loopw [4, 5, 19] (fun _ _ vi wr => ∃ (r : Nat) (D : Nat → List (Nat × Nat)), r ≤ m ∧ vi = .int .i64 r ∧ Hid (DS w0 w wr A N m (off + p) r B D F)) (fun _ _ vi _ => m - (intOf vi).toNat)
      case atStart => exact ⟨0, D, by omega, rfl, HS⟩
      case round =>
        clear HS
        obtain ⟨r, D, hr, rfl, HS⟩ := hrel
        by_cases hlt : r < m
        · have x1 : (r : Int) < (m : Int) := by omega
          have x2 : (0 : Int) ≤ (r : Int) := by omega
          have c2 := HS.out.rt.hdr (off + p) HPN.out.1
          have d1 := HS.out.rt.cell HPN.out.2 hlt
          have d2 := HS.out.rt.cell HPN.out.1 hlt
          have f2 := (HS.out.rt.row (off + p) HPN.out.1).frz r
          have HV1 : Hid (ab2 (D (off + k))[r]! = F (off + k) r) := by
            show _ = _
            rw [HS.out.val _ HPN.out.2 _ hlt]; unfold stF; rw [if_neg (by have := HK.out; omega)]
          have HV2 : Hid (ab2 (D (off + p))[r]! = F (off + p) r) := by
            show _ = _
            rw [HS.out.val _ HPN.out.1 _ hlt]; unfold stF; rw [if_neg (by omega)]
          have i2 : (wr.cell? ⟨B (off + p), r, none⟩).isSome = true := by rw [d2]; rfl
          generalize (D (off + k))[r]! = ux at d1 HV1
          generalize (D (off + p))[r]! = vx at d2 HV2
          obtain ⟨u1, u2⟩ := ux
          obtain ⟨v1, v2⟩ := vx
          simp only at d1 d2
          go_wp2_with ((with_reducible refine upon_csub ?_); intro x y nn hx hy)
          go_roundw
          case rel => exact ⟨r + 1, _, by omega, by go_num, (HS.out.drewN nn).put HPN.out.1 hlt (by
            have e1 := HV1.out
            have e2 := HV2.out
            rw [HQ.out, ← e1, ← e2, hx.out, hy.out]; rfl)⟩
          case measure => simp [intOf]; omega
        · obtain rfl : r = m := by omega
          go_wp2
          go_roundw
          case rel => exact ⟨k, D, by have := HK.out; omega, by go_num, HS.out.rt, HS.out.up, fun a ha g hg => by
            rw [HS.out.val a ha g hg, HK.out]
            exact stF_row F hg⟩
          case measure => have := HK.out; simp [intOf]; omega
end Go.Proofs.YtflngnnoibkkoaaGreat
