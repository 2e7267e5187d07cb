/- Rows of states are made and copied. -/
import Derived.Test.YtcgbmcnefolgcaaCd
import Derived.Test.YtcgbmcnefolgcaaRz
import Derived.Laws.CopyRow
namespace Go.Proofs.Ytcgbmcnefolgcaa
open Go.ChangeShapes Go.WideShapes Go.ChangeAt Go.RowKit Go.Fl Go.Sort

/-- The cells of a row of states are copied. -/
theorem run_copy5 {P : Program} (w : World) (dT sT ty elem : TypeId) (g o dLen dCap : Nat) (a : Addr) (sLen sCap : Nat) (cur : Array Value) (t : TypeId) (cs : List Value)
    (hu : P.underlying dT = some (.slice elem)) (hs : (P.info? elem).map (·.size) = some 5)
    (hg : w.heap[g]? = some (.cells cur t (0, 0))) (hn : cs.length = Nat.min sLen dLen * 5)
    (hsrc : ∀ j v, cs[j]? = some v → w.cell? (a.add j) = some v) (hfit : o + cs.length ≤ cur.size) (h1 : ∀ v ∈ cs, v.oneCell' = true) :
    (Builtin.copy_ #[dT, sT] ty #[.slice (some ⟨g, o, none⟩) dLen dCap, .slice (some a) sLen sCap]).run P w =
      .ok (goInt (Nat.min sLen dLen)) (w.setRow g (cur.toList.take o ++ cs ++ cur.toList.drop (o + cs.length)).toArray) := by
  have hl := run_loadCells_list (P := P) w a cs hsrc
  have hst := run_storeCells_at P g o t cs 0 cur w hg (by simpa using hfit) h1
  rw [hn] at hl
  cases hq : P.info? elem with
  | none => simp [hq] at hs
  | some i =>
    have hi : i.size = 5 := by simpa [hq] using hs
    simp [Builtin.copy_, run_underlying hu, Builtin.lenOf, Builtin.firstCells, sizeOf, typeInfo, hq, hi, hl, hst]
theorem run_copy5z {P : Program} (w : World) (dT sT ty elem : TypeId) (d s : Option Addr) (dLen dCap sCap : Nat) (hu : P.underlying dT = some (.slice elem)) (hs : (P.info? elem).map (·.size) = some 5) :
    (Builtin.copy_ #[dT, sT] ty #[.slice d dLen dCap, .slice s 0 sCap]).run P w = .ok (goInt 0) w := by
  cases hq : P.info? elem with
  | none => simp [hq] at hs
  | some i =>
    cases s <;> cases d <;> simp [Builtin.copy_, run_underlying hu, Builtin.lenOf, Builtin.firstCells, sizeOf, typeInfo, hq, storeCells, loadCells] <;> rfl
theorem size27 : (Try.prog.info? 27).map (·.size) = some 5 := by kernel_rfl
theorem addr_add (b o j : Nat) : (⟨b, o, none⟩ : Addr).add j = ⟨b, o + j, none⟩ := by
  unfold Addr.add
  split
  · rename_i h; rw [h]; rfl
  · rfl
theorem SS.src {w : World} {p : Option Addr} {n cap : Nat} {S : Nat → Stt} (h : SS w p n cap S) (hp : 0 < n) : ∃ b o, p = some ⟨b, o, none⟩ ∧ ∀ j u, (fl5 ((List.range n).map S))[j]? = some u → w.cell? ((⟨b, o, none⟩ : Addr).add j) = some u := by
  obtain ⟨b, o, e, hr⟩ := h.rd hp
  refine ⟨b, o, e, fun j u hj => ?_⟩
  have hl : j < n * 5 := by
    have := (List.getElem?_eq_some_iff.1 hj).1
    rw [fl5_len] at this
    simpa using this
  have hi : j / 5 < n := by omega
  have hk : j % 5 < 5 := Nat.mod_lt _ (by omega)
  have e1 : j = j / 5 * 5 + j % 5 := by omega
  have e2 : ((List.range n).map S).getD (j / 5) Stt.zero = S (j / 5) := by simp [hi]
  rw [e1, fl5_at (by simpa using hi) hk, e2] at hj
  rw [addr_add]
  obtain ⟨c0, c1, c2, c3, c4⟩ := hr (j / 5) hi
  generalize hq : j % 5 = k at *
  generalize j / 5 = i at *
  subst e1
  rcases (show k = 0 ∨ k = 1 ∨ k = 2 ∨ k = 3 ∨ k = 4 by omega) with rfl | rfl | rfl | rfl | rfl <;> simp only [sL, List.getElem?_cons_zero, List.getElem?_cons_succ, Option.some.injEq] at hj <;> subst hj
  · rw [Nat.add_zero]; exact c0
  · rw [← Nat.add_assoc]; exact c1
  · rw [← Nat.add_assoc]; exact c2
  · rw [← Nat.add_assoc]; exact c3
  · rw [← Nat.add_assoc]; exact c4
theorem fl5_one (D : List Stt) : ∀ u ∈ fl5 D, u.oneCell' = true := by
  intro u hu
  unfold fl5 at hu
  obtain ⟨s, _, hs⟩ := List.mem_flatMap.1 hu
  exact five_one s u hs
theorem run_copyS {w : World} {b g n cap cap2 : Nat} {p : Option Addr} {D : List Stt} {S : Nat → Stt} (ty : TypeId) (HO : SO b w (.slice (some ⟨g, 0, none⟩) n cap) D) (HS : SS w p n cap2 S) :
    ∃ w', (Builtin.copy_ #[22, 22] ty #[.slice (some ⟨g, 0, none⟩) n cap, .slice p n cap2]).run Try.prog w = .ok (.int .i64 n) w' ∧ SO b w' (.slice (some ⟨g, 0, none⟩) n cap) ((List.range n).map S) ∧ But g w w' := by
  have hlen := HO.len
  rcases Nat.eq_zero_or_pos n with h0 | hp
  · subst h0
    have hrun := run_copy5z (P := Try.prog) w 22 22 ty 27 (some ⟨g, 0, none⟩) p 0 cap cap2 Try.underlying22 size27
    have hD : D = [] := List.eq_nil_of_length_eq_zero hlen
    subst hD
    exact ⟨w, hrun, HO, But.refl _ _⟩
  · obtain ⟨sb, so, rfl, hsrc⟩ := HS.src hp
    rcases HO.2 with ⟨e, _⟩ | ⟨g', cap', cur, e, k1, k2, k3, k4, k5, k6⟩
    · cases e
    · simp only [Value.slice.injEq, Option.some.injEq, Addr.mk.injEq] at e
      obtain ⟨⟨rfl, _⟩, e2, rfl⟩ := e
      have hmin : Nat.min n n = n := Nat.min_self n
      have hcl : (fl5 ((List.range n).map S)).length = n * 5 := by rw [fl5_len]; simp
      have hrun := run_copy5 (P := Try.prog) w 22 22 ty 27 g 0 n cap ⟨sb, so, none⟩ n cap2 cur 27 (fl5 ((List.range n).map S)) Try.underlying22 size27 k2 (by rw [hmin]; exact hcl) hsrc (by rw [hcl, k5]; omega) (fl5_one _)
      rw [hmin] at hrun
      refine ⟨_, hrun, ?_, ⟨rfl, rfl, rfl, by simp [World.setRow], fun k _ hne => setRow_other _ _ _ _ (by simpa using hne)⟩⟩
      refine ⟨by simp [fl5_len], Or.inr ⟨g, cap, _, by simp, k1, setRow_heap w g cur _ 27 _ k2, by simp; omega, k4, ?_, ?_⟩⟩
      · simp [hcl, k5]; omega
      · simp [hcl]
theorem upon_copyS {o : Oper} {a : Act} {next : Act → World → Prop} {Q : Exit → Act → World → Prop} {w : World} {F : Value → World → Result Next} {b g n cap cap2 : Nat} {p : Option Addr} {D : List Stt} {S : Nat → Stt} (HO : SO b w (.slice (some ⟨g, 0, none⟩) n cap) D) (HS : SS w p n cap2 S)
    (h : ∀ w', Hid (SO b w' (.slice (some ⟨g, 0, none⟩) n cap) ((List.range n).map S)) → Hid (But g w w') → o.upon Try.prog a next Q (F (.int .i64 n) w')) :
    o.upon Try.prog a next Q (((Builtin.copy_ #[22, 22] 3 #[.slice (some ⟨g, 0, none⟩) n cap, .slice p n cap2]).run Try.prog w).andThen F) := by
  obtain ⟨w', e, h1, h2⟩ := run_copyS 3 HO HS
  rw [e]
  exact h w' h1 h2
/-- A row of states is made. -/
theorem made_st (n : Nat) : (madeCells (Value.agg #[.float .f64 0, .float .f64 0, .float .f64 0, .float .f64 0, .float .f64 0]).cells (n * 5)).toList = fl5 (List.replicate n Stt.zero) := by
  apply List.ext_getElem?
  intro j
  by_cases hj : j < n * 5
  · have hi : j / 5 < n := by omega
    have hk : j % 5 < 5 := Nat.mod_lt _ (by omega)
    have e1 : j = j / 5 * 5 + j % 5 := by omega
    have hz : ∀ k, k < 5 → (#[Value.float .f64 0, .float .f64 0, .float .f64 0, .float .f64 0, .float .f64 0] : Array Value)[k]! = .float .f64 0 := fun k hk => by
      rcases (show k = 0 ∨ k = 1 ∨ k = 2 ∨ k = 3 ∨ k = 4 by omega) with rfl | rfl | rfl | rfl | rfl <;> rfl
    have hL : (madeCells (Value.agg #[.float .f64 0, .float .f64 0, .float .f64 0, .float .f64 0, .float .f64 0]).cells (n * 5)).toList[j]? = some (.float .f64 0) := by
      rw [Array.getElem?_toList]
      unfold madeCells
      simp only [Value.cells, Array.getElem?_map]
      rw [Array.getElem?_range, if_pos hj]
      exact congrArg some (hz (j % 5) hk)
    rw [hL]
    have hR : (fl5 (List.replicate n Stt.zero))[j / 5 * 5 + j % 5]? = (sL Stt.zero)[j % 5]? := by
      rw [fl5_at (by simpa using hi) hk]
      congr 2
      simp [hi]
    rw [← e1] at hR
    rw [hR]
    rcases (show j % 5 = 0 ∨ j % 5 = 1 ∨ j % 5 = 2 ∨ j % 5 = 3 ∨ j % 5 = 4 by omega) with e | e | e | e | e <;> rw [e] <;> rfl
  · rw [List.getElem?_eq_none (by rw [Array.length_toList, size_madeCells]; omega), List.getElem?_eq_none (by rw [fl5_len]; simp; omega)]
end Go.Proofs.Ytcgbmcnefolgcaa
