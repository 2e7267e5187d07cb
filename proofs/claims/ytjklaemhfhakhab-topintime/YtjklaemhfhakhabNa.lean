/- Rows of stretches appended to each other; size. -/
import Derived.Test.YtjklaemhfhakhabGb
import Derived.Deep.Upon
import Derived.Deep.AppendLies
namespace Go.Proofs.Ytjklaemhfhakhab
open Go.ChangeShapes Go.WideShapes Go.ChangeAt Go.RowKit

theorem fl4_one (D : List Sl) : ∀ u ∈ fl4 D, u.oneCell' = true := by
  intro u hu
  obtain ⟨s, _, h⟩ := List.mem_flatMap.1 hu
  exact sl_one s u h
theorem SO.cells {b : Nat} {w : World} {q : Option Addr} {n cq : Nat} {S : List Sl} (h : SO b w (.slice q n cq) S) (hp : 0 < n) : ∃ g, q = some ⟨g, 0, none⟩ ∧ ∀ (j : Nat) (u : Value), (fl4 S)[j]? = some u → w.cell? ((⟨g, 0, none⟩ : Addr).add j) = some u := by
  have hl := SO.len h
  rcases h.2 with ⟨h0, h1⟩ | ⟨g, cap', cur, e, h1, h2, h3, h4, h5, h6⟩
  · omega
  · simp only [Value.slice.injEq] at e
    obtain ⟨rfl, rfl, rfl⟩ := e
    refine ⟨g, rfl, fun j u hu => ?_⟩
    rw [addr_add, Nat.zero_add]
    rw [← h6, List.getElem?_take] at hu
    split at hu
    · unfold World.cell?
      simp only [h2]
      rw [Array.getElem?_toList] at hu
      simpa using hu
    · cases hu
theorem app_so {w : World} {base b' m c ty : Nat} {p q : Option Addr} {n cq : Nat} {D S : List Sl} (hown : SO base w (.slice p m c) D) (hv : SO b' w (.slice q n cq) S) (hmn : m + n ≤ 4000000) (hbase : base ≤ w.heap.size) :
    ∃ p' c' w', (Builtin.append_ #[33, 33] ty #[.slice p m c, .slice q n cq]).run Try.prog w = .ok (.slice p' (m + n) c') w' ∧ SO base w' (.slice p' (m + n) c') (D ++ S) ∧ w.grownBy w' (Value.slice p m c).ownBlock := by
  obtain ⟨i0, hi, hz0, hz1, hz2⟩ := info_parts info42
  have hl := SO.len hown
  have hs := SO.len hv
  rcases Nat.eq_zero_or_pos n with rfl | hp
  · have hS : S = [] := List.length_eq_zero_iff.1 hs
    subst hS
    have hmc : m ≤ c := by
      rcases hown.2 with ⟨h0, h1⟩ | ⟨g, cap', cur, e, h1, h2, h3, h4, h5, h6⟩
      · simp only [Value.slice.injEq] at h0; omega
      · simp only [Value.slice.injEq] at e; omega
    have hqf : ∃ a, q = none ∨ q = some a := by
      cases q with
      | none => exact ⟨⟨0, 0, none⟩, Or.inl rfl⟩
      | some a => exact ⟨a, Or.inr rfl⟩
    refine ⟨p, c, w, ?_, ?_, World.grownBy.refl _ _⟩
    · refine run_append_nothing w 33 33 ty 38 i0 Try.underlying33 hi _ m c hmc _ ?_
      cases q with
      | none => exact Src.ofNil w Try.underlying33 cq
      | some a => exact Src.ofSlice w Try.underlying33 a 0 cq [] (by simp) (fun j u h => by simp at h) (fun u h => by cases h)
    · simpa using hown
  · obtain ⟨g0, rfl, hr⟩ := hv.cells hp
    have hown' : w.ownsRow base 38 4 (.slice p m c) m (fl4 D) := by have := hown; unfold SO at this; rwa [hl] at this
    obtain ⟨g, cap, w', h1, h2, h3, h4, _⟩ := run_append_lies (P := Try.prog) w 33 ty base 38 i0 (.agg #[.int .i64 0, .int .i64 0, .int .i64 0, .bool false]) 4 32 Try.underlying33 hi hz0 hz1 hz2 rfl (by omega) (.slice p m c) m (fl4 D) hown' ⟨g0, 0, none⟩ n cq (fl4 S) (by rw [fl4_len, hs]) hr (fl4_one _) hp (by unfold maxLen; omega) (by omega) hbase w.heap.size rfl
    refine ⟨_, cap, w', h1, ?_, h3⟩
    unfold SO fl4 at *
    rw [List.length_append, hs, hl, List.flatMap_append]
    exact h2
theorem wpList_app_so {ops : Array Oper} {rest : List Oper} {o : Oper} {a : Act} {w : World} {Q : Exit → Act → World → Prop} (hgd : o.guard = none) (s x : Operand)
    (ho : o.op = .call { callee := .builtin .append, args := #[s, x], argTypes := #[33, 33] })
    (base b' m c : Nat) (p q : Option Addr) (n cq : Nat) (D S : List Sl) (hs : a.eval s = .slice p m c) (hx : a.eval x = .slice q n cq) (hown : SO base w (.slice p m c) D) (hv : SO b' w (.slice q n cq) S) (hmn : m + n ≤ 4000000) (hbase : base ≤ w.heap.size)
    (h : ∀ p' c' w', SO base w' (.slice p' (m + n) c') (D ++ S) → w.grownBy w' (Value.slice p m c).ownBlock → wpList Try.prog ops Q rest (a.put o.dst (.slice p' (m + n) c')) w') : wpList Try.prog ops Q (o :: rest) a w := by
  refine wpList_plain hgd fun K hK => ?_
  obtain ⟨p', c', w', h1, h2, h3⟩ := app_so (ty := o.type) hown hv hmn hbase
  unfold Oper.wp execOp
  simp only [ho, resolve, invoke, builtin, Sem.run_bind, Sem.run_pure, Result.andThen_ok, List.map_toArray, List.map_cons, List.map_nil, hs, hx, h1]
  exact hK _ _ (h p' c' w' h2 h3)
/-- A number from 1 to m. -/
def szN (x m : Int) : Int := (x.tmod m + m).tmod m + 1
theorem szN_in (x : Int) {m : Int} (hm : 1 ≤ m) : 1 ≤ szN x m ∧ szN x m ≤ m := by
  unfold szN
  have b1 := tmod_in x hm
  have b2 := tmod_in (x.tmod m + m) hm
  have b3 := Int.tmod_nonneg m (show 0 ≤ x.tmod m + m by omega)
  omega
set_option maxRecDepth 20000 in
theorem t4 {w : World} (x : Int) {m : Int} (h1 : 1 ≤ m) (h2 : m ≤ 1000) : Calls Try.prog 4 #[.int .i64 x, .int .i64 m] w (fun e w' => e = .returned (.int .i64 (szN x m)) ∧ w' = w) := by
  have m0 : ¬ m = 0 := by omega
  have m1 : 0 < m := by omega
  obtain ⟨a1, ha1⟩ : ∃ a1, x.tmod m = a1 := ⟨_, rfl⟩
  have b1 := tmod_in x h1
  rw [ha1] at b1
  obtain ⟨a2, ha2⟩ : ∃ a2, (a1 + m).tmod m = a2 := ⟨_, rfl⟩
  have b2 := tmod_in (a1 + m) h1
  have b3 := Int.tmod_nonneg m (show 0 ≤ a1 + m by omega)
  rw [ha2] at b2 b3
  have p2 : (a1 + m) % m = a2 := by rw [← ha2, Int.tmod_eq_emod_of_nonneg (by omega)]
  have e3 : 0 ≤ a1 + m := by omega
  have s1 : a1 + m ≤ 2000 := by omega
  have s2 : szN x m = a2 + 1 := by unfold szN; rw [ha1, ha2]
  rw [s2]
  clear s2
  go_enter Try.func4, Try.ntmps4
  go_wp2
  go_ret
  exact ⟨rfl, rfl⟩
end Go.Proofs.Ytjklaemhfhakhab
