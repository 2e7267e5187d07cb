/- Rows of tasks; few. -/
import Derived.Test.YtjklaemhfhakhaaEe
import Derived.Deep.DeepCutAuto
namespace Go.Proofs.Ytjklaemhfhakhaa
open Go.ChangeShapes Go.WideShapes Go.ChangeAt Go.RowKit

theorem info26 : (Try.prog.info? 26).map (fun i => (i.zero, i.size, i.bytes)) = some (some (.agg #[.int .i64 0, .int .i64 0, .int .i64 0]), 3, 24) := by kernel_rfl
def Tk.zero : Tk := ⟨0, 0, 0⟩
def tL (s : Tk) : List Value := [.int .i64 s.e, .int .i64 s.l, .int .i64 s.r]
def fl3 (D : List Tk) : List Value := D.flatMap tL
theorem fl3_len : ∀ D : List Tk, (fl3 D).length = D.length * 3
  | [] => rfl
  | p :: D => by
    unfold fl3
    rw [List.flatMap_cons, List.length_append]
    have := fl3_len D
    unfold fl3 at this
    rw [this]
    simp [tL]
    omega
theorem fl3_at : ∀ {D : List Tk} {i k : Nat} (_ : i < D.length) (_ : k < 3), (fl3 D)[i * 3 + k]? = (tL (D.getD i Tk.zero))[k]?
  | p :: D, 0, k, _, hk => by
    unfold fl3
    rw [List.flatMap_cons, List.getElem?_append_left (by simp [tL]; omega)]
    simp
  | p :: D, i + 1, k, hi, hk => by
    unfold fl3
    rw [List.flatMap_cons, List.getElem?_append_right (by simp [tL]; omega)]
    have := fl3_at (D := D) (i := i) (k := k) (by simpa using hi) hk
    unfold fl3 at this
    rw [show (i + 1) * 3 + k - (tL p).length = i * 3 + k by simp [tL]; omega, this]
    simp
/-- A row of tasks of one's own. -/
def TO (b : Nat) (w : World) (v : Value) (D : List Tk) : Prop := w.ownsRow b 26 3 v D.length (fl3 D)
theorem TO.up {b : Nat} {w w' : World} {v : Value} {D : List Tk} (h : TO b w v D) (hu : Up w w') : TO b w' v D := owns_kp (F := fun _ => True) h (Kp.of_up hu) (fun _ _ => trivial)
theorem TO.nil (b : Nat) (w : World) : TO b w (.slice none 0 0) [] := ⟨by simp [fl3], Or.inl ⟨rfl, rfl⟩⟩
theorem TO.len {b : Nat} {w : World} {p : Option Addr} {n cap : Nat} {D : List Tk} (h : TO b w (.slice p n cap) D) : D.length = n := by
  obtain ⟨p', cap', he, _⟩ := own_form h
  simp only [Value.slice.injEq] at he
  exact he.2.1.symm
theorem TO.tl {b : Nat} {w : World} {p : Option Addr} {n cap : Nat} {D : List Tk} (h : TO b w (.slice p n cap) D) : TL w p n cap (fun i => D.getD i Tk.zero) := by
  have hl := h.len
  rcases h.2 with ⟨h0, h1⟩ | ⟨g, cap', cur, e, h1, h2, h3, h4, h5, h6⟩
  · simp only [Value.slice.injEq] at h0
    exact ⟨by omega, fun q => by omega⟩
  · simp only [Value.slice.injEq] at e
    obtain ⟨rfl, e2, rfl⟩ := e
    refine ⟨by omega, fun _ => ⟨g, 0, rfl, fun i hi => ?_⟩⟩
    have c : ∀ k v, k < 3 → (tL (D.getD i Tk.zero))[k]? = some v → w.cell? ⟨g, i * 3 + k, none⟩ = some v := fun k v hk hv => by
      rw [← fl3_at (by omega) hk, ← h6, List.getElem?_take, if_pos (by omega)] at hv
      unfold World.cell?
      simp only [h2]
      rw [Array.getElem?_toList] at hv
      simpa using hv
    rw [Nat.zero_add]
    exact ⟨c 0 _ (by omega) rfl, c 1 _ (by omega) rfl, c 2 _ (by omega) rfl⟩
theorem tk_new (w : World) (s : Tk) (t : TypeId) : ∀ j u, (tL s)[j]? = some u → (w.alloc (.cells #[.int .i64 s.e, .int .i64 s.l, .int .i64 s.r] t)).cell? ((⟨w.heap.size, 0, none⟩ : Addr).add j) = some u := by
  intro j u hj
  rw [addr_add, Nat.zero_add]
  rw [(row_cell (heap_alloc_last w _) j).1]
  have : (tL s).toArray = #[.int .i64 s.e, .int .i64 s.l, .int .i64 s.r] := rfl
  rw [← this, List.getElem?_toArray]
  exact hj
theorem tk_one (s : Tk) : ∀ u ∈ tL s, u.oneCell' = true := by
  intro u hu
  simp only [tL, List.mem_cons, List.not_mem_nil, or_false] at hu
  rcases hu with rfl | rfl | rfl <;> rfl
/-- One task more. -/
theorem wpList_push3 {ops : Array Oper} {rest : List Oper} {o : Oper} {a : Act} {Q : Exit → Act → World → Prop} (hgd : o.guard = none) (s x : Operand) (ho : o.op = .call { callee := .builtin .append, args := #[s, x], argTypes := #[22, 22] })
    {b : Nat} {w : World} {z : Tk} (p : Option Addr) (m c : Nat) (D : List Tk) (hs : a.eval s = .slice p m c) (hx : a.eval x = .slice (some ⟨w.heap.size, 0, none⟩) 1 1) (HO : TO b w (.slice p m c) D) (hb : b ≤ w.heap.size) (hm : m ≤ 2000000)
    (h : ∀ p' c' w', Hid (TO b w' (.slice p' (m + 1) c') (D ++ [z])) → Hid ((w.alloc (.cells #[.int .i64 z.e, .int .i64 z.l, .int .i64 z.r] 26)).grownBy w' (Value.slice p m c).ownBlock) → wpList Try.prog ops Q rest (a.put o.dst (.slice p' (m + 1) c')) w') : wpList Try.prog ops Q (o :: rest) a (w.alloc (.cells #[.int .i64 z.e, .int .i64 z.l, .int .i64 z.r] 26)) := by
  obtain ⟨i0, hi, hz0, hz2, hz3⟩ := info_parts info26
  have hl := TO.len HO
  have HO' : (w.alloc (.cells #[.int .i64 z.e, .int .i64 z.l, .int .i64 z.r] 26)).ownsRow b 26 3 (.slice p m c) m (fl3 D) := by
    have := World.ownsRow.alloc HO (.cells #[.int .i64 z.e, .int .i64 z.l, .int .i64 z.r] 26)
    rwa [hl] at this
  refine wpList_append_own_at _ hgd s x 22 ho b 26 i0 (.agg #[.int .i64 0, .int .i64 0, .int .i64 0]) 3 24 Try.underlying22 hi hz0 hz2 hz3 rfl (by decide) _ _ _ hs HO' ⟨w.heap.size, 0, none⟩ 1 1 (tL z) hx rfl (tk_new w z 26) (tk_one _) (by unfold maxLen; omega) (by omega) (by simp; omega) ?_
  intro v' w' h1 h2 _ h4
  obtain ⟨p', c', hv, _⟩ := own_form h1
  subst hv
  refine h p' c' w' ?_ h2
  show w'.ownsRow b 26 3 _ (D ++ [z]).length (fl3 (D ++ [z]))
  unfold fl3 at *
  rw [List.length_append, hl, List.flatMap_append]
  simpa using h1
theorem up_grow {w wr w5 : World} {row : Option Nat} (hu : Up w wr) (hg : wr.grownBy w5 row) (hr : ∀ k, row = some k → w.heap.size ≤ k) : Up w w5 := by
  have k1 : Kp (fun b => b < w.heap.size) w w5 := ⟨hg.os.trans hu.os, hg.tape.trans hu.tape, hg.output.trans hu.output, Nat.le_trans hu.size hg.size, fun b hb hl => (hg.block b (Nat.lt_of_lt_of_le hl hu.size) (fun e => by have := hr b e.symm; omega)).trans (hu.block b hl)⟩
  exact k1.up fun b hb => hb
theorem tmod_in (x : Int) {m : Int} (hm : 1 ≤ m) : -m < x.tmod m ∧ x.tmod m < m := ⟨Int.lt_tmod_of_pos x (by omega), Int.tmod_lt_of_pos x (by omega)⟩
/-- What few leaves: tasks that may be. -/
def FewR (w : World) (n : Nat) (most : Int) (e : Ending) (w' : World) : Prop := ∃ q c T, e = .returned (.slice q (min n 12) c) ∧ Hid (TL w' q (min n 12) c T) ∧ Hid (∀ i, i < min n 12 → MayT (T i).e (T i).l ∧ (T i).e ≤ most) ∧ Hid (Up w w')
set_option maxRecDepth 20000 in
set_option maxHeartbeats 4000000 in
theorem t20 {w : World} {p : Option Addr} {n cap : Nat} {T : Nat → Tk} (h : TL w p n cap T) (hn : n ≤ 1152921504606846976) {most : Int} (h1 : 1 ≤ most) (h2 : most ≤ 1000) : Calls Try.prog 20 #[.slice p n cap, .int .i64 most] w (FewR w n most) := by
  have HTL : Hid (TL w p n cap T) := h
  have HN0 : Hid (n ≤ 1152921504606846976) := hn
  have HM : Hid (1 ≤ most ∧ most ≤ 1000) := ⟨h1, h2⟩
  have m0 : ¬ most = 0 := by omega
  have m1 : 0 < most := by omega
  clear h hn
  go_enter Try.func20, Try.ntmps20
  go_wp2_with fail
  go_loopw [5, 6, 7, 8] (fun v5 v6 _ _ wr => ∃ (k cc : Nat) (q : Option Addr) (D : List Tk), k ≤ 12 ∧ v6 = .int .i64 k ∧ v5 = .slice q k cc ∧ Hid (k ≤ n ∧ TO w.heap.size wr (.slice q k cc) D ∧ (∀ i, i < k → MayT (D.getD i Tk.zero).e (D.getD i Tk.zero).l ∧ (D.getD i Tk.zero).e ≤ most) ∧ Up w wr)) (fun _ v6 _ _ _ => 12 - (intOf v6).toNat)
  case atStart => exact ⟨0, 0, none, [], by omega, rfl, rfl, Nat.zero_le _, TO.nil _ _, fun i hi => by omega, Up.refl _⟩
  case round =>
    obtain ⟨k, cc, q, D, hk, rfl, rfl, HX⟩ := hrel
    rename World => wr
    by_cases hlt : k < n
    · by_cases h12 : k < 12
      · have z1 : (k : Int) < (n : Int) := by omega
        have z2 : (0 : Int) ≤ (k : Int) := by omega
        have z3 : (k : Int) < 12 := by omega
        obtain ⟨gb, o, hpp, hr⟩ := HTL.out.rd (by omega)
        obtain ⟨c0, c1, c2⟩ := (hr k hlt).up HX.out.2.2.2
        generalize T k = tk at *
        obtain ⟨e, l, r⟩ := tk
        simp only at c0 c1 c2
        subst hpp
        clear hr
        obtain ⟨a1, ha1⟩ : ∃ a1, e.tmod most = a1 := ⟨_, rfl⟩
        have b1 := tmod_in e h1
        rw [ha1] at b1
        obtain ⟨a2, ha2⟩ : ∃ a2, (a1 + most).tmod most = a2 := ⟨_, rfl⟩
        have b2 := tmod_in (a1 + most) h1
        have b3 := Int.tmod_nonneg most (show 0 ≤ a1 + most by omega)
        rw [ha2] at b2 b3
        obtain ⟨ev, hev⟩ : ∃ ev, a2 + 1 = ev := ⟨_, rfl⟩
        obtain ⟨d1, hd1⟩ : ∃ d1, l.tmod ev = d1 := ⟨_, rfl⟩
        have b4 := tmod_in l (show 1 ≤ ev by omega)
        rw [hd1] at b4
        obtain ⟨d2, hd2⟩ : ∃ d2, (d1 + ev).tmod ev = d2 := ⟨_, rfl⟩
        have b5 := tmod_in (d1 + ev) (show 1 ≤ ev by omega)
        have b6 := Int.tmod_nonneg ev (show 0 ≤ d1 + ev by omega)
        rw [hd2] at b5 b6
        have HV : Hid (MayT ev (d2 + 1) ∧ ev ≤ most) := ⟨⟨by omega, by omega, by omega⟩, by omega⟩
        have p2 : (a1 + most) % most = a2 := by rw [← ha2, Int.tmod_eq_emod_of_nonneg (by omega)]
        have p3 : (d1 + ev) % ev = d2 := by rw [← hd2, Int.tmod_eq_emod_of_nonneg (by omega)]
        have e0 : ¬ ev = 0 := by omega
        have e1 : 0 < ev := by omega
        have e2 : ev ≤ 1000 := by omega
        have e3 : 0 ≤ a1 + most := by omega
        have e4 : 0 ≤ d1 + ev := by omega
        obtain ⟨lg, hlg⟩ : ∃ lg, d2 + 1 = lg := ⟨_, rfl⟩
        rw [hlg] at HV
        have s1 : a1 + most ≤ 2000 := by omega
        have s2 : d1 + ev ≤ 2000 := by omega
        have HZ : Hid (w.heap.size ≤ wr.heap.size) := HX.out.2.2.2.size
        go_wp2_with (at_builtin; (with_reducible refine wpList_push3 (z := ⟨ev, lg, r⟩) rfl _ _ rfl q k cc D rfl rfl HX.out.2.1 HZ.out (by omega) ?_); intro p' c' w5 HS5 HG5)
        refine ⟨⟨k + 1, c', p', D ++ [⟨ev, lg, r⟩], by omega, by go_num, rfl, by omega, HS5.out, fun i hi => ?_, ?_⟩, ?_⟩
        · have hl := HX.out.2.1.len
          rw [List.getD_eq_getElem?_getD]
          rcases Nat.lt_or_ge i k with q1 | q1
          · rw [List.getElem?_append_left (by omega), ← List.getD_eq_getElem?_getD]
            exact HX.out.2.2.1 i q1
          · obtain rfl : i = k := by omega
            rw [List.getElem?_append_right (by omega), hl]
            simpa using HV.out
        · exact up_grow (HX.out.2.2.2.trans (Up.alloc _ _)) HG5.out (fun b hb => (HX.out.2.1.lt b hb).1)
        · simp [intOf]; omega
      · have z3 : ¬ (k : Int) < 12 := by omega
        go_wp2
        go_ret
        obtain rfl : k = 12 := by omega
        obtain ⟨x1, x2, x3, x4⟩ := HX.out
        have e : min n 12 = 12 := by omega
        refine ⟨q, cc, fun i => D.getD i Tk.zero, ?_, ?_, ?_, x4⟩
        · rw [e]; rfl
        · rw [e]; exact x2.tl
        · rw [e]; exact x3
    · have hx := HX.out.1
      go_wp2
      go_ret
      obtain ⟨x1, x2, x3, x4⟩ := HX.out
      obtain rfl : k = n := by omega
      have e : min k 12 = k := by omega
      refine ⟨q, cc, fun i => D.getD i Tk.zero, ?_, ?_, ?_, x4⟩
      · rw [e]; rfl
      · rw [e]; exact x2.tl
      · rw [e]; exact x3
end Go.Proofs.Ytjklaemhfhakhaa
