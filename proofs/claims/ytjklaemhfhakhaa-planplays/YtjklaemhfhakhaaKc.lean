/- A row of jobs more behind a task's. -/
import Derived.Test.YtjklaemhfhakhaaKb
import Derived.Test.YtjklaemhfhakhaaEe
import Derived.Test.YtjklaemhfhakhaaEa
import Derived.ArgAppend
namespace Go.Proofs.Ytjklaemhfhakhaa
open Go.ChangeShapes Go.WideShapes Go.ChangeAt Go.RowKit

/-- What has been kept while a plan has been turned, blocks of its own may have come. -/
structure KeptG (n : Nat) (w w' : World) (L L' : Ly) : Prop where
  ok : L'.Ok n
  bp : L'.bp = L.bp
  own : ∀ b, L'.Own n b → L.Own n b ∨ w.heap.size ≤ b
  kp : Kp (fun b => ¬ L.Own n b) w w'
theorem Kept.g {n : Nat} {w w' : World} {L L' : Ly} (h : Kept n w w' L L') : KeptG n w w' L L' := ⟨h.ok, h.bp, fun b hb => Or.inl (h.own b hb), h.kp⟩
/-- Where a task's rows lie. -/
def Ly.move (L : Ly) (i g o c : Nat) : Ly := { L with br := upd L.br i g, ro := upd L.ro i o, rc := upd L.rc i c }
theorem Ly.move_ok {L : Ly} {n i g o c : Nat} (h : L.Ok n) (h1 : g ≠ L.bp) (h2 : g ≠ L.bt) (h3 : ∀ j, j < n → j ≠ i → g ≠ L.br j) : (L.move i g o c).Ok n := by
  refine ⟨h.pt, fun j hj => ?_, fun j hj => ?_, fun j k hj hk hjk => ?_⟩
  · show upd L.br i g j ≠ L.bp
    by_cases q : j = i
    · subst q; rw [upd_at]; exact h1
    · rw [upd_ne _ _ q]; exact h.rp j hj
  · show upd L.br i g j ≠ L.bt
    by_cases q : j = i
    · subst q; rw [upd_at]; exact h2
    · rw [upd_ne _ _ q]; exact h.rt j hj
  · show upd L.br i g j ≠ upd L.br i g k
    by_cases q : j = i
    · subst q
      rw [upd_at, upd_ne _ _ (fun e => hjk e.symm)]
      exact h3 k hk (fun e => hjk e.symm)
    · rw [upd_ne _ _ q]
      by_cases q2 : k = i
      · subst q2
        rw [upd_at]
        exact fun e => h3 j hj q e.symm
      · rw [upd_ne _ _ q2]; exact h.rr j k hj hk hjk
theorem Ly.move_own {L : Ly} {n i g o c b : Nat} (hi : i < n) (h : (L.move i g o c).Own n b) : L.Own n b ∨ b = g := by
  rcases h with rfl | rfl | ⟨j, hj, rfl⟩
  · exact Or.inl (Or.inl rfl)
  · exact Or.inl (Or.inr (Or.inl rfl))
  · show L.Own n (upd L.br i g j) ∨ upd L.br i g j = g
    by_cases q : j = i
    · subst q; rw [upd_at]; exact Or.inr rfl
    · rw [upd_ne _ _ q]; exact Or.inl (Or.inr (Or.inr ⟨j, hj, rfl⟩))
/-- A row more. -/
def Crs.more (c : Crs) (x : Rw) : Crs := ⟨c.hd, c.tl ++ [x], c.done⟩
theorem PW.grown {w w' : World} {L : Ly} {n : Nat} {p : Pl} (h : PW w L n p) (hL : L.Ok n) {i : Nat} (hi : i < n) (x : Rw) {g o c : Nat}
    (hk : Kp (fun b => b ≠ L.bt ∧ b ≠ L.br i) w w') (ht : ∀ k, k ≠ i * 2 → w'.cell? ⟨L.bt, k, none⟩ = w.cell? ⟨L.bt, k, none⟩)
    (hc : w'.cell? ⟨L.bt, i * 2, none⟩ = some (.slice (some ⟨g, o, none⟩) ((p.c i).tl.length + 2) c)) (hf : ∀ k, w'.frozen? ⟨L.bt, k, none⟩ = false) (hg : ∀ k, w'.frozen? ⟨g, k, none⟩ = false)
    (hr : ∀ j y, ((p.c i).hd :: ((p.c i).tl ++ [x]))[j]? = some y → RowAt w' g (o + j * 4) y) (hcap : (p.c i).tl.length + 2 ≤ c) (hsp : ∀ k, k < c * 4 → (w'.cell? ⟨g, o + k, none⟩).isSome = true) :
    PW w' (L.move i g o c) n (p.set i ((p.c i).more x)) := by
  have hp0 : L.bp ≠ L.bt ∧ L.bp ≠ L.br i := ⟨hL.pt, fun e => hL.rp i hi e.symm⟩
  refine ⟨hk.cell hp0 h.p0, hk.cell hp0 h.p1, fun j hj => ?_, fun j hj => ?_, fun j hj k y hy => ?_, fun j hj => ?_, fun j hj k hk' => ?_, Nat.lt_of_lt_of_le h.lp hk.size, Nat.lt_of_lt_of_le h.lt hk.size, fun k => hk.frozen hp0 h.lp (h.fp k), hf, fun j hj k => ?_⟩
  · show w'.cell? ⟨L.bt, j * 2, none⟩ = some (.slice (some ⟨upd L.br i g j, upd L.ro i o j, none⟩) _ (upd L.rc i c j))
    by_cases q : j = i
    · subst q
      rw [Pl.set_at, upd_at, upd_at, upd_at]
      show _ = some (Value.slice _ (((p.c j).tl ++ [x]).length + 1) c)
      rw [List.length_append]
      exact hc
    · rw [Pl.set_ne _ _ q, upd_ne _ _ q, upd_ne _ _ q, upd_ne _ _ q, ht _ (by omega)]
      exact h.cr j hj
  · show w'.cell? ⟨L.bt, j * 2 + 1, none⟩ = _
    rw [ht _ (by omega), h.cd j hj]
    by_cases q : j = i
    · subst q; rw [Pl.set_at]; rfl
    · rw [Pl.set_ne _ _ q]
  · show RowAt w' (upd L.br i g j) (upd L.ro i o j + k * 4) y
    by_cases q : j = i
    · subst q
      rw [Pl.set_at] at hy
      rw [upd_at, upd_at]
      exact hr k y hy
    · rw [Pl.set_ne _ _ q] at hy
      rw [upd_ne _ _ q, upd_ne _ _ q]
      exact (h.rw' j hj k y hy).kp hk ⟨hL.rt j hj, hL.rr j i hj hi q⟩
  · show _ ≤ upd L.rc i c j
    by_cases q : j = i
    · subst q
      rw [Pl.set_at, upd_at]
      show ((p.c j).tl ++ [x]).length + 1 ≤ c
      rw [List.length_append]
      exact hcap
    · rw [Pl.set_ne _ _ q, upd_ne _ _ q]
      exact h.cap j hj
  · change k < upd L.rc i c j * 4 at hk'
    show (w'.cell? ⟨upd L.br i g j, upd L.ro i o j + k, none⟩).isSome = true
    by_cases q : j = i
    · subst q
      rw [upd_at] at hk'
      rw [upd_at, upd_at]
      exact hsp k hk'
    · rw [upd_ne _ _ q] at hk'
      rw [upd_ne _ _ q, upd_ne _ _ q]
      obtain ⟨v, hv⟩ := Option.isSome_iff_exists.1 (h.sp j hj k hk')
      rw [hk.cell ⟨hL.rt j hj, hL.rr j i hj hi q⟩ hv]; rfl
  · show w'.frozen? ⟨upd L.br i g j, k, none⟩ = false
    by_cases q : j = i
    · subst q; rw [upd_at]; exact hg k
    · rw [upd_ne _ _ q]
      exact hk.frozen (a := ⟨L.br j, k, none⟩) ⟨hL.rt j hj, hL.rr j i hj hi q⟩ (h.lr hj) (h.fr j hj k)
def rwL (x : Rw) : List Value := [.int .i64 x.nx, .int .i64 x.e, .int .i64 x.l, .int .i64 x.r]
def rwF (D : List Rw) : List Value := D.flatMap rwL
theorem rwF_len : ∀ D : List Rw, (rwF D).length = D.length * 4
  | [] => rfl
  | p :: D => by
    unfold rwF
    rw [List.flatMap_cons, List.length_append]
    have := rwF_len D
    unfold rwF at this
    rw [this]
    simp [rwL]
    omega
theorem rwF_at : ∀ {D : List Rw} {i k : Nat} {x : Rw} (_ : D[i]? = some x) (_ : k < 4), (rwF D)[i * 4 + k]? = (rwL x)[k]?
  | p :: D, 0, k, x, h, hk => by
    simp only [List.getElem?_cons_zero, Option.some.injEq] at h
    subst h
    unfold rwF
    rw [List.flatMap_cons, List.getElem?_append_left (by simp [rwL]; omega)]
    simp
  | p :: D, i + 1, k, x, h, hk => by
    unfold rwF
    rw [List.flatMap_cons, List.getElem?_append_right (by simp [rwL]; omega)]
    have := rwF_at (D := D) (i := i) (k := k) (x := x) (by simpa using h) hk
    unfold rwF at this
    rw [show (i + 1) * 4 + k - (rwL p).length = i * 4 + k by simp [rwL]; omega, this]
theorem rwF_one (D : List Rw) : ∀ u ∈ rwF D, u.oneCell' = true := by
  intro u hu
  obtain ⟨s, _, h⟩ := List.mem_flatMap.1 hu
  simp only [rwL, List.mem_cons, List.not_mem_nil, or_false] at h
  rcases h with rfl | rfl | rfl | rfl <;> rfl
theorem RowAt.of {w : World} {g o : Nat} {x : Rw} (h : ∀ k v, k < 4 → (rwL x)[k]? = some v → w.cell? ⟨g, o + k, none⟩ = some v) : RowAt w g o x :=
  ⟨h 0 _ (by omega) rfl, h 1 _ (by omega) rfl, h 2 _ (by omega) rfl, h 3 _ (by omega) rfl⟩
theorem RowAt.get {w : World} {g o : Nat} {x : Rw} (h : RowAt w g o x) : ∀ {k : Nat} {v : Value}, k < 4 → (rwL x)[k]? = some v → w.cell? ⟨g, o + k, none⟩ = some v
  | 0, v, _, e => by simp [rwL] at e; subst e; exact h.nx
  | 1, v, _, e => by simp [rwL] at e; subst e; exact h.e
  | 2, v, _, e => by simp [rwL] at e; subst e; exact h.l
  | 3, v, _, e => by simp [rwL] at e; subst e; exact h.r
  | k + 4, _, h, _ => by omega
theorem rows_cells {w : World} {g o : Nat} {D : List Rw} (h : ∀ j y, D[j]? = some y → RowAt w g (o + j * 4) y) : ∀ (j : Nat) (u : Value), (rwF D)[j]? = some u → w.cell? ⟨g, o + j, none⟩ = some u := by
  intro j u hj
  have hl : j < D.length * 4 := by
    rw [← rwF_len]
    rcases Nat.lt_or_ge j (rwF D).length with q | q
    · exact q
    · rw [List.getElem?_eq_none q] at hj; cases hj
  obtain ⟨i, k, hk, rfl⟩ : ∃ i k, k < 4 ∧ j = i * 4 + k := ⟨j / 4, j % 4, by omega, by omega⟩
  have hi : i < D.length := by omega
  have hx : D[i]? = some D[i] := List.getElem?_eq_getElem hi
  rw [rwF_at hx hk] at hj
  have := (h i _ hx).get hk hj
  rwa [show o + (i * 4 + k) = o + i * 4 + k by omega]
theorem cells_rows {w : World} {g o : Nat} {D : List Rw} (h : ∀ (j : Nat) (u : Value), (rwF D)[j]? = some u → w.cell? ⟨g, o + j, none⟩ = some u) : ∀ j y, D[j]? = some y → RowAt w g (o + j * 4) y := by
  intro j y hy
  refine RowAt.of fun k v hk hv => ?_
  rw [← rwF_at hy hk] at hv
  rw [show o + j * 4 + k = o + (j * 4 + k) by omega]
  exact h _ _ hv
theorem info67 : (Try.prog.info? 67).map (fun i => (i.zero, i.size, i.bytes)) = some (some (.agg #[.int .i64 0, .int .i64 0, .int .i64 0, .int .i64 0]), 4, 32) := by kernel_rfl
/-- What an append of a row leaves. -/
structure AppR (w w' : World) (g : Nat) (D : List Rw) (z : Rw) (g' o' c' : Nat) : Prop where
  at' : g' = g ∨ w.heap.size ≤ g'
  kp : Kp (fun b => b ≠ g) w w'
  rows : ∀ j y, (D ++ [z])[j]? = some y → RowAt w' g' (o' + j * 4) y
  cap : D.length + 1 ≤ c'
  sp : ∀ k, k < c' * 4 → (w'.cell? ⟨g', o' + k, none⟩).isSome = true
  fr : ∀ k, w'.frozen? ⟨g', k, none⟩ = false
  lt : g' < w'.heap.size
theorem rwF_app (D : List Rw) (z : Rw) : rwF D ++ rwL z = rwF (D ++ [z]) := by
  unfold rwF
  rw [List.flatMap_append]
  simp
theorem AppR.room {w : World} {g o c : Nat} {D : List Rw} {z : Rw} (hr : ∀ j y, D[j]? = some y → RowAt w g (o + j * 4) y) (hc : D.length + 1 ≤ c) (hsp : ∀ k, k < c * 4 → (w.cell? ⟨g, o + k, none⟩).isSome = true) (hf : ∀ k, w.frozen? ⟨g, k, none⟩ = false) (hl : g < w.heap.size) : AppR w (w.setCells g (o + D.length * 4) (rwL z)) g D z g o c := by
  have hk : Kp (fun b => b ≠ g) w (w.setCells g (o + D.length * 4) (rwL z)) := (((Kp.set _ w (fun q => q rfl) _).setCell (fun q => q rfl) _).setCell (fun q => q rfl) _).setCell (fun q => q rfl) _
  have h4 : (rwL z).length = 4 := rfl
  refine ⟨Or.inl rfl, hk, cells_rows fun j u hj => ?_, hc, fun k hk' => ?_, fun k => by rw [World.frozen?_setCells]; exact hf k, Nat.lt_of_lt_of_le hl hk.size⟩
  · rw [← rwF_app] at hj
    rcases Nat.lt_or_ge j (D.length * 4) with q | q
    · rw [List.getElem?_append_left (by rw [rwF_len]; exact q)] at hj
      rw [World.cell?_setCells_out g _ _ _ _ (fun _ _ => Or.inl (by show o + j < _; omega))]
      exact rows_cells hr j u hj
    · rw [List.getElem?_append_right (by rw [rwF_len]; exact q), rwF_len] at hj
      have hj4 : j - D.length * 4 < (rwL z).length := by
        rcases Nat.lt_or_ge (j - D.length * 4) (rwL z).length with q2 | q2
        · exact q2
        · rw [List.getElem?_eq_none q2] at hj; cases hj
      have := World.cell?_setCells_in g (rwL z) (o + D.length * 4) w (fun k hk' => by
        have := hsp (D.length * 4 + k) (by rw [h4] at hk'; omega)
        rwa [← Nat.add_assoc] at this) _ hj4
      rw [show o + j = o + D.length * 4 + (j - D.length * 4) by omega, this]
      rw [List.getElem?_eq_getElem hj4] at hj
      exact hj
  · show ((((( w.setCell _ _).setCell _ _).setCell _ _).setCell _ _).cell? _).isSome = true
    exact some_set (some_set (some_set (some_set (hsp k hk'))))
theorem AppR.grow {w w' : World} {g : Nat} {D : List Rw} {z : Rw} {v : Value} {n : Nat} (hn : D.length = n) (h : w'.ownsRow w.heap.size 67 4 v (n + 1) (rwF D ++ rwL z)) (hg : w.grownBy w' none) : ∃ g' c', v = .slice (some ⟨g', 0, none⟩) (n + 1) c' ∧ AppR w w' g D z g' 0 c' := by
  have hall := h
  rcases h.2 with ⟨_, h0⟩ | ⟨g', c', cur, rfl, h1, h2, h3, h4, h5, h6⟩
  · omega
  · refine ⟨g', c', rfl, Or.inr h1, (Kp.grown hg).mono (fun k _ _ e => by cases e), cells_rows fun j u hj => ?_, by rw [hn]; exact h3, fun k hk => ?_, fun k => hall.frozenAt k, (Array.getElem?_eq_some_iff.1 h2).1⟩
    · have hl : j < (n + 1) * 4 := by
        rcases Nat.lt_or_ge j (rwF (D ++ [z])).length with q | q
        · rw [rwF_len, List.length_append, hn] at q; exact q
        · rw [List.getElem?_eq_none q] at hj; cases hj
      rw [Nat.zero_add, hall.cellAt j hl, rwF_app]
      exact hj
    · rw [Nat.zero_add]
      unfold World.cell?
      simp only [h2]
      simp
      omega
/-- Both ways of an append of a row. -/
theorem run_row {w : World} (ty : TypeId) {g off n cap b : Nat} {D : List Rw} {z : Rw} (hD : D.length = n) (hr : ∀ j y, D[j]? = some y → RowAt w g (off + j * 4) y) (hz : RowAt w b 0 z) (hsp : ∀ k, k < cap * 4 → (w.cell? ⟨g, off + k, none⟩).isSome = true) (hf : ∀ k, w.frozen? ⟨g, k, none⟩ = false) (hl : g < w.heap.size) (hn : n ≤ 2000000) :
    ∃ g' o' c' w', (Builtin.append_ #[68, 68] ty #[.slice (some ⟨g, off, none⟩) n cap, .slice (some ⟨b, 0, none⟩) 1 1]).run Try.prog w = .ok (.slice (some ⟨g', o', none⟩) (n + 1) c') w' ∧ AppR w w' g D z g' o' c' := by
  obtain ⟨i0, hi, hz0, hz1, hz2⟩ := info_parts info67
  have hnew : ∀ (j : Nat) (u : Value), (rwL z)[j]? = some u → w.cell? ((⟨b, 0, none⟩ : Addr).add j) = some u := fun j u hj => by
    rw [addr_add, Nat.zero_add]
    have h4 : j < 4 := by
      rcases Nat.lt_or_ge j 4 with q | q
      · exact q
      · rw [List.getElem?_eq_none q] at hj; cases hj
    have := hz.get h4 hj
    rwa [Nat.zero_add] at this
  have h1 : ∀ u ∈ rwL z, u.oneCell' = true := fun u hu => rwF_one [z] u (by simpa [rwF] using hu)
  have h4 : (rwL z).length = 4 := rfl
  by_cases hc : n + 1 ≤ cap
  · have hrun := run_append_room_cells (P := Try.prog) w 68 ty 67 i0 Try.underlying68 hi g off n cap ⟨b, 0, none⟩ 1 1 (rwL z) (by rw [hz1]; rfl) hnew h1 hc (fun j hj => by
        have := hsp (n * 4 + j) (by rw [h4] at hj; omega)
        rw [hz1]
        rwa [← Nat.add_assoc] at this) (fun j _ => hf _)
    rw [hz1] at hrun
    have := AppR.room (w := w) (z := z) hr (by rw [hD]; exact hc) hsp hf hl
    rw [hD] at this
    exact ⟨_, _, _, _, hrun, this⟩
  · obtain ⟨v', w', hrun, r1, r2⟩ := run_append_arg_grows (P := Try.prog) w 68 ty 67 i0 (.agg #[.int .i64 0, .int .i64 0, .int .i64 0, .int .i64 0]) 4 32 Try.underlying68 hi hz0 hz1 hz2 rfl (by decide) ⟨g, off, none⟩ n cap (rwF D) (by rw [rwF_len, hD]) (fun j u hj => by rw [Addr.add_lit]; exact rows_cells hr j u hj) ⟨b, 0, none⟩ 1 1 (rwL z) rfl hnew (by omega) (by unfold maxLen; omega) (by omega)
    obtain ⟨g', c', rfl, k⟩ := AppR.grow (g := g) hD r1 r2
    exact ⟨_, _, _, _, hrun, k⟩
/-- One operation of a drawn region, run. -/
theorem wpOp_one {P : Program} {ops : Array Oper} {Q : Exit → Act → World → Prop} {K : Act → World → Prop} {a : Act} {w w' : World} {m : Nat} {o : Oper} {v : Value} (d : Option Tmp) (ho : ops[m]? = some o) (hd : o.dst = d) (hg : o.guard = none) (hr : (execOp a.eval o).run P w = .ok (.value v) w') (h : K (a.put d v) w') : wpOp P ops Q m K a w := by
  subst hd
  unfold wpOp
  have hw : Region.wanted o (yielded ops a.tmps) = true := by simp [Region.wanted, hg]
  simp only [ho, hw, if_true]
  left
  unfold Oper.wp
  rw [hr]
  exact h
theorem wpOp_row {ops : Array Oper} {Q : Exit → Act → World → Prop} {K : Act → World → Prop} {a : Act} {w : World} {m : Nat} {o : Oper} (d : Option Tmp) (ho : ops[m]? = some o) (hd : o.dst = d) (hg : o.guard = none) (s x : Operand) (hop : o.op = .call { callee := .builtin .append, args := #[s, x], argTypes := #[68, 68] })
    {g off n cap b : Nat} {D : List Rw} {z : Rw} (hs : a.eval s = .slice (some ⟨g, off, none⟩) n cap) (hx : a.eval x = .slice (some ⟨b, 0, none⟩) 1 1) (hD : D.length = n) (hr : ∀ j y, D[j]? = some y → RowAt w g (off + j * 4) y) (hz : RowAt w b 0 z) (hsp : ∀ k, k < cap * 4 → (w.cell? ⟨g, off + k, none⟩).isSome = true) (hf : ∀ k, w.frozen? ⟨g, k, none⟩ = false) (hl : g < w.heap.size) (hn : n ≤ 2000000)
    (h : ∀ g' o' c' w', Hid (AppR w w' g D z g' o' c') → K (a.put d (.slice (some ⟨g', o', none⟩) (n + 1) c')) w') : wpOp Try.prog ops Q m K a w := by
  obtain ⟨g', o', c', w', hrun, k⟩ := run_row o.type hD hr hz hsp hf hl hn
  refine wpOp_one (v := .slice (some ⟨g', o', none⟩) (n + 1) c') (w' := w') d ho hd hg ?_ (h _ _ _ _ k)
  unfold execOp
  simp only [hop, resolve, invoke, builtin, Sem.run_bind, Sem.run_pure, Result.andThen_ok, List.map_toArray, List.map_cons, List.map_nil, hs, hx, hrun]
end Go.Proofs.Ytjklaemhfhakhaa
