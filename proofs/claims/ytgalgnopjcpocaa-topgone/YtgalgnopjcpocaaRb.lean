/- A map is fed: the program's. -/
import Derived.Test.YtgalgnopjcpocaaRa
import Derived.Test.YtgalgnopjcpocaaPb
namespace Go.Proofs.Ytgalgnopjcpocaa
open Go.ChangeShapes Go.WideShapes Go.ChangeAt Go.RowKit Go.Fl Ieee
attribute [local go_sem] run_store_float isSome_set call20 call33 run_neg fold_eq fold_ne fold_lt fold_gt abs_eq

theorem Up.drew1 (w : World) : Up w w.drew := Up.drewN w 1
theorem run_store_f {P : Program} (w : World) (a : Addr) (m : Mode) (k : FloatKind) (x : Nat) (h : (w.cell? a).isSome = true) (hf : w.frozen? a = false) : (store a (.float k x) m).run P w = .ok () (w.setCell a (.float k x)) := by
  obtain ⟨u, hu⟩ := Option.isSome_iff_exists.1 h
  rw [run_store_float]
  simp [stored, hu, hf]
theorem set_but (w : World) (g k : Nat) (v : Value) : But g w (w.setCell ⟨g, k, none⟩ v) :=
  ⟨rfl, rfl, rfl, by simp, fun j _ hk => Below.heap_setCell _ _ _ j (fun e => hk (by rw [e]))⟩
/-- A step of floats in a region whose order is drawn. -/
theorem wpOp_fl {P : Program} {ops : Array Oper} {Q : Exit → Act → World → Prop} {K : Act → World → Prop} {a : Act} {w : World} {m : Nat} {o : Oper} {op : BinOp} {t1 t2 : TypeId} {x y : Operand} (ho : ops[m]? = some o) (hg : o.guard = none) (hop : o.op = .binOp op t1 x y t2) (p q : Nat) (hx : a.eval x = .float .f64 p) (hy : a.eval y = .float .f64 q) (h4 : op = .add ∨ op = .sub ∨ op = .mul ∨ op = .quo)
    (h : ∀ r n, Hid (ab r = bin op (ab p) (ab q)) → K (a.put o.dst (.float .f64 r)) (w.drewN n)) : wpOp P ops Q m K a w := by
  unfold wpOp
  have hw : Region.wanted o (yielded ops a.tmps) = true := by simp [Region.wanted, hg]
  simp only [ho, hw, if_true]
  left
  unfold Oper.wp
  obtain ⟨r, n, e, hr⟩ := run_fl (P := P) op t1 p q w h4
  have e2 : (execOp a.eval o).run P w = .ok (.value (.float .f64 r)) (w.drewN n) := by
    rcases h4 with rfl | rfl | rfl | rfl <;> simp [execOp, hop, hx, hy, eqGuard, e]
  rw [e2]
  exact h r n hr
/-- What a slice of floats holds. -/
def RF (w : World) (b o n : Nat) (f : Nat → Nat) : Prop := ∀ i, i < n → w.cell? ⟨b, o + i, none⟩ = some (.float .f64 (f i))
theorem RF.up {w w' : World} {b o n : Nat} {f : Nat → Nat} (h : RF w b o n f) (hu : Up w w') : RF w' b o n f := fun i hi => cell_up (h i hi) hu
theorem RF.two {w w' : World} {a x b o n : Nat} {f : Nat → Nat} (h : RF w b o n f) (ht : Two a x w w') (ha : b ≠ a) (hx : b ≠ x) : RF w' b o n f := fun i hi => ht.cell ha hx (h i hi)
theorem RF.but {w w' : World} {g b o n : Nat} {f : Nat → Nat} (h : RF w b o n f) (ht : But g w w') (hg : b ≠ g) : RF w' b o n f := fun i hi => ht.cell hg (h i hi)
theorem FO.rf {b : Nat} {w : World} {g n cap : Nat} {d : List Nat} (h : FO b w (.slice (some ⟨g, 0, none⟩) n cap) d) : RF w g 0 n (fun i => d[i]!) := fun i hi => by
  rw [Nat.zero_add]; exact h.cell (by rw [h.len]; exact hi)
/-- What a map tells, and what its levels become. -/
def baseF (fed : Bool) (lv : Nat → Option Nat) (f : Nat → Nat) (i : Nat) : Option Nat := if fed then lv i else ab (f i)
def overF (fed : Bool) (lv : Nat → Option Nat) (f : Nat → Nat) (i : Nat) : Option Nat := bin .sub (ab (f i)) (baseF fed lv f i)
def nextF (s : Option Nat) (fed : Bool) (lv : Nat → Option Nat) (f : Nat → Nat) (i : Nat) : Option Nat := bin .add (baseF fed lv f i) (bin .mul s (overF fed lv f i))
def FE (lo : Nat) (w : World) (M L n s : Nat) (fed : Bool) (lv : Nat → Option Nat) (f : Nat → Nat) (e : Ending) (w' : World) : Prop :=
  ∃ g cap d ov, e = .returned (.tuple #[.slice (some ⟨g, 0, none⟩) n cap, .int .i64 0]) ∧ Hid (FO w.heap.size w' (.slice (some ⟨g, 0, none⟩) n cap) ov) ∧ Hid (MP lo w' M L n s true d) ∧ Hid (Two M L w w') ∧ Hid (∀ i, i < n → ab ov[i]! = overF fed lv f i) ∧ Hid (∀ i, i < n → ab d[i]! = nextF (ab s) fed lv f i)
/-- A map that is being fed: the first k gates are done. -/
structure FSt (lo : Nat) (w wr : World) (M L G n s pb po cap k : Nat) (fed : Bool) (lv : Nat → Option Nat) (f : Nat → Nat) (d ov : List Nat) : Prop where
  mp : MP lo wr M L n s true d
  own : FO w.heap.size wr (.slice (some ⟨G, 0, none⟩) n cap) ov
  two : Two M L w wr
  rf : RF wr pb po n f
  np : pb ≠ M
  nl : pb ≠ L
  ng : pb < w.heap.size
  lm : M < w.heap.size
  ll : L < w.heap.size
  done : ∀ i, i < k → ab ov[i]! = overF fed lv f i ∧ ab d[i]! = nextF (ab s) fed lv f i
  rest : ∀ i, k ≤ i → i < n → ab d[i]! = baseF fed lv f i
theorem FSt.drewN {lo : Nat} {w wr : World} {M L G n s pb po cap k : Nat} {fed : Bool} {lv : Nat → Option Nat} {f : Nat → Nat} {d ov : List Nat} (h : FSt lo w wr M L G n s pb po cap k fed lv f d ov) (j : Nat) : FSt lo w (wr.drewN j) M L G n s pb po cap k fed lv f d ov :=
  ⟨h.mp.up (Up.drewN _ _), OR.up h.own (Up.drewN _ _), h.two.trans (Two.of_up (Up.drewN _ _)), h.rf.up (Up.drewN _ _), h.np, h.nl, h.ng, h.lm, h.ll, h.done, h.rest⟩
theorem FSt.over {lo : Nat} {w wr : World} {M L G n s pb po cap k : Nat} {fed : Bool} {lv : Nat → Option Nat} {f : Nat → Nat} {d ov : List Nat} (h : FSt lo w wr M L G n s pb po cap k fed lv f d ov) (r : Nat) : FSt lo w (wr.setCell ⟨G, k, none⟩ (.float .f64 r)) M L G n s pb po cap k fed lv f d (ov.set k r) ∧ But G wr (wr.setCell ⟨G, k, none⟩ (.float .f64 r)) := by
  obtain ⟨s1, s2⟩ := OR.put h.own k r
  have hG := (OR.at_ h.own).1
  have h1 := h.lm
  have h2 := h.ll
  have h3 := h.ng
  refine ⟨⟨h.mp.but s2 (by omega) (by omega), s1, h.two.over s2 hG, h.rf.but s2 (by omega), h.np, h.nl, h.ng, h.lm, h.ll, fun i hi => ?_, h.rest⟩, s2⟩
  obtain ⟨q1, q2⟩ := h.done i hi
  refine ⟨?_, q2⟩
  by_cases hl : i < ov.length
  · rw [get_set' ov k r hl, if_neg (by omega)]; exact q1
  · rw [getElem!_neg _ i (by simpa using hl)]
    rw [getElem!_neg _ i hl] at q1; exact q1
theorem FSt.next {lo : Nat} {w wr : World} {M L G n s pb po cap k : Nat} {fed : Bool} {lv : Nat → Option Nat} {f : Nat → Nat} {d ov : List Nat} (h : FSt lo w wr M L G n s pb po cap k fed lv f d ov) (hk : k < n) {r : Nat} (h1 : ab ov[k]! = overF fed lv f k) (h2 : ab r = nextF (ab s) fed lv f k) : FSt lo w (wr.setCell ⟨L, k, none⟩ (.float .f64 r)) M L G n s pb po cap (k + 1) fed lv f (d.set k r) ov := by
  obtain ⟨s1, s2⟩ := h.mp.put k r
  have hG := (OR.at_ h.own).1
  have g2 := h.ll
  have hl := h.mp.len
  refine ⟨s1, OR.far h.own s2 (by simp [Value.ownBlock]; omega), h.two.trans (Two.of_x s2), h.rf.but s2 h.nl, h.np, h.nl, h.ng, h.lm, h.ll, fun i hi => ?_, fun i h1 hi => ?_⟩
  · by_cases e : i = k
    · subst e
      exact ⟨h1, by rw [get_set' d i r (by omega), if_pos rfl]; exact h2⟩
    · obtain ⟨q1, q2⟩ := h.done i (by omega)
      exact ⟨q1, by rw [get_set' d k r (by omega), if_neg e]; exact q2⟩
  · rw [get_set' d k r (by omega), if_neg (by omega)]
    exact h.rest i (by omega) hi
theorem FSt.fin {lo : Nat} {w wr : World} {M L G n s pb po cap : Nat} {fed : Bool} {lv : Nat → Option Nat} {f : Nat → Nat} {d ov : List Nat} (h : FSt lo w wr M L G n s pb po cap n fed lv f d ov) : FE lo w M L n s fed lv f (.returned (.tuple #[.slice (some ⟨G, 0, none⟩) n cap, .int .i64 0])) wr :=
  ⟨G, cap, d, ov, rfl, h.own, h.mp, h.two, fun i hi => (h.done i hi).1, fun i hi => (h.done i hi).2⟩
/-- The map counts as fed. -/
theorem MP.mark {lo : Nat} {w : World} {M L n s : Nat} {fed : Bool} {d : List Nat} (h : MP lo w M L n s fed d) : MP lo (w.setCell ⟨M, 2, none⟩ (.bool true)) M L n s true d ∧ But M w (w.setCell ⟨M, 2, none⟩ (.bool true)) := by
  have hb := set_but w M 2 (.bool true)
  refine ⟨⟨?_, ?_, World.cell?_setCell_same _ _ _ h.c2, ?_, OR.far h.row hb (by simp [Value.ownBlock]; exact fun e => h.ne e.symm), h.ne, h.lo⟩, hb⟩
  · rw [World.cell?_setCell_other _ _ _ _ (by simp)]; exact h.c0
  · rw [World.cell?_setCell_other _ _ _ _ (by simp)]; exact h.c1
  · rw [World.frozen?_setCell]; exact h.fz
theorem FO.heap {b g n : Nat} {w : World} {d : List Nat} (h : FO b w (.slice (some ⟨g, 0, none⟩) n n) d) : w.heap[g]? = some (.cells (d.map (Value.float .f64)).toArray 26 (0, 0)) := by
  have hl := OR.len h
  obtain ⟨h1, h2⟩ := h
  rcases h2 with ⟨h2, _⟩ | ⟨g0, cap0, cur, e, k2, k3, k4, k5, k6, k7⟩
  · cases h2
  · simp only [Value.slice.injEq, Option.some.injEq, Addr.mk.injEq] at e
    obtain ⟨⟨rfl, _⟩, e2, rfl⟩ := e
    rw [k3]
    congr 2
    apply Array.ext'
    rw [← k7, List.take_of_length_le]
    simp; omega
theorem FO.of_heap {b g n : Nat} {w : World} {d : List Nat} (hl : d.length = n) (hb : b ≤ g) (hn : n ≤ 1000000) (h : w.heap[g]? = some (.cells (d.map (Value.float .f64)).toArray 26 (0, 0))) : FO b w (.slice (some ⟨g, 0, none⟩) n n) d := by
  subst hl
  refine ⟨by simp, Or.inr ⟨g, _, _, rfl, hb, h, Nat.le_refl _, by unfold maxLen; omega, by simp, ?_⟩⟩
  rw [List.take_of_length_le (by simp)]
def cutN (f : Nat → Nat) (k : Nat) : List Nat := (List.range k).map f
theorem cutN_len (f : Nat → Nat) (k : Nat) : (cutN f k).length = k := by simp [cutN]
theorem cutN_at (f : Nat → Nat) {k i : Nat} (h : i < k) : (cutN f k)[i]! = f i := by
  rw [getElem!_pos _ i (by rw [cutN_len]; exact h)]; simp [cutN]
set_option maxRecDepth 20000 in
theorem sz26f : (Try.prog.info? 26).map (·.size) = some 1 := by kernel_rfl
theorem fe_one {l : List Nat} : ∀ v ∈ l.map (Value.float .f64), v.oneCell' = true := by
  intro v hv
  obtain ⟨p, _, rfl⟩ := List.mem_map.1 hv
  rfl
theorem src_okF {w : World} {b o n : Nat} {f : Nat → Nat} (hR : RF w b o n f) : ∀ j v, ((cutN f n).map (Value.float .f64))[j]? = some v → w.cell? ((⟨b, o, none⟩ : Addr).add j) = some v := by
  intro j v hv
  unfold cutN at hv
  have hj : j < n := by
    have := List.getElem?_eq_some_iff.1 hv
    obtain ⟨h, _⟩ := this
    simpa using h
  rw [List.getElem?_map, List.getElem?_map, List.getElem?_range hj] at hv
  simp only [Option.map_some, Option.some.injEq] at hv
  rw [← hv]
  have := hR j hj
  by_cases e : j = 0
  · subst e; exact this
  · simpa [Addr.add, e] using this
set_option maxRecDepth 20000 in
/-- All of a row is copied over. -/
theorem upon_copyF {o : Oper} {a : Act} {next : Act → World → Prop} {Q : Exit → Act → World → Prop} {w : World} {F : Value → World → Result Next} {lo g n pb po pc : Nat} {cur : List Nat} {f : Nat → Nat}
    (hg : FO lo w (.slice (some ⟨g, 0, none⟩) n n) cur) (hn : n ≤ 1000000) (hR : RF w pb po n f)
    (h : ∀ w', Hid (FO lo w' (.slice (some ⟨g, 0, none⟩) n n) (cutN f n)) → Hid (But g w w') → o.upon Try.prog a next Q (F (.int .i64 n) w')) :
    o.upon Try.prog a next Q (((Builtin.copy_ #[28, 28] 3 #[.slice (some ⟨g, 0, none⟩) n n, .slice (some ⟨pb, po, none⟩) n pc]).run Try.prog w).andThen F) := by
  have hl : ((cutN f n).map (Value.float .f64)).length = n := by rw [List.length_map, cutN_len]
  have hc := OR.len hg
  have e := run_copy_row (P := Try.prog) w 28 28 3 26 g 0 n n ⟨pb, po, none⟩ n pc (cur.map (Value.float .f64)).toArray 26 ((cutN f n).map (Value.float .f64)) Try.underlying28 sz26f (FO.heap hg) (by rw [hl]; exact (Nat.min_self n).symm) (src_okF hR) (by rw [hl]; simp [hc]) fe_one
  rw [e, hl]
  refine h _ (FO.of_heap (cutN_len f n) (OR.at_ hg).1 hn ?_) ⟨rfl, rfl, rfl, by simp [World.setRow], fun k _ hne => setRow_other _ _ _ _ (by simpa using hne)⟩
  rw [setRow_heap _ _ _ _ _ _ (FO.heap hg)]
  congr 3
  simp [hc]
set_option maxRecDepth 20000 in
/-- No map: an error. -/
theorem t15n (p : Option Addr) (n c : Nat) (w : World) : Calls Try.prog 15 #[.pointer none, .slice p n c] w fun e w' => e = .returned (.tuple #[.slice none 0 0, .int .i64 1]) ∧ w' = w := by
  go_enter Try.func15, Try.ntmps15
  go_wp2
  go_ret2
  exact ⟨rfl, rfl⟩
set_option maxRecDepth 20000 in
theorem t15e {lo : Nat} {w : World} {M L n s : Nat} {fed : Bool} {d : List Nat} (h : MP lo w M L n s fed d) {p : Option Addr} {m c : Nat} (hm : m ≠ n) : Calls Try.prog 15 #[.pointer (some ⟨M, 0, none⟩), .slice p m c] w fun e w' => e = .returned (.tuple #[.slice none 0 0, .int .i64 5]) ∧ w' = w := by
  have c0 := h.c0
  have z1 : ¬ (m : Int) = (n : Int) := by omega
  clear h
  go_enter Try.func15, Try.ntmps15
  go_wp2
  go_ret2
  exact ⟨rfl, rfl⟩
/-- The levels are a row that was copied. -/
theorem MP.copied {lo : Nat} {w w' : World} {M L n s : Nat} {fed : Bool} {d d' : List Nat} (h : MP lo w M L n s fed d) (hb : But L w w') (hr : FO lo w' (.slice (some ⟨L, 0, none⟩) n n) d') : MP lo w' M L n s fed d' :=
  ⟨hb.cell h.ne h.c0, hb.cell h.ne h.c1, hb.cell h.ne h.c2, (World.frozen?_of_block (w := w) (a := ⟨M, 2, none⟩) (hb.block M h.lt (by simpa using h.ne))).trans h.fz, hr, h.ne, h.lo⟩
set_option maxRecDepth 20000 in
set_option maxHeartbeats 4000000 in
theorem t15t {lo : Nat} {w : World} {M L n s : Nat} {d : List Nat} {lv : Nat → Option Nat} {f : Nat → Nat} {pb po pc : Nat} (h : MP lo w M L n s true d) (hlv : ∀ i, i < n → ab d[i]! = lv i) (hr : RF w pb po n f) (h1 : 1 ≤ n) (hn : n ≤ 16384) (hm : pb ≠ M) (hl : pb ≠ L) :
    Calls Try.prog 15 #[.pointer (some ⟨M, 0, none⟩), .slice (some ⟨pb, po, none⟩) n pc] w (FE lo w M L n s true lv f) := by
  obtain ⟨i0, hi, hz0, hz1, hz2⟩ := info_parts info26
  obtain ⟨fed, hfd⟩ : ∃ fed, fed = true := ⟨_, rfl⟩
  have HFD : Hid (fed = true) := hfd
  rw [← hfd]
  have HM : Hid (MP lo w M L n s true d) := h
  have HLV : Hid (∀ i, i < n → ab d[i]! = lv i) := hlv
  have HRF : Hid (RF w pb po n f) := hr
  have HNE : Hid (pb ≠ M ∧ pb ≠ L ∧ pb < w.heap.size) := ⟨hm, hl, World.block_lt_of_cell? w _ (hr 0 (by omega))⟩
  have c0 := h.c0
  have c2 := h.c2
  have z1 : (1 : Int) ≤ (n : Int) := by omega
  clear h hlv hr hm hl hfd
  go_enter Try.func15, Try.ntmps15
  go_wp2_with (refine wpList_make_full _ rfl _ _ 28 rfl w.heap.size 26 i0 (.float .f64 0) 1 Try.underlying28 hi hz0 hz1 .i64 .i64 _ _ n rfl rfl rfl rfl (by rw [hz2]; omega) (by unfold maxLen; omega) (Nat.le_refl _) ?_; intro w1 hown hgr)
  obtain ⟨G, hG⟩ : ∃ G, w.heap.size = G := ⟨_, rfl⟩
  have HS : Hid (FSt lo w w1 M L G n s pb po n 0 fed lv f d (List.replicate n 0)) := by
    have hu : Up w w1 := Below.grown (Below.refl _ _) hgr (Nat.le_refl _) (fun j hj => by cases hj)
    have ho : FO w.heap.size w1 (.slice (some ⟨w.heap.size, 0, none⟩) n n) (List.replicate n 0) := by
      rw [made_float] at hown; show OR _ _ _ _ _ _; unfold OR; simpa using hown
    rw [hG] at ho
    refine ⟨HM.out.up hu, by rw [hG]; exact ho, Two.of_up hu, HRF.out.up hu, HNE.out.1, HNE.out.2.1, HNE.out.2.2, HM.out.lt, HM.out.lt2.2, fun i hi => by omega, fun i _ hi => ?_⟩
    rw [HLV.out i hi, HFD.out]; rfl
  rw [hG]
  clear hown hgr c0 c2 HM HLV HRF HNE hG
  go_loopw [7, 8, 38] (fun _ _ vi wr => ∃ (k : Nat) (d ov : List Nat), k ≤ n ∧ vi = .int .i64 k ∧ Hid (FSt lo w wr M L G n s pb po n k fed lv f d ov)) (fun _ _ vi _ => n - (intOf vi).toNat)
  case atStart => exact ⟨0, _, _, by omega, rfl, HS⟩
  case round =>
    clear HS
    obtain ⟨k, d, ov, hk, rfl, HS⟩ := hrel
    by_cases hlt : k < n
    · have z2 : (k : Int) < (n : Int) := by omega
      have z3 : (0 : Int) ≤ (k : Int) := by omega
      have c0 := HS.out.mp.c0
      have cx := HS.out.rf k hlt
      have cy := HS.out.mp.row.cell (i := k) (by rw [HS.out.mp.len]; exact hlt)
      have HY : Hid (ab d[k]! = baseF fed lv f k) := HS.out.rest k (Nat.le_refl _) hlt
      generalize d[k]! = y at cy HY
      obtain ⟨x, hx⟩ : ∃ x, f k = x := ⟨_, rfl⟩
      have HX : Hid (f k = x) := hx
      rw [hx] at cx
      clear hx
      have HO := HS.out.own
      have iG := HO.cell (i := k) (by rw [OR.len HO]; exact hlt)
      generalize ov[k]! = g0 at iG
      have fG := HO.frz k
      replace HO : Hid (ov.length = n) := OR.len HO
      go_wp2_with ((with_reducible refine upon_fl (by simp) ?_); intro r nr hr)
      have HS1 : Hid (FSt lo w ((wr.drewN nr).setCell ⟨G, k, none⟩ (.float .f64 r)) M L G n s pb po n k fed lv f d (ov.set k r)) := ((HS.out.drewN nr).over r).1
      have HR : Hid (ab r = overF fed lv f k) := by
        show _ = _
        rw [hr.out, overF, ← HY.out, HX.out]
      have HOR : Hid ((ov.set k r)[k]! = r) := by
        show _ = _
        rw [get_set' ov k r (by rw [HO.out]; exact hlt), if_pos rfl]
      have HL : Hid (d[k]! = y ∨ True) := Or.inr trivial
      have e2 : ((wr.drewN nr).setCell ⟨G, k, none⟩ (.float .f64 r)).cell? ⟨L, k, none⟩ = some (.float .f64 y) := by
        have hne := OR.at_ HS.out.own
        have hll := HS.out.ll
        exact (set_but _ _ _ _).cell (by omega) (cell_up cy (Up.drewN _ _))
      have e0 := HS1.out.mp.c0
      have e1 := HS1.out.mp.c1
      have e3 : ((wr.drewN nr).setCell ⟨G, k, none⟩ (.float .f64 r)).cell? ⟨G, k, none⟩ = some (.float .f64 r) := by
        have := HS1.out.own.cell (i := k) (by rw [OR.len HS1.out.own]; exact hlt)
        rw [HOR.out] at this; exact this
      have f1 := HS1.out.mp.row.frz k
      generalize ((wr.drewN nr).setCell ⟨G, k, none⟩ (.float .f64 r)) = w3 at *
      clear c0 cx cy iG fG HS hr HL
      refine wp_region_ord 16 [(0, none), (1, none), (2, none), (3, some false), (4, none), (5, none), (6, some false), (7, none), (8, none), (9, none), (10, some false), (11, none), (12, none), (13, none), (14, some false), (15, some true)] (fun w' => w'.cell? ⟨M, 0, none⟩ = some (.slice (some ⟨L, 0, none⟩) n n) ∧ w'.cell? ⟨M, 1, none⟩ = some (.float .f64 s) ∧ w'.cell? ⟨L, k, none⟩ = some (.float .f64 y) ∧ w'.cell? ⟨G, k, none⟩ = some (.float .f64 r)) (by kernel_rfl) (by decide) rfl (by kernel_rfl) (fun _ _ d _ _ h => by cases d <;> exact h) (⟨cell_up e0 (Up.drew1 _), cell_up e1 (Up.drew1 _), cell_up e2 (Up.drew1 _), cell_up e3 (Up.drew1 _)⟩) ?_
      refine ⟨_, .pointer (some ⟨M, 0, none⟩), some 55, rfl, rfl, Or.inl ⟨rfl, fun w' hS => ?_⟩, ?_⟩
      · go_simp
      refine ⟨_, .pointer (some ⟨M, 0, none⟩), some 56, rfl, rfl, Or.inl ⟨rfl, fun w' hS => ?_⟩, ?_⟩
      · go_simp
      refine ⟨_, .pointer (some ⟨M, 0, none⟩), some 57, rfl, rfl, Or.inl ⟨rfl, fun w' hS => ?_⟩, ?_⟩
      · go_simp
      refine ⟨_, .slice (some ⟨L, 0, none⟩) n n, some 58, rfl, rfl, Or.inl ⟨rfl, fun w' hS => ?_⟩, ?_⟩
      · obtain ⟨h0, h1, h2, h3⟩ := hS
        go_simp
      refine ⟨_, .int .i64 k, some 59, rfl, rfl, Or.inl ⟨rfl, fun w' hS => ?_⟩, ?_⟩
      · go_simp
      refine ⟨_, .pointer (some ⟨L, k, none⟩), some 60, rfl, rfl, Or.inl ⟨rfl, fun w' hS => ?_⟩, ?_⟩
      · go_simp
      refine ⟨_, .float .f64 y, some 61, rfl, rfl, Or.inl ⟨rfl, fun w' hS => ?_⟩, ?_⟩
      · obtain ⟨h0, h1, h2, h3⟩ := hS
        go_simp
      refine ⟨_, .pointer (some ⟨M, 0, none⟩), some 62, rfl, rfl, Or.inl ⟨rfl, fun w' hS => ?_⟩, ?_⟩
      · go_simp
      refine ⟨_, .pointer (some ⟨M, 0, none⟩), some 63, rfl, rfl, Or.inl ⟨rfl, fun w' hS => ?_⟩, ?_⟩
      · go_simp
      refine ⟨_, .pointer (some ⟨M, 1, none⟩), some 64, rfl, rfl, Or.inl ⟨rfl, fun w' hS => ?_⟩, ?_⟩
      · go_simp
      refine ⟨_, .float .f64 s, some 65, rfl, rfl, Or.inl ⟨rfl, fun w' hS => ?_⟩, ?_⟩
      · obtain ⟨h0, h1, h2, h3⟩ := hS
        go_simp
      refine ⟨_, .slice (some ⟨G, 0, none⟩) n n, some 66, rfl, rfl, Or.inl ⟨rfl, fun w' hS => ?_⟩, ?_⟩
      · go_simp
      refine ⟨_, .int .i64 k, some 67, rfl, rfl, Or.inl ⟨rfl, fun w' hS => ?_⟩, ?_⟩
      · go_simp
      refine ⟨_, .pointer (some ⟨G, k, none⟩), some 68, rfl, rfl, Or.inl ⟨rfl, fun w' hS => ?_⟩, ?_⟩
      · go_simp
      refine ⟨_, .float .f64 r, some 69, rfl, rfl, Or.inl ⟨rfl, fun w' hS => ?_⟩, ?_⟩
      · obtain ⟨h0, h1, h2, h3⟩ := hS
        go_simp
      refine wpOp_fl rfl rfl rfl s r (by kernel_rfl) (by kernel_rfl) (Or.inr (Or.inr (Or.inl rfl))) ?_
      intro r2 n2 hr2
      refine ⟨⟨cell_up e0 ((Up.drew1 _).trans (Up.drewN _ _)), cell_up e1 ((Up.drew1 _).trans (Up.drewN _ _)), cell_up e2 ((Up.drew1 _).trans (Up.drewN _ _)), cell_up e3 ((Up.drew1 _).trans (Up.drewN _ _))⟩, ?_⟩
      simp only [OrdW, List.drop_succ_cons, List.drop_zero, Act.put, List.setIfInBounds_toArray, List.set_cons_succ, List.set_cons_zero]
      go_wp2_with ((with_reducible refine upon_fl (by simp) ?_); intro r3 n3 hr3)
      go_roundw
      case rel =>
        exact ⟨k + 1, _, _, by omega, by go_num, (HS1.out.drewN _).next hlt (by rw [HOR.out]; exact HR.out) (by rw [hr3.out, hr2.out, nextF, ← HY.out, ← HR.out])⟩
      case measure => simp [intOf]; omega
    · obtain rfl : k = n := by omega
      go_wp2
      go_ret2
      exact HS.out.fin
set_option maxRecDepth 20000 in
set_option maxHeartbeats 4000000 in
theorem t15f {lo : Nat} {w : World} {M L n s : Nat} {d : List Nat} {lv : Nat → Option Nat} {f : Nat → Nat} {pb po pc : Nat} (h : MP lo w M L n s false d) (hr : RF w pb po n f) (h1 : 1 ≤ n) (hn : n ≤ 16384) (hm : pb ≠ M) (hl : pb ≠ L) :
    Calls Try.prog 15 #[.pointer (some ⟨M, 0, none⟩), .slice (some ⟨pb, po, none⟩) n pc] w (FE lo w M L n s false lv f) := by
  obtain ⟨i0, hi, hz0, hz1, hz2⟩ := info_parts info26
  obtain ⟨fed, hfd⟩ : ∃ fed, fed = false := ⟨_, rfl⟩
  have HFD : Hid (fed = false) := hfd
  rw [← hfd]
  have HM : Hid (MP lo w M L n s false d) := h
  have HRF : Hid (RF w pb po n f) := hr
  have HNE : Hid (pb ≠ M ∧ pb ≠ L ∧ pb < w.heap.size) := ⟨hm, hl, World.block_lt_of_cell? w _ (hr 0 (by omega))⟩
  have c0 := h.c0
  have c2 := h.c2
  have z1 : (1 : Int) ≤ (n : Int) := by omega
  clear h hr hm hl hfd
  go_enter Try.func15, Try.ntmps15
  go_wp2_with (first
    | (at_builtin; (with_reducible refine upon_copyF HM.out.row (by omega) HRF.out ?_); intro w0 HC HB
       have HM1 : Hid (MP lo w0 M L n s false (cutN f n)) := MP.copied HM.out HB.out HC.out
       have d2 := HM1.out.c2
       have df := HM1.out.fz
       clear c0 c2)
    | ((with_reducible refine upon_copyF HM.out.row (by omega) HRF.out ?_); intro w0 HC HB
       have HM1 : Hid (MP lo w0 M L n s false (cutN f n)) := MP.copied HM.out HB.out HC.out
       have d2 := HM1.out.c2
       have df := HM1.out.fz
       clear c0 c2)
    | (refine wpList_make_full _ rfl _ _ 28 rfl (w0.setCell ⟨M, 2, none⟩ (.bool true)).heap.size 26 i0 (.float .f64 0) 1 Try.underlying28 hi hz0 hz1 .i64 .i64 _ _ n rfl rfl rfl rfl (by rw [hz2]; omega) (by unfold maxLen; omega) (Nat.le_refl _) ?_; intro w1 hown hgr))
  have HT : Hid (MP lo (w0.setCell ⟨M, 2, none⟩ (.bool true)) M L n s true (cutN f n)) := HM1.out.mark.1
  have H2 : Hid (Two M L w (w0.setCell ⟨M, 2, none⟩ (.bool true))) := (Two.of_x HB.out).trans (Two.of_a HM1.out.mark.2)
  have hsz : (w0.setCell ⟨M, 2, none⟩ (.bool true)).heap.size = w0.heap.size := by simp
  have hs0 : w.heap.size ≤ w0.heap.size := HB.out.size
  generalize (w0.setCell ⟨M, 2, none⟩ (.bool true)) = w2 at *
  obtain ⟨G, hG⟩ : ∃ G, w0.heap.size = G := ⟨_, rfl⟩
  have HS : Hid (FSt lo w w1 M L G n s pb po n 0 fed lv f (cutN f n) (List.replicate n 0)) := by
    have hu : Up w2 w1 := Below.grown (Below.refl _ _) hgr (Nat.le_refl _) (fun j hj => by cases hj)
    have ho : FO w2.heap.size w1 (.slice (some ⟨w2.heap.size, 0, none⟩) n n) (List.replicate n 0) := by
      rw [made_float] at hown; show OR _ _ _ _ _ _; unfold OR; simpa using hown
    refine ⟨HT.out.up hu, ?_, H2.out.trans (Two.of_up hu), (HRF.out.two H2.out HNE.out.1 HNE.out.2.1).up hu, HNE.out.1, HNE.out.2.1, HNE.out.2.2, HM.out.lt, HM.out.lt2.2, fun i hi => by omega, fun i _ hi => ?_⟩
    · rw [hsz, hG] at ho
      exact OR.base ho (by omega)
    · rw [cutN_at f hi, HFD.out]; rfl
  rw [hG]
  clear hown hgr HM HRF HNE hG HM1 d2 df HC HB HT H2 hs0 hsz
  go_loopw [7, 8, 38] (fun _ _ vi wr => ∃ (k : Nat) (d ov : List Nat), k ≤ n ∧ vi = .int .i64 k ∧ Hid (FSt lo w wr M L G n s pb po n k fed lv f d ov)) (fun _ _ vi _ => n - (intOf vi).toNat)
  case atStart => exact ⟨0, _, _, by omega, rfl, HS⟩
  case round =>
    clear HS
    obtain ⟨k, d, ov, hk, rfl, HS⟩ := hrel
    by_cases hlt : k < n
    · have z2 : (k : Int) < (n : Int) := by omega
      have z3 : (0 : Int) ≤ (k : Int) := by omega
      have c0 := HS.out.mp.c0
      have cx := HS.out.rf k hlt
      have cy := HS.out.mp.row.cell (i := k) (by rw [HS.out.mp.len]; exact hlt)
      have HY : Hid (ab d[k]! = baseF fed lv f k) := HS.out.rest k (Nat.le_refl _) hlt
      generalize d[k]! = y at cy HY
      obtain ⟨x, hx⟩ : ∃ x, f k = x := ⟨_, rfl⟩
      have HX : Hid (f k = x) := hx
      rw [hx] at cx
      clear hx
      have HO := HS.out.own
      have iG := HO.cell (i := k) (by rw [OR.len HO]; exact hlt)
      generalize ov[k]! = g0 at iG
      have fG := HO.frz k
      replace HO : Hid (ov.length = n) := OR.len HO
      go_wp2_with ((with_reducible refine upon_fl (by simp) ?_); intro r nr hr)
      have HS1 : Hid (FSt lo w ((wr.drewN nr).setCell ⟨G, k, none⟩ (.float .f64 r)) M L G n s pb po n k fed lv f d (ov.set k r)) := ((HS.out.drewN nr).over r).1
      have HR : Hid (ab r = overF fed lv f k) := by
        show _ = _
        rw [hr.out, overF, ← HY.out, HX.out]
      have HOR : Hid ((ov.set k r)[k]! = r) := by
        show _ = _
        rw [get_set' ov k r (by rw [HO.out]; exact hlt), if_pos rfl]
      have HL : Hid (d[k]! = y ∨ True) := Or.inr trivial
      have e2 : ((wr.drewN nr).setCell ⟨G, k, none⟩ (.float .f64 r)).cell? ⟨L, k, none⟩ = some (.float .f64 y) := by
        have hne := OR.at_ HS.out.own
        have hll := HS.out.ll
        exact (set_but _ _ _ _).cell (by omega) (cell_up cy (Up.drewN _ _))
      have e0 := HS1.out.mp.c0
      have e1 := HS1.out.mp.c1
      have e3 : ((wr.drewN nr).setCell ⟨G, k, none⟩ (.float .f64 r)).cell? ⟨G, k, none⟩ = some (.float .f64 r) := by
        have := HS1.out.own.cell (i := k) (by rw [OR.len HS1.out.own]; exact hlt)
        rw [HOR.out] at this; exact this
      have f1 := HS1.out.mp.row.frz k
      generalize ((wr.drewN nr).setCell ⟨G, k, none⟩ (.float .f64 r)) = w3 at *
      clear c0 cx cy iG fG HS hr HL
      refine wp_region_ord 16 [(0, none), (1, none), (2, none), (3, some false), (4, none), (5, none), (6, some false), (7, none), (8, none), (9, none), (10, some false), (11, none), (12, none), (13, none), (14, some false), (15, some true)] (fun w' => w'.cell? ⟨M, 0, none⟩ = some (.slice (some ⟨L, 0, none⟩) n n) ∧ w'.cell? ⟨M, 1, none⟩ = some (.float .f64 s) ∧ w'.cell? ⟨L, k, none⟩ = some (.float .f64 y) ∧ w'.cell? ⟨G, k, none⟩ = some (.float .f64 r)) (by kernel_rfl) (by decide) rfl (by kernel_rfl) (fun _ _ d _ _ h => by cases d <;> exact h) (⟨cell_up e0 (Up.drew1 _), cell_up e1 (Up.drew1 _), cell_up e2 (Up.drew1 _), cell_up e3 (Up.drew1 _)⟩) ?_
      refine ⟨_, .pointer (some ⟨M, 0, none⟩), some 55, rfl, rfl, Or.inl ⟨rfl, fun w' hS => ?_⟩, ?_⟩
      · go_simp
      refine ⟨_, .pointer (some ⟨M, 0, none⟩), some 56, rfl, rfl, Or.inl ⟨rfl, fun w' hS => ?_⟩, ?_⟩
      · go_simp
      refine ⟨_, .pointer (some ⟨M, 0, none⟩), some 57, rfl, rfl, Or.inl ⟨rfl, fun w' hS => ?_⟩, ?_⟩
      · go_simp
      refine ⟨_, .slice (some ⟨L, 0, none⟩) n n, some 58, rfl, rfl, Or.inl ⟨rfl, fun w' hS => ?_⟩, ?_⟩
      · obtain ⟨h0, h1, h2, h3⟩ := hS
        go_simp
      refine ⟨_, .int .i64 k, some 59, rfl, rfl, Or.inl ⟨rfl, fun w' hS => ?_⟩, ?_⟩
      · go_simp
      refine ⟨_, .pointer (some ⟨L, k, none⟩), some 60, rfl, rfl, Or.inl ⟨rfl, fun w' hS => ?_⟩, ?_⟩
      · go_simp
      refine ⟨_, .float .f64 y, some 61, rfl, rfl, Or.inl ⟨rfl, fun w' hS => ?_⟩, ?_⟩
      · obtain ⟨h0, h1, h2, h3⟩ := hS
        go_simp
      refine ⟨_, .pointer (some ⟨M, 0, none⟩), some 62, rfl, rfl, Or.inl ⟨rfl, fun w' hS => ?_⟩, ?_⟩
      · go_simp
      refine ⟨_, .pointer (some ⟨M, 0, none⟩), some 63, rfl, rfl, Or.inl ⟨rfl, fun w' hS => ?_⟩, ?_⟩
      · go_simp
      refine ⟨_, .pointer (some ⟨M, 1, none⟩), some 64, rfl, rfl, Or.inl ⟨rfl, fun w' hS => ?_⟩, ?_⟩
      · go_simp
      refine ⟨_, .float .f64 s, some 65, rfl, rfl, Or.inl ⟨rfl, fun w' hS => ?_⟩, ?_⟩
      · obtain ⟨h0, h1, h2, h3⟩ := hS
        go_simp
      refine ⟨_, .slice (some ⟨G, 0, none⟩) n n, some 66, rfl, rfl, Or.inl ⟨rfl, fun w' hS => ?_⟩, ?_⟩
      · go_simp
      refine ⟨_, .int .i64 k, some 67, rfl, rfl, Or.inl ⟨rfl, fun w' hS => ?_⟩, ?_⟩
      · go_simp
      refine ⟨_, .pointer (some ⟨G, k, none⟩), some 68, rfl, rfl, Or.inl ⟨rfl, fun w' hS => ?_⟩, ?_⟩
      · go_simp
      refine ⟨_, .float .f64 r, some 69, rfl, rfl, Or.inl ⟨rfl, fun w' hS => ?_⟩, ?_⟩
      · obtain ⟨h0, h1, h2, h3⟩ := hS
        go_simp
      refine wpOp_fl rfl rfl rfl s r (by kernel_rfl) (by kernel_rfl) (Or.inr (Or.inr (Or.inl rfl))) ?_
      intro r2 n2 hr2
      refine ⟨⟨cell_up e0 ((Up.drew1 _).trans (Up.drewN _ _)), cell_up e1 ((Up.drew1 _).trans (Up.drewN _ _)), cell_up e2 ((Up.drew1 _).trans (Up.drewN _ _)), cell_up e3 ((Up.drew1 _).trans (Up.drewN _ _))⟩, ?_⟩
      simp only [OrdW, List.drop_succ_cons, List.drop_zero, Act.put, List.setIfInBounds_toArray, List.set_cons_succ, List.set_cons_zero]
      go_wp2_with ((with_reducible refine upon_fl (by simp) ?_); intro r3 n3 hr3)
      go_roundw
      case rel =>
        exact ⟨k + 1, _, _, by omega, by go_num, (HS1.out.drewN _).next hlt (by rw [HOR.out]; exact HR.out) (by rw [hr3.out, hr2.out, nextF, ← HY.out, ← HR.out])⟩
      case measure => simp [intOf]; omega
    · obtain rfl : k = n := by omega
      go_wp2
      go_ret2
      exact HS.out.fin
end Go.Proofs.Ytgalgnopjcpocaa
