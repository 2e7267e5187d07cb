/- Scene: closed calls. -/
import Derived.Test.YthifemkbemhmnaaCf
namespace Go.Proofs.Ythifemkbemhmnaa
open Go.ChangeShapes Go.WideShapes Go.ChangeAt Go.RowKit Go.Fl Ieee
attribute [local go_sem] run_store_float run_store_c isSome_set call69 call32 run_neg fold_eq fold_ne fold_lt fold_gt abs_eq

def so (p : Nat × Nat) : Option Nat × Option Nat := (some p.1, some p.2)
theorem of_so {a p : Nat × Nat} (h : ab2 a = so p) : a = p := by
  simp only [ab2, so, Prod.mk.injEq] at h
  exact Prod.ext (of_ab h.1) (of_ab h.2)
theorem rd_new (w : World) (t : TypeId) (d : List (Nat × Nat)) {cs : Array Value} {n : Nat} (hn : d.length = n) (h : cs = (d.map ce).toArray) : RD (w.alloc (.cells cs t)) w.heap.size 0 n (fun i => d[i]!) := by
  subst h
  subst hn
  intro j hj
  rw [cell_of_row _ _ _ _ _ _ (heap_alloc_last _ _)]
  simp [getElem!_pos d j hj, List.getElem?_eq_getElem hj]
/-- A table whose numbers are known. -/
def KT (w : World) (n m : Nat) (K : List (Nat × Nat)) (e : Ending) (w' : World) : Prop := ∃ A B, e = .returned (.tuple #[.slice (some ⟨A, 0, none⟩) n n, .int .i64 0]) ∧ Hid (TB w' A n (fun i => some ⟨B, i * m, none⟩) (fun _ => m) (fun _ => m)) ∧ Hid (RD w' B 0 (n * m) (fun j => K[j]!)) ∧ Hid (Up w w')
theorem OKT.known {w0 w w' : World} {n m : Nat} {F : Nat → Nat → Option Nat × Option Nat} {e : Ending} (h : OKT w n m F e w') (hu : Up w0 w) (K : List (Nat × Nat)) (h0 : 0 < m) (hF : ∀ k, k < n → ∀ g, g < m → F k g = so K[k * m + g]!) : KT w0 n m K e w' := by
  obtain ⟨A, B, d, he, h1, h2⟩ := h
  refine ⟨A, B, he, h1.out.ans, fun j hj => ?_, hu.trans h1.out.up⟩
  have e1 : j / m * m + j % m = j := by rw [Nat.mul_comm]; exact Nat.div_add_mod j m
  have l1 : j / m < n := (Nat.div_lt_iff_lt_mul h0).2 hj
  have l2 : j % m < m := Nat.mod_lt _ h0
  have q := (h2.out _ l1 _ l2).trans (hF _ l1 _ l2)
  rw [e1] at q
  rw [Nat.zero_add, h1.out.all.cell (by rw [h1.out.all.len]; exact hj), of_so q]
  rfl
theorem KT.base {w0 w w' : World} {n m : Nat} {K : List (Nat × Nat)} {e : Ending} (hu : Up w0 w) (h : KT w n m K e w') : KT w0 n m K e w' := by
  obtain ⟨A, B, he, h1, h2, h3⟩ := h
  exact ⟨A, B, he, h1, h2, hu.trans h3.out⟩
theorem ER.base {w0 w w' : World} {z : Int} {e : Ending} (hu : Up w0 w) (h : ER z w e w') : ER z w0 e w' := ⟨h.1, hu.trans h.2.out⟩
/-- Targets of which all are finite, and others. -/
theorem all_fin {w : World} {g n c : Nat} {f : Nat → Tg} (h : TL w g n f) (hn : n ≤ 1000000) (hf : ∀ i, i < n → finT (f i) = true) (w' : World) (hu : Up w w') : Calls Try.prog 58 #[.slice (some ⟨g, 0, none⟩) n c] w' (BU true w') :=
  t58 g n c n f true w' (h.up hu) hn hf (Or.inr ⟨rfl, rfl⟩)
theorem one_bad {w : World} {g n c k : Nat} {f : Nat → Tg} (h : TL w g n f) (hn : n ≤ 1000000) (hk : k < n) (hf : ∀ i, i < k → finT (f i) = true) (hb : finT (f k) = false) (w' : World) (hu : Up w w') : Calls Try.prog 58 #[.slice (some ⟨g, 0, none⟩) n c] w' (BU false w') :=
  t58 g n c k f false w' (h.up hu) hn hf (Or.inl ⟨hk, hb, rfl⟩)
/-- Echo, refused. -/
theorem ech_err {w : World} {cc vv rr n pc tm R : Nat} {E : Int} {q0 : Option Addr} {r s a t q : Nat} {z z0 : Int} {b3 b5 : Bool} (h0 : checkF (ab cc) (ab vv) (ab rr) E R = z0) (hn : n ≤ 1000000) (h3 : (fin (ab tm) && fin (ab 0)) = b3) (h5 : finT ⟨r, s, a, t, q⟩ = b5)
    (hz : refF z0 (decide (n = 0)) (muchF 1 R n) b3 false b5 = z) (hne : z ≠ 0) :
    Calls Try.prog 7 #[.agg #[.float .f64 cc, .float .f64 vv, .float .f64 rr, .int .i64 E, .int .i64 R], .slice q0 n pc, .agg #[.float .f64 r, .float .f64 s, .float .f64 a, .float .f64 t, .float .f64 q], .float .f64 tm] w (ER z w) := by
  refine t7g (Q := fun W => ER z W) (fun w1 e w' hu h => ER.base hu h) (fun W e w' h => ⟨_, _, h.1⟩) (fun w1 w2 g hu hg hw => ?_)
  subst hg hw
  refine t16e hne fun W hW => ?_
  rw [← hz]
  refine t35 h0 (by omega) (by omega) h3 (by decide +kernel) fun _ w' hu' => ?_
  cases b5
  · exact one_bad (k := 0) (tl_one w1 r s a t q) (by omega) (by omega) (fun i hi => by omega) h5 w' (hW.trans hu')
  · exact all_fin (tl_one w1 r s a t q) (by omega) (fun i hi => h5) w' (hW.trans hu')
/-- Echo, answered. -/
theorem ech_ok {w : World} {cc vv rr n pc tm E R N pg po : Nat} {r s a t q : Nat} {fp : Nat → Nat × Nat} (h0 : checkF (ab cc) (ab vv) (ab rr) (E : Int) (R : Int) = 0) (hN : R * E = N) (hn1 : 1 ≤ n) (hm : muchF 1 R n = false) (h3 : fin (ab tm) = true) (h5 : finT ⟨r, s, a, t, q⟩ = true) (hp : RD w pg po n fp) :
    Calls Try.prog 7 #[.agg #[.float .f64 cc, .float .f64 vv, .float .f64 rr, .int .i64 E, .int .i64 R], .slice (some ⟨pg, po, none⟩) n pc, .agg #[.float .f64 r, .float .f64 s, .float .f64 a, .float .f64 t, .float .f64 q], .float .f64 tm] w (OKT w R E (fun k g => sceneS ⟨cc, vv, rr, E, R⟩ (fun _ => ⟨r, s, a, t, q⟩) tm n N (fun i => ab2 (fp i)) 1 (k * E + g))) := by
  have hn2 : n ≤ 16384 := by
    unfold muchF at hm
    simp at hm
    exact hm.1
  have hck := h0
  unfold checkF at hck
  split at hck
  · rename_i hb
    obtain ⟨g1, g2, g3, e1, e2, r1, r2⟩ := hb
    have hN2 : N ≤ 262144 := by
      rw [← hN]
      have e : ((R * E : Nat) : Int) = (E : Int) * (R : Int) := by rw [Int.natCast_mul, Int.mul_comm]
      by_cases hgt : (E : Int) * (R : Int) > 262144
      · rw [if_pos hgt] at hck; cases hck
      · omega
    refine t7g (Q := fun W => OKT W R E (fun k g => sceneS ⟨cc, vv, rr, E, R⟩ (fun _ => ⟨r, s, a, t, q⟩) tm n N (fun i => ab2 (fp i)) 1 (k * E + g))) (fun w1 e w' hu h => ?_) (fun W e w' h => ?_) (fun w1 w2 g hu hg hw => ?_)
    · obtain ⟨A, B, d, he, k1, k2⟩ := h
      exact ⟨A, B, d, he, k1.out.base hu, k2⟩
    · obtain ⟨A, B, d, he, k1, k2⟩ := h
      exact ⟨_, _, he⟩
    · subst hg hw
      have key := t16 (w := w1.alloc (.cells #[.float .f64 r, .float .f64 s, .float .f64 a, .float .f64 t, .float .f64 q] 34)) (cc := cc) (vv := vv) (rr := rr) (n := n) (pc := pc) (tm := tm) (wd := 0) (T := 1) (cp := 1) (E := E) (R := R) (N := N) (pg := pg) (po := po) (tg := w1.heap.size) (seed := 0) (p := some ⟨w1.heap.size, 0, none⟩) (fp := fp) (f := fun _ => ⟨r, s, a, t, q⟩)
        (fun W hW => by
          have e : refF 0 (decide (n = 0)) (muchF 1 R n) true false true = 0 := by
            rw [hm, decide_eq_false (by omega)]; rfl
          rw [← e]
          refine t35 h0 (by omega) (by omega) (by rw [h3]; decide +kernel) (by decide +kernel) fun _ w' hu' => ?_
          exact all_fin (tl_one w1 r s a t q) (by omega) (fun i hi => h5) w' (hW.trans hu'))
        g1 g2 (by omega) (by omega) (by omega) hN hN2 hn1 hn2 (by omega) (hp.up (hu.trans (Up.alloc _ _))) (tl_one w1 r s a t q) (fun _ => rfl) (fun i hi => by
          simp only [finT, fin4F, Bool.and_eq_true] at h5
          exact h5.2.2.2)
      refine key.mono fun e w' h => ?_
      obtain ⟨A, B, d, he, k1, k2⟩ := h
      refine ⟨A, B, d, he, k1, fun k hk g hg => ?_⟩
      rw [k2.out k hk g hg]
      unfold finalS
      rw [if_neg (by decide +kernel)]
  · cases hck
end Go.Proofs.Ythifemkbemhmnaa
