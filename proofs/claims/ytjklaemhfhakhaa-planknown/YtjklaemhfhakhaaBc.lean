/- A plan in memory. -/
import Derived.Test.YtjklaemhfhakhaaBb
namespace Go.Proofs.Ytjklaemhfhakhaa
open Go.ChangeShapes Go.WideShapes Go.ChangeAt Go.RowKit

/-- Where a plan lies. -/
structure Ly where
  bp : Nat
  bt : Nat
  br : Nat → Nat
  ro : Nat → Nat
  rc : Nat → Nat
structure Ly.Ok (L : Ly) (n : Nat) : Prop where
  pt : L.bp ≠ L.bt
  rp : ∀ i, i < n → L.br i ≠ L.bp
  rt : ∀ i, i < n → L.br i ≠ L.bt
  rr : ∀ i j, i < n → j < n → i ≠ j → L.br i ≠ L.br j
/-- A plan's own blocks. -/
def Ly.Own (L : Ly) (n k : Nat) : Prop := k = L.bp ∨ k = L.bt ∨ ∃ i, i < n ∧ k = L.br i
structure RowAt (w : World) (g o : Nat) (x : Rw) : Prop where
  nx : w.cell? ⟨g, o, none⟩ = some (.int .i64 x.nx)
  e : w.cell? ⟨g, o + 1, none⟩ = some (.int .i64 x.e)
  l : w.cell? ⟨g, o + 2, none⟩ = some (.int .i64 x.l)
  r : w.cell? ⟨g, o + 3, none⟩ = some (.int .i64 x.r)
structure PW (w : World) (L : Ly) (n : Nat) (p : Pl) : Prop where
  p0 : w.cell? ⟨L.bp, 0, none⟩ = some (.int .i64 p.now)
  p1 : w.cell? ⟨L.bp, 1, none⟩ = some (.slice (some ⟨L.bt, 0, none⟩) n n)
  cr : ∀ i, i < n → w.cell? ⟨L.bt, i * 2, none⟩ = some (.slice (some ⟨L.br i, L.ro i, none⟩) ((p.c i).tl.length + 1) (L.rc i))
  cd : ∀ i, i < n → w.cell? ⟨L.bt, i * 2 + 1, none⟩ = some (.int .i64 (p.c i).done)
  rw' : ∀ i, i < n → ∀ k x, ((p.c i).hd :: (p.c i).tl)[k]? = some x → RowAt w (L.br i) (L.ro i + k * 4) x
  cap : ∀ i, i < n → (p.c i).tl.length + 1 ≤ L.rc i
  sp : ∀ i, i < n → ∀ k, k < L.rc i * 4 → (w.cell? ⟨L.br i, L.ro i + k, none⟩).isSome = true
  lp : L.bp < w.heap.size
  lt : L.bt < w.heap.size
  fp : ∀ k, w.frozen? ⟨L.bp, k, none⟩ = false
  ft : ∀ k, w.frozen? ⟨L.bt, k, none⟩ = false
  fr : ∀ i, i < n → ∀ k, w.frozen? ⟨L.br i, k, none⟩ = false
theorem PW.hd {w : World} {L : Ly} {n : Nat} {p : Pl} (h : PW w L n p) {i : Nat} (hi : i < n) : RowAt w (L.br i) (L.ro i) (p.c i).hd := by
  have := h.rw' i hi 0 (p.c i).hd rfl
  rwa [Nat.zero_mul, Nat.add_zero] at this
theorem RowAt.kp {F : Nat → Prop} {w w' : World} {g o : Nat} {x : Rw} (h : RowAt w g o x) (hk : Kp F w w') (hF : F g) : RowAt w' g o x :=
  ⟨hk.cell hF h.nx, hk.cell hF h.e, hk.cell hF h.l, hk.cell hF h.r⟩
theorem PW.lr {w : World} {L : Ly} {n : Nat} {p : Pl} (h : PW w L n p) {i : Nat} (hi : i < n) : L.br i < w.heap.size := World.block_lt_of_cell? w _ (h.hd hi).nx
theorem PW.kp {F : Nat → Prop} {w w' : World} {L : Ly} {n : Nat} {p : Pl} (h : PW w L n p) (hk : Kp F w w') (hF : ∀ k, L.Own n k → F k) : PW w' L n p := by
  have f1 := hF L.bp (Or.inl rfl)
  have f2 := hF L.bt (Or.inr (Or.inl rfl))
  have f3 : ∀ i, i < n → F (L.br i) := fun i hi => hF _ (Or.inr (Or.inr ⟨i, hi, rfl⟩))
  refine ⟨hk.cell f1 h.p0, hk.cell f1 h.p1, fun i hi => hk.cell f2 (h.cr i hi), fun i hi => hk.cell f2 (h.cd i hi), fun i hi k x hx => (h.rw' i hi k x hx).kp hk (f3 i hi), h.cap, fun i hi k hk' => ?_, Nat.lt_of_lt_of_le h.lp hk.size, Nat.lt_of_lt_of_le h.lt hk.size, fun k => hk.frozen f1 h.lp (h.fp k), fun k => hk.frozen f2 h.lt (h.ft k), fun i hi k => hk.frozen (f3 i hi) (h.lr hi) (h.fr i hi k)⟩
  have := h.sp i hi k hk'
  obtain ⟨v, hv⟩ := Option.isSome_iff_exists.1 this
  rw [hk.cell (f3 i hi) hv]; rfl
theorem PW.up {w w' : World} {L : Ly} {n : Nat} {p : Pl} (h : PW w L n p) (hu : Up w w') : PW w' L n p := h.kp (F := fun _ => True) (Kp.of_up hu) (fun _ _ => trivial)
set_option maxHeartbeats 1000000 in
theorem t55 {w : World} {L : Ly} {n : Nat} {p : Pl} (h : PW w L n p) (hb : PB n p) {i : Nat} (hi : i < n) : Calls Try.prog 55 #[.pointer (some ⟨L.bt, i * 2, none⟩), .int .i64 i] w (VU w (jv (p.J i))) := by
  have c1 := h.cr i hi
  have c2 := h.cd i hi
  obtain ⟨c3, c4, c5, c6⟩ := h.hd hi
  have ok := hb.c i hi
  obtain ⟨m1, m2, m3⟩ := ok.hd.may
  have m4 := ok.hd.lo
  have m5 := ok.hd.hi
  have m6 := ok.lo
  have m7 := ok.hi
  have HJ : Hid (p.J i = ⟨i, (p.c i).hd.nx, (p.c i).hd.nx + (p.c i).hd.e, (p.c i).hd.l - (p.c i).done, (p.c i).hd.r⟩) := rfl
  have hl := h.cap i hi
  have l1 := h.lt
  have l2 := h.lr hi
  clear h hb ok
  generalize (p.c i).hd.nx = nx at *
  generalize (p.c i).hd.e = e at *
  generalize (p.c i).hd.l = l at *
  generalize (p.c i).hd.r = r at *
  generalize (p.c i).done = d at *
  generalize (p.c i).tl.length = t at *
  generalize L.rc i = rc at *
  generalize L.br i = g at *
  generalize L.ro i = o at *
  generalize L.bt = bt at *
  have d1 : IntKind.i64.wrap (nx + e) = nx + e := by rw [IntKind.wrap_i64]; omega
  have d2 : IntKind.i64.wrap (l - d) = l - d := by rw [IntKind.wrap_i64]; omega
  go_enter Try.func55, Try.ntmps55
  obtain ⟨T, hT⟩ : ∃ T, t + 1 = T := ⟨_, rfl⟩
  rw [hT] at c1 hl
  have q1 : (0 : Int) < (T : Int) := by omega
  clear hT
  go_wp2_with fail
  have HU : Hid (Up w ((w.alloc (.cells #[.int .i64 0, .int .i64 0, .int .i64 0, .int .i64 0, .int .i64 0] 88)).alloc (.cells #[.int .i64 nx, .int .i64 e, .int .i64 l, .int .i64 r] 67))) := (Up.alloc _ _).trans (Up.alloc _ _)
  go_region
  have hu : Up w ((w.alloc (.cells #[.int .i64 i, .int .i64 nx, .int .i64 (nx + e), .int .i64 (l - d), .int .i64 r] 88)).alloc (.cells #[.int .i64 nx, .int .i64 e, .int .i64 l, .int .i64 r] 67)).drew := ((Up.alloc _ _).trans (Up.alloc _ _)).trans (Up.drew _)
  go_wp2_with fail
  refine bodyPost_ret (results_cell_row Try.results55 _ _ _ 88 #[.int .i64 i, .int .i64 nx, .int .i64 (nx + e), .int .i64 (l - d), .int .i64 r] (0, 0) _ rfl (kept2 (heap_alloc_last w _) ((Up.alloc _ _).trans (Up.drew _))) Try.underlying88 rfl (by kernel_rfl)) rfl ⟨?_, hu⟩
  rw [HJ.out]; rfl
end Go.Proofs.Ytjklaemhfhakhaa
