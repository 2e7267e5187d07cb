/- Solve, of numbers that are told by their bits but for what is no number. -/
import Derived.Test.YthpoipajfkfdeabCk
namespace Go.Proofs.Ythpoipajfkfdeab
open Go.ChangeShapes Go.WideShapes Go.ChangeAt Go.RowKit Go.Fl Ieee

def joC (M : Nat → Nat → CN) (r : Nat → CN) (n : Nat) : Nat → Nat → CN := fun a b => if a < n then (if b < n then M a b else if b = n then r a else (ab 0, ab 0)) else (ab 0, ab 0)
def finM (M : Nat → Nat → CN) (n : Nat) : Bool := allN (fun i => allN (fun j => finCN (M i j)) n) n
def finV (r : Nat → CN) (n : Nat) : Bool := allN (fun j => finCN (r j)) n
def xC (M : Nat → Nat → CN) (r : Nat → CN) (n : Nat) : Nat → CN := bx (elT (joC M r n) n (n + 1) n) n n
theorem allN_congr {F G : Nat → Bool} : ∀ n, (∀ i, i < n → F i = G i) → allN F n = allN G n
  | 0, _ => rfl
  | n + 1, h => by rw [allN, allN, allN_congr n fun i hi => h i (by omega), h n (by omega)]
theorem jo_is {f : Nat → Nat → Nat × Nat} {fb : Nat → Nat × Nat} {M : Nat → Nat → CN} {r : Nat → CN} {n : Nat} (hM : ∀ i j, i < n → j < n → ab2 (f i j) = M i j) (hr : ∀ i, i < n → ab2 (fb i) = r i) : joT f fb n n = joC M r n := by
  funext a b
  unfold joT joC
  by_cases e : a < n
  · rw [if_pos e, if_pos e]
    by_cases e2 : b < n
    · rw [if_pos e2, if_pos e2, hM a b e e2]
    · rw [if_neg e2, if_neg e2, hr a e]
  · rw [if_neg e, if_neg e]
theorem finT_is {f : Nat → Nat → Nat × Nat} {M : Nat → Nat → CN} {n : Nat} (hM : ∀ i j, i < n → j < n → ab2 (f i j) = M i j) : finT (fun _ => n) f n = finM M n := by
  unfold finT finM finR
  exact allN_congr n fun i hi => allN_congr n fun j hj => by rw [← hM i j hi hj]; rfl
theorem finR_is {fb : Nat → Nat × Nat} {r : Nat → CN} {n : Nat} (hr : ∀ i, i < n → ab2 (fb i) = r i) : finR fb n = finV r n := by
  unfold finR finV
  exact allN_congr n fun i hi => by rw [← hr i hi]; rfl
theorem long_n (m n : Nat) : longB (fun _ => m) m n = true := by
  unfold longB
  rw [allN_iff]
  intro i _
  exact decide_eq_true rfl
theorem s4c {w : World} {p pb : Option Addr} {n c cb : Nat} {f : Nat → Nat → Nat × Nat} {M : Nat → Nat → CN} (h : TR w p n (fun _ => n) f) (hM : ∀ i j, i < n → j < n → ab2 (f i j) = M i j) (hn : n ≤ 64) (h2 : finM M n = false) : Calls Try.prog 4 #[.slice p n c, .slice pb n cb] w (SE 6 w) := t4c h hn (long_n n n) ((finT_is hM).trans h2)
theorem s4d {w : World} {p pb : Option Addr} {n c cb : Nat} {f : Nat → Nat → Nat × Nat} {fb : Nat → Nat × Nat} {M : Nat → Nat → CN} {r : Nat → CN} (h : TR w p n (fun _ => n) f) (hb : RowV w pb n fb) (hc : n ≤ cb) (hM : ∀ i j, i < n → j < n → ab2 (f i j) = M i j) (hr : ∀ i, i < n → ab2 (fb i) = r i) (hn : n ≤ 64) (h2 : finM M n = true) (h3 : finV r n = false) : Calls Try.prog 4 #[.slice p n c, .slice pb n cb] w (SE 6 w) := t4d h hb hc hn (long_n n n) ((finT_is hM).trans h2) ((finR_is hr).trans h3)
theorem s4e {w : World} {p pb : Option Addr} {n c cb : Nat} {f : Nat → Nat → Nat × Nat} {fb : Nat → Nat × Nat} {M : Nat → Nat → CN} {r : Nat → CN} (h : TR w p n (fun _ => n) f) (hb : RowV w pb n fb) (hc : n ≤ cb) (hM : ∀ i j, i < n → j < n → ab2 (f i j) = M i j) (hr : ∀ i, i < n → ab2 (fb i) = r i) (hn : n ≤ 64) (h2 : finM M n = true) (h3 : finV r n = true) (h4 : solB (joC M r n) n (n + 1) = false) : Calls Try.prog 4 #[.slice p n c, .slice pb n cb] w (SE 210 w) := t4e h hb hc hn (long_n n n) ((finT_is hM).trans h2) ((finR_is hr).trans h3) (by rw [jo_is hM hr]; exact h4)
theorem s4f {w : World} {p pb : Option Addr} {n c cb : Nat} {f : Nat → Nat → Nat × Nat} {fb : Nat → Nat × Nat} {M : Nat → Nat → CN} {r : Nat → CN} (h : TR w p n (fun _ => n) f) (hb : RowV w pb n fb) (hc : n ≤ cb) (hM : ∀ i j, i < n → j < n → ab2 (f i j) = M i j) (hr : ∀ i, i < n → ab2 (fb i) = r i) (hn : n ≤ 64) (h2 : finM M n = true) (h3 : finV r n = true) (h4 : solB (joC M r n) n (n + 1) = true) (h5 : finV (xC M r n) n = false) : Calls Try.prog 4 #[.slice p n c, .slice pb n cb] w (SE 210 w) := t4f h hb hc hn (long_n n n) ((finT_is hM).trans h2) ((finR_is hr).trans h3) (by rw [jo_is hM hr]; exact h4) (by unfold xS; rw [jo_is hM hr]; exact h5)
theorem s4g {w : World} {p pb : Option Addr} {n c cb : Nat} {f : Nat → Nat → Nat × Nat} {fb : Nat → Nat × Nat} {M : Nat → Nat → CN} {r : Nat → CN} (h : TR w p n (fun _ => n) f) (hb : RowV w pb n fb) (hc : n ≤ cb) (hM : ∀ i j, i < n → j < n → ab2 (f i j) = M i j) (hr : ∀ i, i < n → ab2 (fb i) = r i) (hn : n ≤ 64) (h2 : finM M n = true) (h3 : finV r n = true) (h4 : solB (joC M r n) n (n + 1) = true) (h5 : finV (xC M r n) n = true) : Calls Try.prog 4 #[.slice p n c, .slice pb n cb] w (SOk n (xC M r n) w) := by
  have := t4g (c := c) h hb hc hn (long_n n n) ((finT_is hM).trans h2) ((finR_is hr).trans h3) (by rw [jo_is hM hr]; exact h4) (by unfold xS; rw [jo_is hM hr]; exact h5)
  have e : xS f fb n = xC M r n := by unfold xS; rw [jo_is hM hr]; rfl
  rw [e] at this
  exact this
theorem EQ.tr {w0 w : World} {A B n m : Nat} {σ : Nat → Nat} {T : Nat → Nat → CN} (h : EQ w0 w A B n m σ T) : ∃ f, TR w (some ⟨A, 0, none⟩) n (fun _ => m) f ∧ ∀ i j, i < n → j < m → ab2 (f i j) = T i j := by
  obtain ⟨d, hd, h3⟩ := h.all
  have hl := hd.len
  refine ⟨fun i j => d[σ i * m + j]!, fun hn => ⟨A, 0, rfl, fun i hi => ⟨some ⟨B, σ i * m, none⟩, m, ?_, Nat.le_refl _, fun hm => ⟨B, σ i * m, rfl, fun j hj => ?_⟩⟩⟩, h3⟩
  · rw [Nat.zero_add]; exact h.row hi
  · exact hd.cell (by rw [hl]; exact idx_lt' (h.lt i hi) hj)
end Go.Proofs.Ythpoipajfkfdeab
