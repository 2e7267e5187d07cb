/- Complex numbers with rational parts, and how great they are. -/
import Derived.Test.YtfimolhndbfpgaaFw
import Derived.Test.YtfimolhndbfpgaaX
namespace Go.Proofs.Ytfimolhndbfpgaa
open Go.Fl Ieee Go.RowKit

abbrev Q2 := Rat × Rat
def qa (a b : Q2) : Q2 := (a.1 + b.1, a.2 + b.2)
def qs (a b : Q2) : Q2 := (a.1 - b.1, a.2 - b.2)
def qm (a b : Q2) : Q2 := (a.1 * b.1 - a.2 * b.2, a.1 * b.2 + a.2 * b.1)
def qj (a : Q2) : Q2 := (a.1, -a.2)
def qn (a : Q2) : Q2 := (-a.1, -a.2)
def N2 (z : Q2) : Rat := z.1 * z.1 + z.2 * z.2
/-- At most B in magnitude. -/
def Le (z : Q2) (B : Rat) : Prop := 0 ≤ B ∧ N2 z ≤ B * B
theorem sq_nonneg (x : Rat) : 0 ≤ x * x := by
  rcases (Rat.le_total : 0 ≤ x ∨ x ≤ 0) with h | h
  · exact Rat.mul_nonneg h h
  · have := Rat.mul_nonneg (a := -x) (b := -x) (by grind) (by grind)
    grind
theorem sq_le {x y : Rat} (hy : 0 ≤ y) (h : x * x ≤ y * y) : x ≤ y := by
  refine Rat.not_lt.1 fun h2 => ?_
  have h3 : 0 < (x - y) * (x + y) := Rat.mul_pos (by grind) (by grind)
  grind
theorem mul_mono2 {a b A B : Rat} (ha : 0 ≤ a) (hb : 0 ≤ b) (h1 : a ≤ A) (h2 : b ≤ B) : a * b ≤ A * B :=
  Rat.le_trans (Rat.mul_le_mul_of_nonneg_right h1 hb) (Rat.mul_le_mul_of_nonneg_left h2 (Rat.le_trans ha h1))
theorem N2_nonneg (z : Q2) : 0 ≤ N2 z := by
  have h1 := sq_nonneg z.1
  have h2 := sq_nonneg z.2
  unfold N2; grind
theorem Le.add {a b : Q2} {A B : Rat} (ha : Le a A) (hb : Le b B) : Le (qa a b) (A + B) := by
  obtain ⟨a0, a1⟩ := ha
  obtain ⟨b0, b1⟩ := hb
  refine ⟨by grind, ?_⟩
  have h1 : N2 a * N2 b ≤ (A * A) * (B * B) := mul_mono2 (N2_nonneg a) (N2_nonneg b) a1 b1
  have h2 : (a.1 * b.1 + a.2 * b.2) * (a.1 * b.1 + a.2 * b.2) + (a.1 * b.2 - a.2 * b.1) * (a.1 * b.2 - a.2 * b.1) = N2 a * N2 b := by unfold N2; grind
  have h3 := sq_nonneg (a.1 * b.2 - a.2 * b.1)
  have h4 : a.1 * b.1 + a.2 * b.2 ≤ A * B := sq_le (Rat.mul_nonneg a0 b0) (by grind)
  have h5 : N2 (qa a b) = N2 a + N2 b + 2 * (a.1 * b.1 + a.2 * b.2) := by unfold N2 qa; grind
  rw [h5]; grind
theorem Le.mul {a b : Q2} {A B : Rat} (ha : Le a A) (hb : Le b B) : Le (qm a b) (A * B) := by
  obtain ⟨a0, a1⟩ := ha
  obtain ⟨b0, b1⟩ := hb
  refine ⟨Rat.mul_nonneg a0 b0, ?_⟩
  have h1 : N2 a * N2 b ≤ (A * A) * (B * B) := mul_mono2 (N2_nonneg a) (N2_nonneg b) a1 b1
  have h5 : N2 (qm a b) = N2 a * N2 b := by unfold N2 qm; grind
  rw [h5]; grind
theorem Le.mono {a : Q2} {A B : Rat} (h : Le a A) (hB : A ≤ B) : Le a B := by
  obtain ⟨a0, a1⟩ := h
  exact ⟨Rat.le_trans a0 hB, Rat.le_trans a1 (mul_mono2 a0 a0 hB hB)⟩
theorem Le.neg {a : Q2} {A : Rat} (h : Le a A) : Le (qn a) A := by
  obtain ⟨a0, a1⟩ := h
  refine ⟨a0, ?_⟩
  have : N2 (qn a) = N2 a := by unfold N2 qn; grind
  rw [this]; exact a1
theorem Le.conj {a : Q2} {A : Rat} (h : Le a A) : Le (qj a) A := by
  obtain ⟨a0, a1⟩ := h
  refine ⟨a0, ?_⟩
  have : N2 (qj a) = N2 a := by unfold N2 qj; grind
  rw [this]; exact a1
theorem Le.zero : Le (0, 0) 0 := ⟨by grind, by unfold N2; grind⟩
theorem Le.cast {a b : Q2} {A : Rat} (h : Le a A) (e : a = b) : Le b A := e ▸ h
theorem Le.fst {a : Q2} {A : Rat} (h : Le a A) : a.1 ≤ A ∧ -A ≤ a.1 := by
  obtain ⟨a0, a1⟩ := h
  have h2 := sq_nonneg a.2
  unfold N2 at a1
  have := sq_le (x := a.1) a0 (by grind)
  have := sq_le (x := -a.1) a0 (by grind)
  constructor <;> grind
theorem Le.snd {a : Q2} {A : Rat} (h : Le a A) : a.2 ≤ A ∧ -A ≤ a.2 := by
  obtain ⟨a0, a1⟩ := h
  have h2 := sq_nonneg a.1
  unfold N2 at a1
  have := sq_le (x := a.2) a0 (by grind)
  have := sq_le (x := -a.2) a0 (by grind)
  constructor <;> grind
theorem sq_of {x r : Rat} (h1 : x ≤ r) (h2 : -r ≤ x) : x * x ≤ r * r := by
  have h : 0 ≤ (r - x) * (r + x) := Rat.mul_nonneg (by grind) (by grind)
  grind
/-- Out of its parts. -/
theorem Le.of {a : Q2} {r : Rat} (h1 : a.1 ≤ r) (h2 : -r ≤ a.1) (h3 : a.2 ≤ r) (h4 : -r ≤ a.2) : Le a (3 / 2 * r) := by
  have h0 : 0 ≤ r := by grind
  have s1 := sq_of h1 h2
  have s2 := sq_of h3 h4
  have s3 := sq_nonneg r
  refine ⟨by grind, ?_⟩
  unfold N2
  grind
theorem Le.sub {a b : Q2} {A B : Rat} (ha : Le a A) (hb : Le b B) : Le (qs a b) (A + B) := (ha.add hb.neg).cast (by unfold qa qn qs; ext <;> grind)
theorem Le.nonneg {a : Q2} {A : Rat} (h : Le a A) : 0 ≤ A := h.1
end Go.Proofs.Ytfimolhndbfpgaa

/- Floats that stand for such numbers: how far they are off. -/
namespace Go.Proofs.Ytfimolhndbfpgaa
open Go.Fl Ieee Go.RowKit

def vv (x y : Nat) : Q2 := (val x, val y)
/-- A pair of floats that is off by at most E. -/
def NF (c : C2) (z : Q2) (E : Rat) : Prop := ∃ x y, c = (some x, some y) ∧ Fnt x ∧ Fnt y ∧ Le (qs (vv x y) z) E
theorem NF.mono {c : C2} {z : Q2} {E F : Rat} (h : NF c z E) (hE : E ≤ F) : NF c z F := by
  obtain ⟨x, y, e, fx, fy, l⟩ := h
  exact ⟨x, y, e, fx, fy, l.mono hE⟩
theorem NF.move {c : C2} {z w : Q2} {E D : Rat} (h : NF c z E) (hw : Le (qs z w) D) : NF c w (E + D) := by
  obtain ⟨x, y, e, fx, fy, l⟩ := h
  exact ⟨x, y, e, fx, fy, (l.add hw).cast (by unfold qa qs; ext <;> grind)⟩
theorem vv_size {x y : Nat} {z : Q2} {E Z : Rat} (l : Le (qs (vv x y) z) E) (hz : Le z Z) : Le (vv x y) (Z + E) := (hz.add l).cast (by unfold qa qs; ext <;> grind)
theorem pw53v : pw (-53) = 1 / 9007199254740992 := pw53
theorem near_parts {a b E : Rat} (h : Near a b E) : a - b ≤ E ∧ -E ≤ a - b := by unfold Near at h; constructor <;> grind
theorem NF.add {a b : C2} {z w : Q2} {E F Z Y : Rat} (ha : NF a z E) (hb : NF b w F) (hz : Le z Z) (hw : Le w Y) (hB : Z + E + (Y + F) ≤ pw 1000) : NF (addC a b) (qa z w) (E + F + 1 / 4503599627370496 * (Z + E + (Y + F))) := by
  obtain ⟨x1, y1, rfl, fx1, fy1, l1⟩ := ha
  obtain ⟨x2, y2, rfl, fx2, fy2, l2⟩ := hb
  have s := (vv_size l1 hz).add (vv_size l2 hw)
  obtain ⟨r, hr⟩ := bin_some_add fx1 fx2
  obtain ⟨q, hq⟩ := bin_some_add fy1 fy2
  obtain ⟨fr, nr⟩ := add_near fx1 fx2 hr (B := Z + E + (Y + F)) s.fst.1 s.fst.2 hB
  obtain ⟨fq, nq⟩ := add_near fy1 fy2 hq (B := Z + E + (Y + F)) s.snd.1 s.snd.2 hB
  rw [pw53v] at nr nq
  have s0 := s.nonneg
  refine ⟨r, q, Prod.ext hr hq, fr, fq, ?_⟩
  have e : Le (qs (vv r q) (qa (vv x1 y1) (vv x2 y2))) (3 / 2 * (1 / 9007199254740992 * (Z + E + (Y + F)))) := Le.of (near_parts nr).1 (near_parts nr).2 (near_parts nq).1 (near_parts nq).2
  refine (((l1.add l2).add e).cast (b := qs (vv r q) (qa z w)) (by unfold qa qs; ext <;> grind)).mono (by grind)
theorem NF.sub {a b : C2} {z w : Q2} {E F Z Y : Rat} (ha : NF a z E) (hb : NF b w F) (hz : Le z Z) (hw : Le w Y) (hB : Z + E + (Y + F) ≤ pw 1000) : NF (subC a b) (qs z w) (E + F + 1 / 4503599627370496 * (Z + E + (Y + F))) := by
  obtain ⟨x1, y1, rfl, fx1, fy1, l1⟩ := ha
  obtain ⟨x2, y2, rfl, fx2, fy2, l2⟩ := hb
  have s := (vv_size l1 hz).sub (vv_size l2 hw)
  obtain ⟨r, hr⟩ := bin_some_sub fx1 fx2
  obtain ⟨q, hq⟩ := bin_some_sub fy1 fy2
  obtain ⟨fr, nr⟩ := sub_near fx1 fx2 hr (B := Z + E + (Y + F)) s.fst.1 s.fst.2 hB
  obtain ⟨fq, nq⟩ := sub_near fy1 fy2 hq (B := Z + E + (Y + F)) s.snd.1 s.snd.2 hB
  rw [pw53v] at nr nq
  have s0 := s.nonneg
  refine ⟨r, q, Prod.ext hr hq, fr, fq, ?_⟩
  have e : Le (qs (vv r q) (qs (vv x1 y1) (vv x2 y2))) (3 / 2 * (1 / 9007199254740992 * (Z + E + (Y + F)))) := Le.of (near_parts nr).1 (near_parts nr).2 (near_parts nq).1 (near_parts nq).2
  refine (((l1.sub l2).add e).cast (b := qs (vv r q) (qs z w)) (by unfold qa qs; ext <;> grind)).mono (by grind)
theorem part_mul {x y A B : Rat} (h1 : x ≤ A) (h2 : -A ≤ x) (h3 : y ≤ B) (h4 : -B ≤ y) : x * y ≤ A * B ∧ -(A * B) ≤ x * y := by
  have a : 0 ≤ (A - x) * (B + y) := Rat.mul_nonneg (by grind) (by grind)
  have b : 0 ≤ (A + x) * (B - y) := Rat.mul_nonneg (by grind) (by grind)
  have c : 0 ≤ (A - x) * (B - y) := Rat.mul_nonneg (by grind) (by grind)
  have d : 0 ≤ (A + x) * (B + y) := Rat.mul_nonneg (by grind) (by grind)
  constructor <;> grind
theorem eta_small : pw (-1075) ≤ 1 / 9007199254740992 := by rw [← pw53]; exact pw_mono (by omega)
/-- A part of a product: two products and their difference or sum. -/
theorem part_err {p q d a b B : Rat} {u : Rat} (hu : u = 1 / 9007199254740992) (hB : 1 ≤ B) (hp : Near p a (u * B + pw (-1075))) (hq : Near q b (u * B + pw (-1075))) (hd : Near d (p - q) (u * (2 * B + 4 * u * B))) : d - (a - b) ≤ 7 * u * B ∧ -(7 * u * B) ≤ d - (a - b) := by
  have h1 := near_parts hp
  have h2 := near_parts hq
  have h3 := near_parts hd
  have h4 := eta_small
  subst hu
  constructor <;> grind
theorem part_err' {p q d a b B : Rat} {u : Rat} (hu : u = 1 / 9007199254740992) (hB : 1 ≤ B) (hp : Near p a (u * B + pw (-1075))) (hq : Near q b (u * B + pw (-1075))) (hd : Near d (p + q) (u * (2 * B + 4 * u * B))) : d - (a + b) ≤ 7 * u * B ∧ -(7 * u * B) ≤ d - (a + b) := by
  have h1 := near_parts hp
  have h2 := near_parts hq
  have h3 := near_parts hd
  have h4 := eta_small
  subst hu
  constructor <;> grind
theorem NF.mul {a b : C2} {z w : Q2} {E F Z Y : Rat} (ha : NF a z E) (hb : NF b w F) (hz : Le z Z) (hw : Le w Y) (h1 : 1 ≤ (Z + E) * (Y + F)) (hB : 3 * ((Z + E) * (Y + F)) ≤ pw 1000) : NF (mulC a b) (qm z w) (E * (Y + F) + Z * F + 1 / 562949953421312 * ((Z + E) * (Y + F))) := by
  obtain ⟨x1, y1, rfl, fx1, fy1, l1⟩ := ha
  obtain ⟨x2, y2, rfl, fx2, fy2, l2⟩ := hb
  have s1 := vv_size l1 hz
  have s2 := vv_size l2 hw
  obtain ⟨B, hBd⟩ : ∃ B, (Z + E) * (Y + F) = B := ⟨_, rfl⟩
  rw [hBd] at h1 hB ⊢
  have m1 := part_mul s1.fst.1 s1.fst.2 s2.fst.1 s2.fst.2
  have m2 := part_mul s1.snd.1 s1.snd.2 s2.snd.1 s2.snd.2
  have m3 := part_mul s1.fst.1 s1.fst.2 s2.snd.1 s2.snd.2
  have m4 := part_mul s1.snd.1 s1.snd.2 s2.fst.1 s2.fst.2
  rw [hBd] at m1 m2 m3 m4
  have hB1 : B ≤ pw 1000 := by grind
  obtain ⟨r1, e1⟩ := bin_some_mul fx1 fx2
  obtain ⟨r2, e2⟩ := bin_some_mul fy1 fy2
  obtain ⟨r3, e3⟩ := bin_some_mul fx1 fy2
  obtain ⟨r4, e4⟩ := bin_some_mul fy1 fx2
  obtain ⟨f1, n1⟩ := mul_near fx1 fx2 e1 m1.1 m1.2 hB1
  obtain ⟨f2, n2⟩ := mul_near fy1 fy2 e2 m2.1 m2.2 hB1
  obtain ⟨f3, n3⟩ := mul_near fx1 fy2 e3 m3.1 m3.2 hB1
  obtain ⟨f4, n4⟩ := mul_near fy1 fx2 e4 m4.1 m4.2 hB1
  rw [pw53v] at n1 n2 n3 n4
  have k1 := near_parts n1
  have k2 := near_parts n2
  have k3 := near_parts n3
  have k4 := near_parts n4
  have he := eta_small
  simp only [vv] at m1 m2 m3 m4
  obtain ⟨r, er⟩ := bin_some_sub f1 f2
  obtain ⟨q, eq⟩ := bin_some_add f3 f4
  obtain ⟨fr, nr⟩ := sub_near f1 f2 er (B := 2 * B + 4 * (1 / 9007199254740992) * B) (by grind) (by grind) (by grind)
  obtain ⟨fq, nq⟩ := add_near f3 f4 eq (B := 2 * B + 4 * (1 / 9007199254740992) * B) (by grind) (by grind) (by grind)
  rw [pw53v] at nr nq
  have p1 := part_err rfl h1 n1 n2 nr
  have p2 := part_err' rfl h1 n3 n4 nq
  refine ⟨r, q, ?_, fr, fq, ?_⟩
  · show (mulR _ _ _ _, mulI _ _ _ _) = _
    unfold mulR mulI
    simp only [e1, e2, e3, e4, er, eq]
  · have e : Le (qs (vv r q) (qm (vv x1 y1) (vv x2 y2))) (3 / 2 * (7 * (1 / 9007199254740992) * B)) := Le.of p1.1 p1.2 p2.1 p2.2
    have g1 := l1.mul s2
    have g2 := hz.mul l2
    refine (((g1.add g2).add e).cast (b := qs (vv r q) (qm z w)) (by unfold qa qs qm; ext <;> grind)).mono (by grind)
end Go.Proofs.Ytfimolhndbfpgaa

/- Sums; the points of a turn in 1024 parts, nearly. -/
namespace Go.Proofs.Ytfimolhndbfpgaa
open Go.Fl Ieee Go.RowKit

def sumQ : Nat → (Nat → Q2) → Q2
  | 0, _ => (0, 0)
  | n + 1, f => qa (sumQ n f) (f n)
theorem sumQ_congr {f g : Nat → Q2} : ∀ {n : Nat}, (∀ i, i < n → f i = g i) → sumQ n f = sumQ n g
  | 0, _ => rfl
  | n + 1, h => by rw [sumQ, sumQ, sumQ_congr (n := n) fun i hi => h i (by omega), h n (by omega)]
theorem sumQ_add (f g : Nat → Q2) : ∀ n, sumQ n (fun i => qa (f i) (g i)) = qa (sumQ n f) (sumQ n g)
  | 0 => by simp only [sumQ, qa]; ext <;> grind
  | n + 1 => by rw [sumQ, sumQ_add f g n, sumQ, sumQ]; unfold qa; ext <;> grind
theorem sumQ_sub (f g : Nat → Q2) : ∀ n, sumQ n (fun i => qs (f i) (g i)) = qs (sumQ n f) (sumQ n g)
  | 0 => by simp only [sumQ, qs]; ext <;> grind
  | n + 1 => by rw [sumQ, sumQ_sub f g n, sumQ, sumQ]; unfold qa qs; ext <;> grind
theorem sumQ_mul (c : Q2) (f : Nat → Q2) : ∀ n, sumQ n (fun i => qm c (f i)) = qm c (sumQ n f)
  | 0 => by simp only [sumQ, qm]; ext <;> grind
  | n + 1 => by rw [sumQ, sumQ_mul c f n, sumQ]; unfold qa qm; ext <;> grind
theorem sumQ_neg (f : Nat → Q2) : ∀ n, sumQ n (fun i => qn (f i)) = qn (sumQ n f)
  | 0 => by simp only [sumQ, qn]; ext <;> grind
  | n + 1 => by rw [sumQ, sumQ_neg f n, sumQ]; unfold qa qn; ext <;> grind
theorem sumQ_conj (f : Nat → Q2) : ∀ n, sumQ n (fun i => qj (f i)) = qj (sumQ n f)
  | 0 => by simp only [sumQ, qj]; ext <;> grind
  | n + 1 => by rw [sumQ, sumQ_conj f n, sumQ]; unfold qa qj; ext <;> grind
theorem sumQ_none : ∀ n, sumQ n (fun _ => (0, 0)) = (0, 0)
  | 0 => rfl
  | n + 1 => by rw [sumQ, sumQ_none n]; unfold qa; ext <;> grind
theorem sumQ_swap (f : Nat → Nat → Q2) (m : Nat) : ∀ n, sumQ n (fun i => sumQ m (f i)) = sumQ m (fun j => sumQ n (fun i => f i j))
  | 0 => by simp only [sumQ]; exact (sumQ_none m).symm
  | n + 1 => by rw [sumQ, sumQ_swap f m n, ← sumQ_add]; rfl
theorem sumQ_le {f : Nat → Q2} {B : Rat} (hB : 0 ≤ B) : ∀ {n : Nat}, (∀ i, i < n → Le (f i) B) → Le (sumQ n f) ((n : Rat) * B)
  | 0, _ => ⟨by grind, by unfold N2 sumQ; grind⟩
  | n + 1, h => by
    have e : ((n + 1 : Nat) : Rat) = (n : Rat) + 1 := by simp
    rw [e, sumQ]
    exact ((sumQ_le hB (n := n) fun i hi => h i (by omega)).add (h n (by omega))).mono (by grind)
theorem sumQ_front (f : Nat → Q2) (n : Nat) : ∀ m, sumQ (n + m) f = qa (sumQ n f) (sumQ m fun i => f (n + i))
  | 0 => by simp only [sumQ, Nat.add_zero, qa]; ext <;> grind
  | m + 1 => by rw [← Nat.add_assoc, sumQ, sumQ_front f n m, sumQ]; unfold qa; ext <;> grind
theorem sumQ_halves (f : Nat → Q2) : ∀ n, sumQ (2 * n) f = qa (sumQ n fun i => f (2 * i)) (sumQ n fun i => f (2 * i + 1))
  | 0 => by simp only [sumQ, qa]; ext <;> grind
  | n + 1 => by
    rw [show 2 * (n + 1) = 2 * n + 1 + 1 by omega, sumQ, sumQ, sumQ_halves f n, sumQ, sumQ]; unfold qa; ext <;> grind
/-- The only one that is not nought. -/
theorem sumQ_one {f : Nat → Q2} {k : Nat} : ∀ {n : Nat}, k < n → (∀ i, i < n → i ≠ k → f i = (0, 0)) → sumQ n f = f k
  | 0, h, _ => by omega
  | n + 1, h, h0 => by
    rw [sumQ]
    by_cases e : k = n
    · subst e
      rw [sumQ_congr (g := fun _ => (0, 0)) fun i hi => h0 i (by omega) (by omega), sumQ_none]; unfold qa; ext <;> grind
    · rw [sumQ_one (n := n) (by omega) fun i hi hk => h0 i (by omega) hk, h0 n (by omega) (by omega)]; unfold qa; ext <;> grind

/-! The points: whole numbers of 2^-110. -/
def SC : Int := 1298074214633706907132624082305024
def tr (z : Int) : Int := z.tdiv 1298074214633706907132624082305024
def mulZ (a b : Int × Int) : Int × Int := (a.1 * b.1 - a.2 * b.2, a.1 * b.2 + a.2 * b.1)
def W1 : Int × Int := (1298049778753453683909158340782007, 7964833647034213850585593654762)
def EZ : Nat → Int × Int
  | 0 => (SC, 0)
  | j + 1 => let z := mulZ (EZ j) W1; (tr z.1, tr z.2)
def flipK (k : Nat) : Bool := decide (256 < k)
def onceK (k : Nat) : Nat := if flipK k then 512 - k else k
def swapK (k : Nat) : Bool := decide (128 < onceK k)
def twiceK (k : Nat) : Nat := if swapK k then 256 - onceK k else onceK k
def cZ (k : Nat) : Int := if swapK k then (EZ (twiceK k)).2 else (EZ (twiceK k)).1
def sZ (k : Nat) : Int := if swapK k then (EZ (twiceK k)).1 else (EZ (twiceK k)).2
/-- The points of half a turn. -/
def TZ (k : Nat) : Int × Int := (if flipK k then -cZ k else cZ k, sZ k)
def TN (k : Nat) : Int × Int := if k < 512 then TZ k else (-SC, 0)
def nearZ (a b R : Int) : Bool := decide (a - b ≤ R) && decide (b - a ≤ R)
def okT (k : Nat) : Bool := decide ((TZ k).1 * (TZ k).1 + (TZ k).2 * (TZ k).2 ≤ SC * SC) && decide (SC * SC - 2 ^ 120 ≤ (TZ k).1 * (TZ k).1 + (TZ k).2 * (TZ k).2) && nearZ (mulZ (TZ k) W1).1 ((TN (k + 1)).1 * SC) (2 ^ 120) && nearZ (mulZ (TZ k) W1).2 ((TN (k + 1)).2 * SC) (2 ^ 120)
theorem okT_all : ∀ k : Nat, k < 512 → okT k = true := by decide +kernel
end Go.Proofs.Ytfimolhndbfpgaa

/- The points of a turn: products, what is turned about. -/
namespace Go.Proofs.Ytfimolhndbfpgaa
open Go.Fl Ieee Go.RowKit

def sc : Rat := 1 / 1298074214633706907132624082305024
theorem sc_eq : (SC : Rat) * sc = 1 := by unfold SC sc; decide +kernel
theorem sc_pos : 0 < sc := by unfold sc; decide +kernel
def qz (z : Int × Int) : Q2 := ((z.1 : Rat) * sc, (z.2 : Rat) * sc)
/-- The point at a 1024ths of a turn. -/
def T (a : Nat) : Q2 := if a / 512 % 2 = 0 then qz (TZ (a % 512)) else qn (qz (TZ (a % 512)))
theorem T_half (a : Nat) : T (a + 512) = qn (T a) := by
  unfold T
  have e1 : (a + 512) % 512 = a % 512 := by omega
  have e2 : (a + 512) / 512 = a / 512 + 1 := by omega
  rw [e1, e2]
  by_cases h : a / 512 % 2 = 0
  · rw [if_neg (by omega), if_pos h]
  · rw [if_pos (by omega), if_neg h]; unfold qn; ext <;> grind
theorem T_turn (a : Nat) : T (a + 1024) = T a := by
  rw [show a + 1024 = a + 512 + 512 by omega, T_half, T_half]; unfold qn; ext <;> grind
theorem T_turns (a : Nat) : ∀ n, T (a + 1024 * n) = T a
  | 0 => by simp
  | n + 1 => by rw [show a + 1024 * (n + 1) = a + 1024 * n + 1024 by omega, T_turn, T_turns a n]
theorem T_mod (a : Nat) : T (a % 1024) = T a := by
  have := T_turns (a % 1024) (a / 1024)
  rw [← this]; congr 1; omega
structure OkT (k : Nat) : Prop where
  hi : (TZ k).1 * (TZ k).1 + (TZ k).2 * (TZ k).2 ≤ SC * SC
  lo : SC * SC - 2 ^ 120 ≤ (TZ k).1 * (TZ k).1 + (TZ k).2 * (TZ k).2
  m1 : (mulZ (TZ k) W1).1 - (TN (k + 1)).1 * SC ≤ 2 ^ 120 ∧ (TN (k + 1)).1 * SC - (mulZ (TZ k) W1).1 ≤ 2 ^ 120
  m2 : (mulZ (TZ k) W1).2 - (TN (k + 1)).2 * SC ≤ 2 ^ 120 ∧ (TN (k + 1)).2 * SC - (mulZ (TZ k) W1).2 ≤ 2 ^ 120
theorem okT_at {k : Nat} (hk : k < 512) : OkT k := by
  have h := okT_all k hk
  simp only [okT, nearZ, Bool.and_eq_true, decide_eq_true_eq] at h
  exact ⟨h.1.1.1, h.1.1.2, h.1.2, h.2⟩
theorem le_sc {a b : Int} (h : a ≤ b) : (a : Rat) * (sc * sc) ≤ (b : Rat) * (sc * sc) :=
  Rat.mul_le_mul_of_nonneg_right (Rat.intCast_le_intCast.2 h) (Rat.le_of_lt (Rat.mul_pos sc_pos sc_pos))
theorem N2_qz (z : Int × Int) : N2 (qz z) = ((z.1 * z.1 + z.2 * z.2 : Int) : Rat) * (sc * sc) := by
  unfold N2 qz; rw [Rat.intCast_add, Rat.intCast_mul, Rat.intCast_mul]; grind
theorem sc2 : ((SC * SC : Int) : Rat) * (sc * sc) = 1 := by unfold SC sc; decide +kernel
def tny : Rat := 1 / 1267650600228229401496703205376
theorem sc3 : ((2 ^ 120 : Int) : Rat) * (sc * sc) = tny := by unfold sc tny; decide +kernel
theorem N2_neg (z : Q2) : N2 (qn z) = N2 z := by unfold N2 qn; grind
theorem T_norm (a : Nat) : N2 (T a) ≤ 1 ∧ 1 - tny ≤ N2 (T a) := by
  have ok := okT_at (k := a % 512) (by omega)
  have h : N2 (T a) = N2 (qz (TZ (a % 512))) := by
    unfold T; split
    · rfl
    · exact N2_neg _
  rw [h, N2_qz]
  have h1 := le_sc ok.hi
  have h2 := le_sc ok.lo
  rw [sc2] at h1
  have h3 := sc2
  have h4 := sc3
  rw [Rat.intCast_sub] at h2
  exact ⟨h1, by grind⟩
theorem T_le (a : Nat) : Le (T a) 1 := ⟨by decide +kernel, by have := (T_norm a).1; grind⟩
theorem T_zero : T 0 = (1, 0) := by unfold T; decide +kernel
theorem T_one : T 1 = qz W1 := by unfold T; decide +kernel
theorem qm_neg (a b : Q2) : qm (qn a) b = qn (qm a b) := by unfold qm qn; ext <;> grind
theorem T_next (a : Nat) : Le (qs (qm (T a) (T 1)) (T (a + 1))) (3 / 2 * tny) := by
  have base : ∀ k, k < 512 → Le (qs (qm (qz (TZ k)) (qz W1)) (qz (TN (k + 1)))) (3 / 2 * tny) := by
    intro k hk
    have ok := okT_at hk
    have e : qs (qm (qz (TZ k)) (qz W1)) (qz (TN (k + 1))) = ((((mulZ (TZ k) W1).1 - (TN (k + 1)).1 * SC : Int) : Rat) * (sc * sc), (((mulZ (TZ k) W1).2 - (TN (k + 1)).2 * SC : Int) : Rat) * (sc * sc)) := by
      have s := sc_eq
      unfold qs qm qz mulZ
      ext
      · simp only [Rat.intCast_sub, Rat.intCast_mul]; grind
      · simp only [Rat.intCast_sub, Rat.intCast_add, Rat.intCast_mul]; grind
    rw [e]
    have a1 := le_sc ok.m1.1
    have a2 := le_sc ok.m1.2
    have b1 := le_sc ok.m2.1
    have b2 := le_sc ok.m2.2
    rw [sc3] at a1 a2 b1 b2
    have n1 : ((mulZ (TZ k) W1).1 - (TN (k + 1)).1 * SC : Int) = -((TN (k + 1)).1 * SC - (mulZ (TZ k) W1).1) := by omega
    have n2 : ((mulZ (TZ k) W1).2 - (TN (k + 1)).2 * SC : Int) = -((TN (k + 1)).2 * SC - (mulZ (TZ k) W1).2) := by omega
    refine Le.of a1 ?_ b1 ?_
    · show -tny ≤ ((_ : Int) : Rat) * _
      rw [n1, Rat.intCast_neg]; grind
    · show -tny ≤ ((_ : Int) : Rat) * _
      rw [n2, Rat.intCast_neg]; grind
  rw [T_one]
  have hb := base (a % 512) (by omega)
  have key : T (a + 1) = if a / 512 % 2 = 0 then qz (TN (a % 512 + 1)) else qn (qz (TN (a % 512 + 1))) := by
    by_cases h : a % 512 + 1 < 512
    · have e1 : (a + 1) % 512 = a % 512 + 1 := by omega
      have e2 : (a + 1) / 512 = a / 512 := by omega
      unfold T TN
      rw [e1, e2, if_pos h]
    · have e1 : (a + 1) % 512 = 0 := by omega
      have e2 : (a + 1) / 512 = a / 512 + 1 := by omega
      unfold T TN
      rw [e1, e2, if_neg h]
      have z0 : qz (TZ 0) = (1, 0) := by decide +kernel
      have z1 : qz (-SC, 0) = (-1, 0) := by decide +kernel
      rw [z0, z1]
      by_cases h2 : a / 512 % 2 = 0
      · rw [if_neg (by omega), if_pos h2]; unfold qn; ext <;> grind
      · rw [if_pos (by omega), if_neg h2]; unfold qn; ext <;> grind
  rw [key]
  unfold T
  split
  · exact hb
  · exact hb.neg.cast (by unfold qs qm qn; ext <;> grind)
theorem tny_pos : 0 ≤ tny := by unfold tny; decide +kernel
/-- Products. -/
theorem T_prod0 (a : Nat) : ∀ b, Le (qs (qm (T a) (T b)) (T (a + b))) ((b : Rat) * (3 * tny))
  | 0 => by
    rw [T_zero]
    exact Le.zero.cast (by unfold qs qm; ext <;> grind) |>.mono (by have := tny_pos; grind)
  | b + 1 => by
    have e : ((b + 1 : Nat) : Rat) = (b : Rat) + 1 := by simp
    rw [e]
    have h1 := T_prod0 a b
    have h2 := (T_le a).mul (T_next b)
    have h3 := h1.mul (T_le 1)
    have h4 := T_next (a + b)
    refine ((h3.add h4).sub h2 |>.cast (b := qs (qm (T a) (T (b + 1))) (T (a + (b + 1)))) ?_).mono (by grind)
    rw [← Nat.add_assoc]
    unfold qs qm qa; ext <;> grind
def eps : Rat := 4096 * tny
theorem T_prod (a b : Nat) : Le (qs (qm (T a) (T b)) (T (a + b))) eps := by
  have h := T_prod0 a (b % 1024)
  rw [T_mod b] at h
  have e : T (a + b % 1024) = T (a + b) := by
    rw [← T_mod (a + b % 1024), ← T_mod (a + b)]; congr 1; omega
  rw [e] at h
  refine h.mono ?_
  have hb : ((b % 1024 : Nat) : Rat) ≤ ((1024 : Nat) : Rat) := Rat.natCast_le_natCast.2 (by omega)
  have ht := tny_pos
  have := Rat.mul_le_mul_of_nonneg_right hb (show 0 ≤ 3 * tny by grind)
  unfold eps
  have e2 : ((1024 : Nat) : Rat) = 1024 := by decide +kernel
  grind
/-- What is turned about. -/
theorem T_conj {a b : Nat} (h : (a + b) % 1024 = 0) : Le (qs (qj (T a)) (T b)) (2 * eps) := by
  have h1 := T_prod a b
  have e : T (a + b) = (1, 0) := by rw [← T_mod, h, T_zero]
  rw [e] at h1
  have h2 := (T_le a).conj.mul h1
  obtain ⟨n1, n2⟩ := T_norm a
  have h3 : Le (qm (N2 (T a) - 1, 0) (T b)) (tny * 1) := by
    refine Le.mul ⟨tny_pos, ?_⟩ (T_le b)
    have := sq_of (x := N2 (T a) - 1) (r := tny) (by have := tny_pos; grind) (by grind)
    show (N2 (T a) - 1) * (N2 (T a) - 1) + 0 * 0 ≤ _
    grind
  refine ((h3.sub h2).cast (b := qs (qj (T a)) (T b)) ?_).mono ?_
  · unfold qs qm qj N2; ext <;> grind
  · have := tny_pos
    unfold eps; grind
end Go.Proofs.Ytfimolhndbfpgaa

/- A transform by halves is near the sum that it stands for. -/
namespace Go.Proofs.Ytfimolhndbfpgaa
open Go.Fl Ieee Go.RowKit

/-- Points, one way round or the other. -/
structure Tw (tw : Nat → Q2) : Prop where
  zero : tw 0 = (1, 0)
  half : ∀ a, tw (a + 512) = qn (tw a)
  le : ∀ a, Le (tw a) 1
  prod : ∀ a b, Le (qs (qm (tw a) (tw b)) (tw (a + b))) eps
theorem tw_back : Tw T := ⟨T_zero, T_half, T_le, T_prod⟩
def Tj (a : Nat) : Q2 := qj (T a)
theorem tw_there : Tw Tj := ⟨by unfold Tj; rw [T_zero]; unfold qj; ext <;> grind, fun a => by unfold Tj; rw [T_half]; unfold qj qn; ext <;> grind, fun a => (T_le a).conj, fun a b => (T_prod a b).conj.cast (by unfold Tj qj qs qm; ext <;> grind)⟩
theorem Tw.turn {tw : Nat → Q2} (h : Tw tw) (a : Nat) : tw (a + 1024) = tw a := by
  rw [show a + 1024 = a + 512 + 512 by omega, h.half, h.half]; unfold qn; ext <;> grind
theorem Tw.turns {tw : Nat → Q2} (h : Tw tw) (a : Nat) : ∀ n, tw (a + 1024 * n) = tw a
  | 0 => by simp
  | n + 1 => by rw [show a + 1024 * (n + 1) = a + 1024 * n + 1024 by omega, h.turn, h.turns a n]
/-- The transform of 2^m numbers, as a sum. -/
def SQ (tw : Nat → Q2) (m : Nat) (x : Nat → Q2) (k : Nat) : Q2 := sumQ (2 ^ m) fun j => qm (x j) (tw (j * k * 2 ^ (10 - m)))
theorem SQ_le {tw : Nat → Q2} (h : Tw tw) {m : Nat} {x : Nat → Q2} {X : Rat} (h0 : 0 ≤ X) (hx : ∀ j, j < 2 ^ m → Le (x j) X) (k : Nat) : Le (SQ tw m x k) (((2 ^ m : Nat) : Rat) * X) := by
  refine sumQ_le h0 fun i hi => ?_
  exact ((hx i hi).mul (h.le _)).mono (by grind)
theorem pow_parts {m : Nat} (hm : m < 10) : ∃ q, 2 ^ (10 - (m + 1)) = q ∧ 2 ^ (10 - m) = 2 * q ∧ 2 ^ m * q = 512 := by
  refine ⟨2 ^ (9 - m), by rw [show 10 - (m + 1) = 9 - m by omega], ?_, ?_⟩
  · rw [show 10 - m = 9 - m + 1 by omega, Nat.pow_succ]; omega
  · rw [← Nat.pow_add, show m + (9 - m) = 9 by omega]
theorem SQ_low {tw : Nat → Q2} (h : Tw tw) {m : Nat} (hm : m < 10) {x : Nat → Q2} {X : Rat} (h0 : 0 ≤ X) (hx : ∀ j, j < 2 ^ (m + 1) → Le (x j) X) (k : Nat) :
    Le (qs (qa (SQ tw m (fun i => x (2 * i)) k) (qm (SQ tw m (fun i => x (2 * i + 1)) k) (tw (k * 2 ^ (10 - (m + 1)))))) (SQ tw (m + 1) x k)) (((2 ^ m : Nat) : Rat) * (X * eps)) := by
  obtain ⟨q, q1, q2, q3⟩ := pow_parts hm
  unfold SQ
  rw [q1, q2, show 2 ^ (m + 1) = 2 * 2 ^ m by rw [Nat.pow_succ]; omega, sumQ_halves]
  have e1 : sumQ (2 ^ m) (fun i => qm (x (2 * i)) (tw (2 * i * k * q))) = sumQ (2 ^ m) (fun j => qm (x (2 * j)) (tw (j * k * (2 * q)))) := sumQ_congr fun i _ => by congr 2; grind
  rw [e1]
  have e2 : qm (sumQ (2 ^ m) fun j => qm (x (2 * j + 1)) (tw (j * k * (2 * q)))) (tw (k * q)) = sumQ (2 ^ m) fun j => qm (tw (k * q)) (qm (x (2 * j + 1)) (tw (j * k * (2 * q)))) := by
    rw [sumQ_mul]; unfold qm; ext <;> grind
  rw [e2]
  have e3 : sumQ (2 ^ m) (fun j => qs (qm (tw (k * q)) (qm (x (2 * j + 1)) (tw (j * k * (2 * q))))) (qm (x (2 * j + 1)) (tw ((2 * j + 1) * k * q)))) = qs (sumQ (2 ^ m) fun j => qm (tw (k * q)) (qm (x (2 * j + 1)) (tw (j * k * (2 * q))))) (sumQ (2 ^ m) fun j => qm (x (2 * j + 1)) (tw ((2 * j + 1) * k * q))) := sumQ_sub _ _ _
  have b : Le (sumQ (2 ^ m) (fun j => qs (qm (tw (k * q)) (qm (x (2 * j + 1)) (tw (j * k * (2 * q))))) (qm (x (2 * j + 1)) (tw ((2 * j + 1) * k * q))))) (((2 ^ m : Nat) : Rat) * (X * eps)) := by
    refine sumQ_le (Rat.mul_nonneg h0 (h.prod 0 0).nonneg) fun i hi => ?_
    have hp := (hx (2 * i + 1) (by rw [Nat.pow_succ]; omega)).mul (h.prod (k * q) (i * k * (2 * q)))
    rw [show k * q + i * k * (2 * q) = (2 * i + 1) * k * q by grind] at hp
    exact hp.cast (by unfold qs qm; ext <;> grind)
  rw [e3] at b
  exact b.cast (by unfold qs qa; ext <;> grind)
theorem SQ_high {tw : Nat → Q2} (h : Tw tw) {m : Nat} (hm : m < 10) {x : Nat → Q2} {X : Rat} (h0 : 0 ≤ X) (hx : ∀ j, j < 2 ^ (m + 1) → Le (x j) X) (k : Nat) :
    Le (qs (qs (SQ tw m (fun i => x (2 * i)) k) (qm (SQ tw m (fun i => x (2 * i + 1)) k) (tw (k * 2 ^ (10 - (m + 1)))))) (SQ tw (m + 1) x (k + 2 ^ m))) (((2 ^ m : Nat) : Rat) * (X * eps)) := by
  obtain ⟨q, q1, q2, q3⟩ := pow_parts hm
  unfold SQ
  rw [q1, q2, show 2 ^ (m + 1) = 2 * 2 ^ m by rw [Nat.pow_succ]; omega, sumQ_halves]
  have e1 : sumQ (2 ^ m) (fun i => qm (x (2 * i)) (tw (2 * i * (k + 2 ^ m) * q))) = sumQ (2 ^ m) (fun j => qm (x (2 * j)) (tw (j * k * (2 * q)))) := sumQ_congr fun i _ => by
    congr 1
    rw [← h.turns (i * k * (2 * q)) i]
    congr 1
    grind
  rw [e1]
  have e2 : qm (sumQ (2 ^ m) fun j => qm (x (2 * j + 1)) (tw (j * k * (2 * q)))) (tw (k * q)) = sumQ (2 ^ m) fun j => qm (tw (k * q)) (qm (x (2 * j + 1)) (tw (j * k * (2 * q)))) := by
    rw [sumQ_mul]; unfold qm; ext <;> grind
  rw [e2]
  have e3 : sumQ (2 ^ m) (fun j => qa (qm (tw (k * q)) (qm (x (2 * j + 1)) (tw (j * k * (2 * q))))) (qm (x (2 * j + 1)) (tw ((2 * j + 1) * (k + 2 ^ m) * q)))) = qa (sumQ (2 ^ m) fun j => qm (tw (k * q)) (qm (x (2 * j + 1)) (tw (j * k * (2 * q))))) (sumQ (2 ^ m) fun j => qm (x (2 * j + 1)) (tw ((2 * j + 1) * (k + 2 ^ m) * q))) := sumQ_add _ _ _
  have b : Le (sumQ (2 ^ m) (fun j => qa (qm (tw (k * q)) (qm (x (2 * j + 1)) (tw (j * k * (2 * q))))) (qm (x (2 * j + 1)) (tw ((2 * j + 1) * (k + 2 ^ m) * q))))) (((2 ^ m : Nat) : Rat) * (X * eps)) := by
    refine sumQ_le (Rat.mul_nonneg h0 (h.prod 0 0).nonneg) fun i hi => ?_
    have hp := (hx (2 * i + 1) (by rw [Nat.pow_succ]; omega)).mul (h.prod (k * q) (i * k * (2 * q)))
    have et : tw ((2 * i + 1) * (k + 2 ^ m) * q) = qn (tw (k * q + i * k * (2 * q))) := by
      rw [← h.half, ← h.turns (k * q + i * k * (2 * q) + 512) i]
      congr 1
      grind
    rw [et]
    exact hp.cast (by unfold qa qs qm qn; ext <;> grind)
  rw [e3] at b
  exact b.neg.cast (by unfold qs qa qn; ext <;> grind)
end Go.Proofs.Ytfimolhndbfpgaa

/- How far a transform by halves, in floats, is off. -/
namespace Go.Proofs.Ytfimolhndbfpgaa
open Go.Fl Ieee Go.RowKit

def dl : Rat := 1 / 1125899906842624
def et : Rat := 1 / 140737488355328
theorem step_bound {a b c : Rat} (ha : 0 ≤ a) (hb : 0 ≤ b) (hc2 : c ≤ 9 * et * (a + b)) :
    (a + c) + ((a + c) * (1 + dl) + b * dl + 1 / 562949953421312 * ((b + (a + c)) * (1 + dl))) + 1 / 4503599627370496 * (b + (a + c) + (b * 1 + ((a + c) * (1 + dl) + b * dl + 1 / 562949953421312 * ((b + (a + c)) * (1 + dl))))) + b * eps ≤ 2 * (a + c + et * (a + b)) := by
  unfold dl et eps tny at *
  grind
theorem big_fine {a b c : Rat} (ha : 0 ≤ a) (hb : 0 ≤ b) (hc2 : c ≤ 9 * et * (a + b)) (h : a + b ≤ pw 900) : 3 * ((b + (a + c)) * (1 + dl)) ≤ pw 1000 ∧ b + (a + c) + (b * 1 + ((a + c) * (1 + dl) + b * dl + 1 / 562949953421312 * ((b + (a + c)) * (1 + dl)))) ≤ pw 1000 := by
  have h2 : pw 900 * 1024 ≤ pw 1000 := by
    have e : pw 910 = pw 900 * 1024 := by
      rw [show (910 : Int) = 900 + 10 by omega, pw_add]; congr 1
    rw [← e]; exact pw_mono (by omega)
  unfold dl et at *
  constructor <;> grind
/-- The bound for 2^m numbers: each off by e0, at most X. -/
def eb (m : Nat) (X e0 : Rat) : Rat := ((2 ^ m : Nat) : Rat) * (e0 + (m : Rat) * et * (X + e0))
theorem pow_rat (m : Nat) : ((2 ^ (m + 1) : Nat) : Rat) = 2 * ((2 ^ m : Nat) : Rat) := by rw [Nat.pow_succ, Rat.natCast_mul]; grind
theorem pow_one_le (m : Nat) : (1 : Rat) ≤ ((2 ^ m : Nat) : Rat) := by
  have : ((1 : Nat) : Rat) ≤ ((2 ^ m : Nat) : Rat) := Rat.natCast_le_natCast.2 (Nat.pow_pos (by omega))
  simpa using this
theorem fft {tw : Nat → Q2} {U : Nat → Nat → C2} {M : Nat} (hM : M ≤ 10) (h : Tw tw) (hU : ∀ m j, m < M → j < 2 ^ m → NF (U j (m + 1)) (tw (j * 2 ^ (10 - (m + 1)))) dl) {X e0 : Rat} (hX : 1 ≤ X) (he : 0 ≤ e0) (hbig : 1024 * (X + e0) ≤ pw 900) :
    ∀ m, m ≤ M → ∀ (F : Nat → C2) (x : Nat → Q2), (∀ j, j < 2 ^ m → NF (F j) (x j) e0) → (∀ j, j < 2 ^ m → Le (x j) X) → ∀ k, k < 2 ^ m → NF (hv U m F k) (SQ tw m x k) (eb m X e0)
  | 0, _, F, x, hF, hx, k, hk => by
    have hk0 : k = 0 := by simpa using hk
    subst hk0
    have h1 := hF 0 (by simp)
    show NF (F 0) _ _
    have e : SQ tw 0 x 0 = qm (x 0) (tw 0) := by
      unfold SQ
      simp only [Nat.pow_zero, sumQ, Nat.zero_mul, qa]; ext <;> grind
    have e2 : SQ tw 0 x 0 = x 0 := by rw [e, h.zero]; unfold qm; ext <;> grind
    have e3 : eb 0 X e0 = e0 := by
      unfold eb
      have z0 : ((0 : Nat) : Rat) = 0 := by simp
      have z1 : ((2 ^ 0 : Nat) : Rat) = 1 := by simp
      rw [z0, z1]; grind
    rw [e2, e3]
    exact h1
  | m + 1, hm, F, x, hF, hx, k, hk => by
    have ih := fft hM h hU hX he hbig m (by omega)
    have hpw : 2 ^ (m + 1) = 2 * 2 ^ m := by rw [Nat.pow_succ]; omega
    obtain ⟨p, hp⟩ : ∃ p, ((2 ^ m : Nat) : Rat) = p := ⟨_, rfl⟩
    have hp1 : 1 ≤ p := by rw [← hp]; exact pow_one_le m
    have hp2 : p ≤ 1024 := by
      rw [← hp]
      have : ((2 ^ m : Nat) : Rat) ≤ ((2 ^ 10 : Nat) : Rat) := Rat.natCast_le_natCast.2 (Nat.pow_le_pow_right (by omega) (by omega))
      have e : ((2 ^ 10 : Nat) : Rat) = 1024 := by decide +kernel
      grind
    obtain ⟨a, ha⟩ : ∃ a, p * e0 = a := ⟨_, rfl⟩
    obtain ⟨b, hb⟩ : ∃ b, p * X = b := ⟨_, rfl⟩
    obtain ⟨c, hc⟩ : ∃ c, p * ((m : Rat) * et * (X + e0)) = c := ⟨_, rfl⟩
    have a0 : 0 ≤ a := by rw [← ha]; exact Rat.mul_nonneg (by grind) he
    have b1 : 1 ≤ b := by
      rw [← hb]
      have := mul_mono2 (a := 1) (b := 1) (by grind) (by grind) hp1 hX
      grind
    have hm9 : (m : Rat) ≤ 9 := by
      have : ((m : Nat) : Rat) ≤ ((9 : Nat) : Rat) := Rat.natCast_le_natCast.2 (by omega)
      simpa using this
    have hm0 : (0 : Rat) ≤ (m : Rat) := Rat.natCast_nonneg
    have et0 : 0 ≤ et := by unfold et; decide +kernel
    have s0 : 0 ≤ p * (X + e0) := Rat.mul_nonneg (by grind) (by grind)
    have c0 : 0 ≤ c := by rw [← hc]; exact Rat.mul_nonneg (by grind) (Rat.mul_nonneg (Rat.mul_nonneg hm0 et0) (by grind))
    have c9 : c ≤ 9 * et * (a + b) := by
      have h1 : (m : Rat) * (et * (p * (X + e0))) ≤ 9 * (et * (p * (X + e0))) := Rat.mul_le_mul_of_nonneg_right hm9 (Rat.mul_nonneg et0 s0)
      rw [← hc, ← ha, ← hb]; grind
    have hE : eb m X e0 = a + c := by unfold eb; rw [hp, ← ha, ← hc]; grind
    have hE2 : eb (m + 1) X e0 = 2 * (a + c + et * (a + b)) := by
      unfold eb
      have e : ((m + 1 : Nat) : Rat) = (m : Rat) + 1 := by simp
      rw [pow_rat, hp, e, ← ha, ← hb, ← hc]; grind
    rw [hE] at ih
    have hab : a + b ≤ pw 900 := by
      have h1 : p * (X + e0) ≤ 1024 * (X + e0) := Rat.mul_le_mul_of_nonneg_right hp2 (by grind)
      rw [← ha, ← hb]; grind
    obtain ⟨g1, g2⟩ := big_fine a0 (by grind) c9 hab
    have sb := step_bound a0 (by grind : 0 ≤ b) c9
    have hXb : p * (X * eps) = b * eps := by rw [← hb]; grind
    have x1 : ∀ j, j < 2 ^ m → Le (x (2 * j)) X := fun j hj => hx _ (by omega)
    have x2 : ∀ j, j < 2 ^ m → Le (x (2 * j + 1)) X := fun j hj => hx _ (by omega)
    have f1 : ∀ j, j < 2 ^ m → NF (F (2 * j)) (x (2 * j)) e0 := fun j hj => hF _ (by omega)
    have f2 : ∀ j, j < 2 ^ m → NF (F (2 * j + 1)) (x (2 * j + 1)) e0 := fun j hj => hF _ (by omega)
    have d0 : 0 ≤ dl := by unfold dl; decide +kernel
    have z1 : 1 ≤ (b + (a + c)) * (1 + dl) := by
      have := mul_mono2 (a := 1) (b := 1) (A := b + (a + c)) (B := 1 + dl) (by grind) (by grind) (by grind) (by grind)
      grind
    rw [hv, hE2]
    split
    · rename_i hlt
      have hu := hU m k (by omega) hlt
      have hEv := ih (fun i => F (2 * i)) (fun i => x (2 * i)) f1 x1 k hlt
      have hOd := ih (fun i => F (2 * i + 1)) (fun i => x (2 * i + 1)) f2 x2 k hlt
      have lE := SQ_le h (by grind) x1 k
      have lO := SQ_le h (by grind) x2 k
      rw [hp, hb] at lE lO
      have hMu := NF.mul hOd hu lO (h.le _) z1 g1
      have hAd := NF.add hEv hMu lE (lO.mul (h.le _)) g2
      have hS := SQ_low h (by omega) (by grind) hx k
      rw [hp, hXb] at hS
      exact (hAd.move hS).mono sb
    · rename_i hlt
      obtain ⟨k', rfl⟩ : ∃ k', k = k' + 2 ^ m := ⟨k - 2 ^ m, by omega⟩
      rw [Nat.add_sub_cancel]
      have hlt' : k' < 2 ^ m := by omega
      have hu := hU m k' (by omega) hlt'
      have hEv := ih (fun i => F (2 * i)) (fun i => x (2 * i)) f1 x1 k' hlt'
      have hOd := ih (fun i => F (2 * i + 1)) (fun i => x (2 * i + 1)) f2 x2 k' hlt'
      have lE := SQ_le h (by grind) x1 k'
      have lO := SQ_le h (by grind) x2 k'
      rw [hp, hb] at lE lO
      have hMu := NF.mul hOd hu lO (h.le _) z1 g1
      have hAd := NF.sub hEv hMu lE (lO.mul (h.le _)) g2
      have hS := SQ_high h (by omega) (by grind) hx k'
      rw [hp, hXb] at hS
      exact (hAd.move hS).mono sb
end Go.Proofs.Ytfimolhndbfpgaa

/- Sums over all points; a product of transforms, transformed back. -/
namespace Go.Proofs.Ytfimolhndbfpgaa
open Go.Fl Ieee Go.RowKit

theorem T_sum : ∀ (M a : Nat), M ≤ 10 → ¬ 2 ^ M ∣ a → sumQ (2 ^ M) (fun k => T (a * k * 2 ^ (10 - M))) = (0, 0)
  | 0, a, _, h => absurd (Nat.one_dvd a) (by simp at h)
  | M + 1, a, hM, h => by
    obtain ⟨q, q1, q2, q3⟩ := pow_parts (m := M) (by omega)
    have hp : 2 ^ (M + 1) = 2 ^ M + 2 ^ M := by rw [Nat.pow_succ]; omega
    rw [hp, sumQ_front, q1]
    by_cases he : a % 2 = 0
    · obtain ⟨b, rfl⟩ : ∃ b, a = 2 * b := ⟨a / 2, by omega⟩
      have hb : ¬ 2 ^ M ∣ b := fun ⟨c, hc⟩ => h ⟨c, by rw [hc, Nat.pow_succ]; grind⟩
      have ih := T_sum M b (by omega) hb
      rw [q2] at ih
      have e1 : sumQ (2 ^ M) (fun k => T (2 * b * k * q)) = sumQ (2 ^ M) (fun k => T (b * k * (2 * q))) := sumQ_congr fun i _ => by congr 1; grind
      have e2 : sumQ (2 ^ M) (fun i => T (2 * b * (2 ^ M + i) * q)) = sumQ (2 ^ M) (fun k => T (b * k * (2 * q))) := sumQ_congr fun i _ => by
        rw [← T_turns (b * i * (2 * q)) b]; congr 1; grind
      rw [e1, e2, ih]; unfold qa; ext <;> grind
    · obtain ⟨b, rfl⟩ : ∃ b, a = 2 * b + 1 := ⟨a / 2, by omega⟩
      have e2 : sumQ (2 ^ M) (fun i => T ((2 * b + 1) * (2 ^ M + i) * q)) = sumQ (2 ^ M) (fun k => qn (T ((2 * b + 1) * k * q))) := sumQ_congr fun i _ => by
        rw [← T_half, ← T_turns ((2 * b + 1) * i * q + 512) b]; congr 1; grind
      rw [e2, sumQ_neg]; unfold qa qn; ext <;> grind
theorem T_sum1 {M a : Nat} (hM : M ≤ 10) (h : 2 ^ M ∣ a) : ∀ n, sumQ n (fun k => T (a * k * 2 ^ (10 - M))) = ((n : Rat), 0)
  | 0 => by simp [sumQ]
  | n + 1 => by
    obtain ⟨c, rfl⟩ := h
    have e : T (2 ^ M * c * n * 2 ^ (10 - M)) = (1, 0) := by
      have e1 : 2 ^ M * c * n * 2 ^ (10 - M) = 0 + 1024 * (c * n) := by
        have : 2 ^ M * 2 ^ (10 - M) = 1024 := by rw [← Nat.pow_add, show M + (10 - M) = 10 by omega]
        grind
      rw [e1, T_turns, T_zero]
    rw [sumQ, T_sum1 hM ⟨c, rfl⟩ n, e]
    have e2 : ((n + 1 : Nat) : Rat) = (n : Rat) + 1 := by simp
    rw [e2]; unfold qa; ext <;> grind
def rq (r : Rat) : Q2 := (r, 0)
theorem rq_le {r A : Rat} (h1 : r ≤ A) (h2 : -A ≤ r) : Le (rq r) A := ⟨by grind, by have := sq_of h1 h2; unfold N2 rq; grind⟩
theorem qm_comm (a b : Q2) : qm a b = qm b a := by unfold qm; ext <;> grind
theorem prod_sum (f g : Nat → Q2) (t : Q2) (m n : Nat) : qm (qm (sumQ n f) (sumQ m g)) t = sumQ n (fun i => sumQ m (fun j => qm (qm (f i) (g j)) t)) := by
  have e1 : ∀ i, sumQ m (fun j => qm (qm (f i) (g j)) t) = qm (qm t (sumQ m g)) (f i) := by
    intro i
    have := sumQ_mul (qm t (f i)) g m
    rw [sumQ_congr (g := fun j => qm (qm t (f i)) (g j)) fun j _ => by unfold qm; ext <;> grind, this]
    unfold qm; ext <;> grind
  rw [sumQ_congr fun i _ => e1 i, sumQ_mul]
  unfold qm; ext <;> grind
/-- The sum of three points. -/
theorem T_three {M i j d k : Nat} (hM : M ≤ 10) (hi : i ≤ 2 ^ M) : Le (qs (qm (qm (Tj (i * k * 2 ^ (10 - M))) (T (j * k * 2 ^ (10 - M)))) (T (k * d * 2 ^ (10 - M)))) (T ((2 ^ M - i + j + d) * k * 2 ^ (10 - M)))) (4 * eps) := by
  obtain ⟨s, hs⟩ : ∃ s, 2 ^ (10 - M) = s := ⟨_, rfl⟩
  have hN : 2 ^ M * s = 1024 := by rw [← hs, ← Nat.pow_add, show M + (10 - M) = 10 by omega]
  obtain ⟨r, hr⟩ : ∃ r, 2 ^ M = i + r := ⟨2 ^ M - i, by omega⟩
  rw [hs, hr, Nat.add_sub_cancel_left]
  rw [hr] at hN
  have c1 := T_conj (a := i * k * s) (b := r * k * s) (by
    have : i * k * s + r * k * s = 1024 * k := by grind
    omega)
  have p1 := T_prod (r * k * s) (j * k * s)
  have p2 := T_prod (r * k * s + j * k * s) (k * d * s)
  rw [show r * k * s + j * k * s + k * d * s = (r + j + d) * k * s by grind] at p2
  have l1 := c1.mul ((T_le (j * k * s)).mul (T_le (k * d * s)))
  have l2 := p1.mul (T_le (k * d * s))
  refine (((l1.add l2).add p2).cast ?_).mono (by grind)
  unfold Tj qa qs qm; ext <;> grind
theorem abs_nonneg {r A : Rat} (h : r ≤ A ∧ -A ≤ r) : 0 ≤ A := by grind
theorem conv {M : Nat} (hM : M ≤ 10) (a b : Nat → Rat) {A B : Rat} (hA : ∀ i, a i ≤ A ∧ -A ≤ a i) (hB : ∀ j, b j ≤ B ∧ -B ≤ b j) {n d : Nat} (hb : ∀ j, n ≤ j → b j = 0) (hd : n + d ≤ 2 ^ M) :
    Le (qs (SQ T M (fun k => qm (SQ Tj M (fun i => rq (a i)) k) (qj (SQ Tj M (fun j => rq (b j)) k))) d) (sumQ (2 ^ M) fun j => rq (((2 ^ M : Nat) : Rat) * (a (j + d) * b j))))
      (((2 ^ M : Nat) : Rat) * (((2 ^ M : Nat) : Rat) * (((2 ^ M : Nat) : Rat) * (A * B * (4 * eps))))) := by
  have A0 := abs_nonneg (hA 0)
  have B0 := abs_nonneg (hB 0)
  have e0 : 0 ≤ eps := (T_prod 0 0).nonneg
  have hAB : 0 ≤ A * B * (4 * eps) := Rat.mul_nonneg (Rat.mul_nonneg A0 B0) (by grind)
  have hn0 : (0 : Rat) ≤ ((2 ^ M : Nat) : Rat) := Rat.natCast_nonneg
  have c1 : SQ T M (fun k => qm (SQ Tj M (fun i => rq (a i)) k) (qj (SQ Tj M (fun j => rq (b j)) k))) d
      = sumQ (2 ^ M) fun k => sumQ (2 ^ M) fun i => sumQ (2 ^ M) fun j => qm (qm (qm (rq (a i)) (Tj (i * k * 2 ^ (10 - M)))) (qm (rq (b j)) (T (j * k * 2 ^ (10 - M))))) (T (k * d * 2 ^ (10 - M))) := by
    unfold SQ
    refine sumQ_congr fun k _ => ?_
    have e : qj (sumQ (2 ^ M) fun j => qm (rq (b j)) (Tj (j * k * 2 ^ (10 - M)))) = sumQ (2 ^ M) fun j => qm (rq (b j)) (T (j * k * 2 ^ (10 - M))) := by
      rw [← sumQ_conj]
      exact sumQ_congr fun j _ => by unfold qj qm rq Tj qj; ext <;> grind
    show qm (qm (sumQ (2 ^ M) fun j => qm (rq (a j)) (Tj (j * k * 2 ^ (10 - M)))) (qj (sumQ (2 ^ M) fun j => qm (rq (b j)) (Tj (j * k * 2 ^ (10 - M)))))) _ = _
    rw [e, prod_sum]
  have c2 : Le (qs (sumQ (2 ^ M) fun k => sumQ (2 ^ M) fun i => sumQ (2 ^ M) fun j => qm (qm (qm (rq (a i)) (Tj (i * k * 2 ^ (10 - M)))) (qm (rq (b j)) (T (j * k * 2 ^ (10 - M))))) (T (k * d * 2 ^ (10 - M))))
      (sumQ (2 ^ M) fun k => sumQ (2 ^ M) fun i => sumQ (2 ^ M) fun j => qm (rq (a i * b j)) (T ((2 ^ M - i + j + d) * k * 2 ^ (10 - M))))) (((2 ^ M : Nat) : Rat) * (((2 ^ M : Nat) : Rat) * (((2 ^ M : Nat) : Rat) * (A * B * (4 * eps))))) := by
    rw [← sumQ_sub]
    refine sumQ_le (Rat.mul_nonneg hn0 (Rat.mul_nonneg hn0 hAB)) fun k _ => ?_
    rw [← sumQ_sub]
    refine sumQ_le (Rat.mul_nonneg hn0 hAB) fun i hi => ?_
    rw [← sumQ_sub]
    refine sumQ_le hAB fun j _ => ?_
    have l := ((rq_le (hA i).1 (hA i).2).mul (rq_le (hB j).1 (hB j).2)).mul (T_three (i := i) (j := j) (d := d) (k := k) hM (by omega))
    exact l.cast (by unfold qs qm rq; ext <;> grind)
  rw [c1]
  have c3 : (sumQ (2 ^ M) fun k => sumQ (2 ^ M) fun i => sumQ (2 ^ M) fun j => qm (rq (a i * b j)) (T ((2 ^ M - i + j + d) * k * 2 ^ (10 - M)))) = sumQ (2 ^ M) fun j => rq (((2 ^ M : Nat) : Rat) * (a (j + d) * b j)) := by
    rw [sumQ_swap]
    rw [sumQ_congr fun i _ => sumQ_swap _ _ _, sumQ_swap]
    refine sumQ_congr fun j hj => ?_
    by_cases hjn : j < n
    · rw [sumQ_one (k := j + d) (by omega)]
      · rw [sumQ_mul, T_sum1 hM ⟨1, by omega⟩]
        unfold qm rq; ext <;> grind
      · intro i hi hne
        rw [sumQ_mul, T_sum M _ hM]
        · unfold qm; ext <;> grind
        · intro ⟨c, hc⟩
          have h1 : 0 < 2 ^ M - i + j + d := by omega
          have h2 : 2 ^ M - i + j + d < 2 ^ M * 2 := by omega
          rw [hc] at h1 h2
          have hc1 : c = 1 := by
            have a1 : c < 2 := Nat.lt_of_mul_lt_mul_left h2
            have a2 : c ≠ 0 := fun e => by subst e; simp at h1
            omega
          subst hc1
          omega
    · have hz := hb j (by omega)
      rw [hz, sumQ_congr (g := fun _ => (0, 0))]
      · rw [sumQ_none]; unfold rq; ext <;> grind
      · intro i _
        rw [sumQ_mul]; unfold qm rq; ext <;> grind
  rw [c3] at c2
  exact c2
end Go.Proofs.Ytfimolhndbfpgaa
