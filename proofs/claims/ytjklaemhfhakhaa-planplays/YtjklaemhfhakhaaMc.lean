/- Where the load is at most the whole, the job of the least deadline ahead of all others is never late. No program. -/
import Derived.Test.YtjklaemhfhakhaaMa
namespace Go.Proofs.Ytjklaemhfhakhaa

def sumZ (f : Nat → Int) : Nat → Int
  | 0 => 0
  | k + 1 => sumZ f k + f k
theorem sumZ_le {f g : Nat → Int} : ∀ n, (∀ i, i < n → f i ≤ g i) → sumZ f n ≤ sumZ g n
  | 0, _ => Int.le_refl _
  | n + 1, h => by
    have h1 := sumZ_le n (fun i hi => h i (by omega))
    have h2 := h n (by omega)
    show sumZ f n + f n ≤ sumZ g n + g n
    omega
theorem sumZ_ge0 {f : Nat → Int} : ∀ n, (∀ i, i < n → 0 ≤ f i) → 0 ≤ sumZ f n
  | 0, _ => Int.le_refl _
  | n + 1, h => by
    have h1 := sumZ_ge0 n (fun i hi => h i (by omega))
    have h2 := h n (by omega)
    show 0 ≤ sumZ f n + f n
    omega
theorem sumZ_one {f : Nat → Int} {m : Nat} : ∀ n, m < n → (∀ i, i < n → 0 ≤ f i) → f m ≤ sumZ f n
  | 0, h, _ => by omega
  | n + 1, h, h0 => by
    show f m ≤ sumZ f n + f n
    have a := h0 n (by omega)
    rcases Nat.lt_succ_iff_lt_or_eq.1 h with h1 | rfl
    · have := sumZ_one n h1 (fun i hi => h0 i (by omega)); omega
    · have := sumZ_ge0 (f := f) m (fun i hi => h0 i (by omega)); omega
theorem sumZ_congr {f g : Nat → Int} : ∀ n, (∀ i, i < n → f i = g i) → sumZ f n = sumZ g n
  | 0, _ => rfl
  | n + 1, h => by
    show sumZ f n + f n = sumZ g n + g n
    rw [sumZ_congr n (fun i hi => h i (by omega)), h n (by omega)]
/-- One of them is another one. -/
theorem sumZ_upd {f g : Nat → Int} {m : Nat} : ∀ n, m < n → (∀ i, i < n → i ≠ m → f i = g i) → sumZ f n = sumZ g n + (f m - g m)
  | 0, h, _ => by omega
  | n + 1, h, hg => by
    show sumZ f n + f n = sumZ g n + g n + (f m - g m)
    rcases Nat.lt_succ_iff_lt_or_eq.1 h with h1 | rfl
    · rw [sumZ_upd n h1 (fun i hi => hg i (by omega)), hg n (by omega) (by omega)]; omega
    · rw [sumZ_congr m (fun i hi => hg i (by omega) (by omega))]; omega
/-- Load, as a fraction: its numbers. -/
def denQ (E : Nat → Int) : Nat → Int
  | 0 => 1
  | k + 1 => denQ E k * E k
def numQ (E L : Nat → Int) : Nat → Int
  | 0 => 0
  | k + 1 => numQ E L k * E k + L k * denQ E k
theorem denQ_pos {E : Nat → Int} : ∀ n, (∀ i, i < n → 0 < E i) → 0 < denQ E n
  | 0, _ => by show (0 : Int) < 1; omega
  | n + 1, h => Int.mul_pos (denQ_pos n (fun i hi => h i (by omega))) (h n (by omega))
/-- Parts that are each at most x by the load are together at most x times the load. -/
theorem load_le {E L v : Nat → Int} {x : Int} : ∀ n, (∀ i, i < n → 0 < E i) → (∀ i, i < n → v i * E i ≤ x * L i) → sumZ v n * denQ E n ≤ x * numQ E L n
  | 0, _, _ => by simp [sumZ, numQ]
  | n + 1, h, hv => by
    have ih := load_le (x := x) n (fun i hi => h i (by omega)) (fun i hi => hv i (by omega))
    have p := denQ_pos (E := E) n (fun i hi => h i (by omega))
    have e := h n (by omega)
    have w := hv n (by omega)
    show (sumZ v n + v n) * (denQ E n * E n) ≤ x * (numQ E L n * E n + L n * denQ E n)
    have a1 := Int.mul_le_mul_of_nonneg_right ih (Int.le_of_lt e)
    have a2 := Int.mul_le_mul_of_nonneg_right w (Int.le_of_lt p)
    have b1 : (sumZ v n + v n) * (denQ E n * E n) = sumZ v n * denQ E n * E n + v n * E n * denQ E n := by grind
    have b2 : x * (numQ E L n * E n + L n * denQ E n) = x * numQ E L n * E n + x * L n * denQ E n := by grind
    omega
theorem load_ge {E L v : Nat → Int} {x : Int} : ∀ n, (∀ i, i < n → 0 < E i) → (∀ i, i < n → x * L i ≤ v i * E i) → x * numQ E L n ≤ sumZ v n * denQ E n
  | 0, _, _ => by simp [sumZ, numQ]
  | n + 1, h, hv => by
    have ih := load_ge (x := x) n (fun i hi => h i (by omega)) (fun i hi => hv i (by omega))
    have p := denQ_pos (E := E) n (fun i hi => h i (by omega))
    have e := h n (by omega)
    have w := hv n (by omega)
    show x * (numQ E L n * E n + L n * denQ E n) ≤ (sumZ v n + v n) * (denQ E n * E n)
    have a1 := Int.mul_le_mul_of_nonneg_right ih (Int.le_of_lt e)
    have a2 := Int.mul_le_mul_of_nonneg_right w (Int.le_of_lt p)
    have b1 : (sumZ v n + v n) * (denQ E n * E n) = sumZ v n * denQ E n * E n + v n * E n * denQ E n := by grind
    have b2 : x * (numQ E L n * E n + L n * denQ E n) = x * numQ E L n * E n + x * L n * denQ E n := by grind
    omega
/-- The load is at most the whole. -/
def Light (n : Nat) (E L : Nat → Int) : Prop := numQ E L n ≤ denQ E n
theorem Light.le {n : Nat} {E L v : Nat → Int} {x : Int} (h : Light n E L) (hE : ∀ i, i < n → 0 < E i) (hx : 0 ≤ x) (hv : ∀ i, i < n → v i * E i ≤ x * L i) : sumZ v n ≤ x := by
  have p := denQ_pos (E := E) n hE
  have a := load_le (x := x) n hE hv
  have b := Int.mul_le_mul_of_nonneg_left h hx
  exact Int.le_of_mul_le_mul_right (Int.le_trans a b) p

/-- Tasks as they were at first, no one changed. -/
structure Fits (n : Nat) (E L R : Nat → Int) (p : Pl) : Prop where
  tl : ∀ i, i < n → (p.c i).tl = []
  e : ∀ i, i < n → (p.c i).hd.e = E i
  l : ∀ i, i < n → (p.c i).hd.l = L i
  r : ∀ i, i < n → (p.c i).hd.r = R i
  may : ∀ i, i < n → MayT (E i) (L i)
  d0 : ∀ i, i < n → 0 ≤ (p.c i).done
  d1 : ∀ i, i < n → (p.c i).done < L i
  now : 0 ≤ p.now
  nx : ∀ i, i < n → 0 ≤ (p.c i).hd.nx
  /-- The job ahead of the first that is not done was released ahead of Now; and one that has had ticks was. -/
  past : ∀ i, i < n → (p.c i).hd.nx ≤ p.now + E i ∧ (0 < (p.c i).done → (p.c i).hd.nx < p.now)
theorem work_of {c : Crs} (h : c.tl = []) (d : Int) : c.work d = if c.done + d < c.hd.l then ⟨c.hd, [], c.done + d⟩ else ⟨⟨c.hd.nx + c.hd.e, c.hd.e, c.hd.l, c.hd.r⟩, [], 0⟩ := by
  unfold Crs.work
  rw [h]
  rfl
theorem Fits.E0 {n : Nat} {E L R : Nat → Int} {p : Pl} (h : Fits n E L R p) : ∀ i, i < n → 0 < E i := fun i hi => by
  obtain ⟨a, b, c⟩ := h.may i hi
  omega
theorem Fits.idle {n : Nat} {E L R : Nat → Int} {p : Pl} (h : Fits n E L R p) {to : Int} (h1 : p.now ≤ to) : Fits n E L R (p.at to) :=
  ⟨h.tl, h.e, h.l, h.r, h.may, h.d0, h.d1, Int.le_trans h.now h1, h.nx, fun i hi => by
    obtain ⟨a, b⟩ := h.past i hi
    show (p.c i).hd.nx ≤ to + E i ∧ (0 < (p.c i).done → (p.c i).hd.nx < to)
    exact ⟨by omega, fun q => by have := b q; omega⟩⟩
theorem Fits.jb {n : Nat} {E L R : Nat → Int} {p : Pl} (h : Fits n E L R p) {i : Nat} (hi : i < n) : p.J i = ⟨i, (p.c i).hd.nx, (p.c i).hd.nx + E i, L i - (p.c i).done, R i⟩ := by
  show Jb.mk _ _ _ _ _ = _
  rw [h.e i hi, h.l i hi, h.r i hi]
/-- What stands behind a stretch. -/
theorem Str.work {n : Nat} {E L R : Nat → Int} {p : Pl} {m : Nat} {f c : Int} (h : Fits n E L R p) (s : Str n p m f c) :
    (p.c m).done + (c - f) ≤ L m ∧ (p.c m).hd.nx ≤ f ∧ p.now ≤ f ∧ f = max (p.c m).hd.nx p.now ∧ (p.c m).work (c - f) = if (p.c m).done + (c - f) < L m then ⟨(p.c m).hd, [], (p.c m).done + (c - f)⟩ else ⟨⟨(p.c m).hd.nx + E m, E m, L m, R m⟩, [], 0⟩ := by
  have hm := s.runs.lt
  have h1 := s.runs.at'
  have h2 := endN_le (J := p.J) (r := p.J m) (to := f + (p.J m).left) n
  have h3 := s.le
  rw [h.jb hm] at h1 h2 h3
  simp only at h1 h2 h3
  refine ⟨by omega, by omega, by omega, h1, ?_⟩
  rw [work_of (h.tl m hm), h.l m hm, h.e m hm, h.r m hm]
theorem Fits.go {n : Nat} {E L R : Nat → Int} {p : Pl} {m : Nat} {f c : Int} (h : Fits n E L R p) (s : Str n p m f c) : Fits n E L R (p.go m (c - f) c) := by
  have hm := s.runs.lt
  have hf := s.lt
  obtain ⟨w1, w2, w3, w3', w4⟩ := s.work h
  obtain ⟨m1, m2, m3⟩ := h.may m hm
  have b1 := h.d0 m hm
  have b2 := h.nx m hm
  have key : ∀ (Q : Nat → Crs → Prop), (∀ i, i < n → i ≠ m → Q i (p.c i)) → Q m ((p.c m).work (c - f)) → ∀ i, i < n → Q i ((p.go m (c - f) c).c i) := by
    intro Q h1 h2 i hi
    show Q i (upd p.c m _ i)
    by_cases e : i = m
    · subst e; rw [upd_at]; exact h2
    · rw [upd_ne _ _ e]; exact h1 i hi e
  refine ⟨key (fun i x => x.tl = []) (fun i hi _ => h.tl i hi) ?_, key (fun i x => x.hd.e = E i) (fun i hi _ => h.e i hi) ?_, key (fun i x => x.hd.l = L i) (fun i hi _ => h.l i hi) ?_, key (fun i x => x.hd.r = R i) (fun i hi _ => h.r i hi) ?_, h.may, key (fun i x => 0 ≤ x.done) (fun i hi _ => h.d0 i hi) ?_, key (fun i x => x.done < L i) (fun i hi _ => h.d1 i hi) ?_, ?_, key (fun i x => 0 ≤ x.hd.nx) (fun i hi _ => h.nx i hi) ?_, key (fun i x => x.hd.nx ≤ c + E i ∧ (0 < x.done → x.hd.nx < c)) (fun i hi _ => ?_) ?_⟩
  case refine_9 =>
    obtain ⟨a, b⟩ := h.past i hi
    exact ⟨by omega, fun q => by have := b q; omega⟩
  case refine_7 => show 0 ≤ c; have := h.now; omega
  all_goals (rw [w4]; split)
  all_goals first
    | exact h.tl m hm
    | exact h.e m hm
    | exact h.l m hm
    | exact h.r m hm
    | rfl
    | (show (0 : Int) ≤ 0; omega)
    | (show (0 : Int) < L m; omega)
    | (show 0 ≤ (p.c m).done + (c - f); omega)
    | (show (p.c m).done + (c - f) < L m; omega)
    | exact b2
    | (show 0 ≤ (p.c m).hd.nx + E m; omega)
    | exact ⟨by show (p.c m).hd.nx ≤ c + E m; omega, fun _ => by show (p.c m).hd.nx < c; omega⟩
    | exact ⟨by show (p.c m).hd.nx + E m ≤ c + E m; omega, fun q => by exact absurd q (by show ¬ (0 : Int) < 0; omega)⟩
end Go.Proofs.Ytjklaemhfhakhaa
