/- TopGone: what its walk leans on. -/
import Derived.Test.YtgalgnopjcpocaaTa
import Derived.Test.YtgalgnopjcpocaaFa
import Derived.Test.YtgalgnopjcpocaaQb
namespace Go.Proofs.Ytgalgnopjcpocaa
open Go.ChangeShapes Go.WideShapes Go.ChangeAt Go.RowKit Go.Fl Ieee

/-- A slice of whole numbers that can be read. -/
def VI (w : World) (p : Option Addr) (n : Nat) (f : Nat → Int) : Prop := 0 < n → ∃ b o, p = some ⟨b, o, none⟩ ∧ ∀ i, i < n → w.cell? ⟨b, o + i, none⟩ = some (.int .i64 (f i))
theorem VI.up {w w' : World} {p : Option Addr} {n : Nat} {f : Nat → Int} (h : VI w p n f) (hu : Up w w') : VI w' p n f := fun hp => by
  obtain ⟨b, o, e, r⟩ := h hp
  exact ⟨b, o, e, fun i hi => cell_up (r i hi) hu⟩
/-- A target of the ground, as the law makes it. -/
def TK (t : Tg) : Prop := ∃ c k a tn, t = ⟨midN c, 0, a, tn, 0⟩ ∧ c < 100 ∧ k ≤ 1000 ∧ bin .quo (ab (floatOfInt .f64 ((k : Nat) : Int))) (ab 4652007308841189376) = some tn ∧ AmpOK a
/-- The law's state in its first loop. -/
structure TW (W0 W : World) (v : Value) (l : List Tg) : Prop where
  own : TO W0.heap.size W v l
  up : Up W0 W
  all : ∀ t, t ∈ l → TK t
theorem TW.upw {W0 W W' : World} {v : Value} {l : List Tg} (h : TW W0 W v l) (u : Up W W') : TW W0 W' v l :=
  ⟨h.own.up u, h.up.trans u, h.all⟩
set_option maxRecDepth 20000 in
theorem info67 : (Try.prog.info? 67).map (fun i => (i.zero, i.size, i.bytes)) = some (some (.agg #[.float .f64 0, .float .f64 0, .float .f64 0, .float .f64 0, .float .f64 0]), 5, 40) := by kernel_rfl
/-- The pulses' echoes, as Rows makes them. -/
theorem rows_tw {W0 W : World} {pg pc n E R i cap : Nat} {d : List (Nat × Nat)} {p : Option Addr} {l : List Tg} (hrd : RD W0 pg 0 n (fun j => d[j]!)) (h : TW W0 W (.slice p i cap) l) (hB : ∀ i, i < n → BC2 (ab2 d[i]!) 2) (hi : i ≤ 12) (hn1 : 1 ≤ n) (hn : n ≤ 160) (hE : 100 + n = E) (hR1 : 1 ≤ R) (hR : R ≤ 10) :
    Calls Try.prog 27 #[.agg #[.float .f64 4607182418800017408, .float .f64 4602678819172646912, .float .f64 4652007308841189376, .int .i64 E, .int .i64 R], .slice (some ⟨pg, 0, none⟩) n pc, .slice p i cap, .float .f64 0, .float .f64 0, .int .u64 1] W (fun e w' => ∃ A B dd, ∃ V : Nat → C2, e = .returned (.tuple #[.slice (some ⟨A, 0, none⟩) R R, .int .i64 0]) ∧ Hid (MT w' A B R E dd (fun _ g => V g)) ∧ Hid (∀ g, P2 (V g) 362) ∧ Hid (Up W w')) := by
  have hl : l.length = i := by
    obtain ⟨p', c', he, _⟩ := own_form h.own
    simp only [Value.slice.injEq] at he
    exact he.2.1.symm
  obtain ⟨tg, htg⟩ : ∃ tg, 0 < i → p = some ⟨tg, 0, none⟩ := by
    obtain ⟨p', c', he, hq⟩ := own_form h.own
    simp only [Value.slice.injEq] at he
    obtain ⟨e1, _, _⟩ := he
    subst e1
    rcases Nat.eq_zero_or_pos i with q | q
    · exact ⟨0, fun h => by omega⟩
    · obtain ⟨g, hg⟩ := hq (by omega)
      exact ⟨g, fun _ => hg⟩
  let f : Nat → Tg := fun j => l.getD j ⟨0, 0, 0, 0, 0⟩
  have hf : ∀ j, j < i → l[j]? = some (f j) := fun j hj => by
    show l[j]? = some (l.getD j _)
    rw [List.getD_eq_getElem?_getD, List.getElem?_eq_getElem (by omega)]; rfl
  obtain ⟨q, hq⟩ : ∃ q : Nat → Nat × Nat × Nat × Nat, ∀ j, j < i → f j = ⟨midN (q j).1, 0, (q j).2.1, (q j).2.2.2, 0⟩ ∧ (q j).1 < 100 ∧ (q j).2.2.1 ≤ 1000 ∧ bin .quo (ab (floatOfInt .f64 (((q j).2.2.1 : Nat) : Int))) (ab 4652007308841189376) = some (q j).2.2.2 ∧ AmpOK (q j).2.1 := by
    refine Classical.axiomOfChoice (r := fun j (q : Nat × Nat × Nat × Nat) => j < i → f j = ⟨midN q.1, 0, q.2.1, q.2.2.2, 0⟩ ∧ q.1 < 100 ∧ q.2.2.1 ≤ 1000 ∧ bin .quo (ab (floatOfInt .f64 ((q.2.2.1 : Nat) : Int))) (ab 4652007308841189376) = some q.2.2.2 ∧ AmpOK q.2.1) fun j => ?_
    rcases Nat.lt_or_ge j i with hj | hj
    · have hm : f j ∈ l := List.mem_of_getElem? (hf j hj)
      obtain ⟨c, k, a, tn, h1, h2⟩ := h.all _ hm
      exact ⟨(c, a, k, tn), fun _ => ⟨h1, h2⟩⟩
    · exact ⟨(0, 0, 0, 0), fun hh => absurd hh (by omega)⟩
  have key := rows_ground (w := W) (n := n) (E := E) (R := R) (T := i) (pg := pg) (cap := pc) (tg := tg) (cp := cap) (p := p) (f := f) (c := fun j => (q j).1) (a := fun j => (q j).2.1) (k := fun j => (q j).2.2.1) (tn := fun j => (q j).2.2.2) hn1 hn hE hR1 hR hi (hrd.up h.up) (by
    rcases Nat.eq_zero_or_pos i with q0 | q0
    · intro j hj; omega
    · have := h.own
      rw [htg q0] at this
      exact this.tl hf) htg hq
  refine key.mono fun e w' hk => ?_
  obtain ⟨A, B, dd, he, h1, h2⟩ := OKT.mt hk
  refine ⟨A, B, dd, _, he, h1, fun g => ?_, h2⟩
  exact (pile_p2 (fun j hj => bc_p2 (hB j hj)) i hi (fun j hj => gone_p2 (hq j hj).2.1 (hq j hj).2.2.1 (hq j hj).2.2.2.1 (hq j hj).2.2.2.2)).mono (by omega)
/-- One target more. -/
theorem TW.app {W0 W w1 : World} {i g cap k : Nat} {v : Value} {l : List Tg} {t : Tg} {o : Obj} (h : TW W0 W v l) (hl : l.length = i) (ht : TK t) (hown : w1.ownsRow W0.heap.size 67 5 (.slice (some ⟨g, 0, none⟩) (i + 1) cap) (i + 1) (l.flatMap te ++ te t)) (hg : ((W.alloc o).drewN k).grownBy w1 v.ownBlock) : TW W0 w1 (.slice (some ⟨g, 0, none⟩) (i + 1) cap) (l ++ [t]) := by
  subst hl
  refine ⟨?_, grown_up (h.up.trans ((Up.alloc _ _).trans (Up.drewN _ k))) hg (fun j hj => (World.ownsRow.lt h.own j hj).1), fun x hx => ?_⟩
  · unfold TO
    rw [List.length_append, List.flatMap_append]
    simpa using hown
  · rcases List.mem_append.mp hx with q | q
    · exact h.all x q
    · simp at q; subst q; exact ht
end Go.Proofs.Ytgalgnopjcpocaa
