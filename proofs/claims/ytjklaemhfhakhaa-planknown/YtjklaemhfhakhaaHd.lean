/- PlanRows: what the loops keep. -/
import Derived.Test.YtjklaemhfhakhaaMi
import Derived.Test.YtjklaemhfhakhaaHb
import Derived.Deep.Upon
import Derived.Deep.AppendLies
namespace Go.Proofs.Ytjklaemhfhakhaa
open Go.ChangeShapes Go.WideShapes Go.ChangeAt Go.RowKit

theorem fl4_one (D : List Sl) : ∀ u ∈ fl4 D, u.oneCell' = true := by
  intro u hu
  obtain ⟨s, _, h⟩ := List.mem_flatMap.1 hu
  exact sl_one s u h
theorem SO.cells {b : Nat} {w : World} {q : Option Addr} {n cq : Nat} {S : List Sl} (h : SO b w (.slice q n cq) S) (hp : 0 < n) : ∃ g, q = some ⟨g, 0, none⟩ ∧ ∀ (j : Nat) (u : Value), (fl4 S)[j]? = some u → w.cell? ((⟨g, 0, none⟩ : Addr).add j) = some u := by
  have hl := SO.len h
  rcases h.2 with ⟨h0, h1⟩ | ⟨g, cap', cur, e, h1, h2, h3, h4, h5, h6⟩
  · omega
  · simp only [Value.slice.injEq] at e
    obtain ⟨rfl, rfl, rfl⟩ := e
    refine ⟨g, rfl, fun j u hu => ?_⟩
    rw [addr_add, Nat.zero_add]
    rw [← h6, List.getElem?_take] at hu
    split at hu
    · unfold World.cell?
      simp only [h2]
      rw [Array.getElem?_toList] at hu
      simpa using hu
    · cases hu
theorem app_so {w : World} {base b' m c ty : Nat} {p q : Option Addr} {n cq : Nat} {D S : List Sl} (hown : SO base w (.slice p m c) D) (hv : SO b' w (.slice q n cq) S) (hmn : m + n ≤ 4000000) (hbase : base ≤ w.heap.size) :
    ∃ p' c' w', (Builtin.append_ #[45, 45] ty #[.slice p m c, .slice q n cq]).run Try.prog w = .ok (.slice p' (m + n) c') w' ∧ SO base w' (.slice p' (m + n) c') (D ++ S) ∧ w.grownBy w' (Value.slice p m c).ownBlock := by
  obtain ⟨i0, hi, hz0, hz1, hz2⟩ := info_parts info42
  have hl := SO.len hown
  have hs := SO.len hv
  rcases Nat.eq_zero_or_pos n with rfl | hp
  · have hS : S = [] := List.length_eq_zero_iff.1 hs
    subst hS
    have hmc : m ≤ c := by
      rcases hown.2 with ⟨h0, h1⟩ | ⟨g, cap', cur, e, h1, h2, h3, h4, h5, h6⟩
      · simp only [Value.slice.injEq] at h0; omega
      · simp only [Value.slice.injEq] at e; omega
    have hqf : ∃ a, q = none ∨ q = some a := by
      cases q with
      | none => exact ⟨⟨0, 0, none⟩, Or.inl rfl⟩
      | some a => exact ⟨a, Or.inr rfl⟩
    refine ⟨p, c, w, ?_, ?_, World.grownBy.refl _ _⟩
    · refine run_append_nothing w 45 45 ty 42 i0 Try.underlying45 hi _ m c hmc _ ?_
      cases q with
      | none => exact Src.ofNil w Try.underlying45 cq
      | some a => exact Src.ofSlice w Try.underlying45 a 0 cq [] (by simp) (fun j u h => by simp at h) (fun u h => by cases h)
    · simpa using hown
  · obtain ⟨g0, rfl, hr⟩ := hv.cells hp
    have hown' : w.ownsRow base 42 4 (.slice p m c) m (fl4 D) := by have := hown; unfold SO at this; rwa [hl] at this
    obtain ⟨g, cap, w', h1, h2, h3, h4, _⟩ := run_append_lies (P := Try.prog) w 45 ty base 42 i0 (.agg #[.int .i64 0, .int .i64 0, .int .i64 0, .bool false]) 4 32 Try.underlying45 hi hz0 hz1 hz2 rfl (by omega) (.slice p m c) m (fl4 D) hown' ⟨g0, 0, none⟩ n cq (fl4 S) (by rw [fl4_len, hs]) hr (fl4_one _) hp (by unfold maxLen; omega) (by omega) hbase w.heap.size rfl
    refine ⟨_, cap, w', h1, ?_, h3⟩
    unfold SO fl4 at *
    rw [List.length_append, hs, hl, List.flatMap_append]
    exact h2
theorem wpList_app_so {ops : Array Oper} {rest : List Oper} {o : Oper} {a : Act} {w : World} {Q : Exit → Act → World → Prop} (hgd : o.guard = none) (s x : Operand)
    (ho : o.op = .call { callee := .builtin .append, args := #[s, x], argTypes := #[45, 45] })
    (base b' m c : Nat) (p q : Option Addr) (n cq : Nat) (D S : List Sl) (hs : a.eval s = .slice p m c) (hx : a.eval x = .slice q n cq) (hown : SO base w (.slice p m c) D) (hv : SO b' w (.slice q n cq) S) (hmn : m + n ≤ 4000000) (hbase : base ≤ w.heap.size)
    (h : ∀ p' c' w', SO base w' (.slice p' (m + n) c') (D ++ S) → w.grownBy w' (Value.slice p m c).ownBlock → wpList Try.prog ops Q rest (a.put o.dst (.slice p' (m + n) c')) w') : wpList Try.prog ops Q (o :: rest) a w := by
  refine wpList_plain hgd fun K hK => ?_
  obtain ⟨p', c', w', h1, h2, h3⟩ := app_so (ty := o.type) hown hv hmn hbase
  unfold Oper.wp execOp
  simp only [ho, resolve, invoke, builtin, Sem.run_bind, Sem.run_pure, Result.andThen_ok, List.map_toArray, List.map_cons, List.map_nil, hs, hx, h1]
  exact hK _ _ (h p' c' w' h2 h3)
/-- A plan that goes on to a tick, and what it has told. -/
structure QR (N : Nat) (T : Nat → Tk) (last : Int) (W : List Sl) (p : Pl) (D : List Sl) : Prop where
  si : SI N (fun i => (T i).e) (fun i => (T i).l) (fun i => (T i).r) p
  now : 0 ≤ p.now ∧ p.now ≤ last
  ch : Chn 0 D p.now
  sp : ∀ y, tkF (untilN N last 65536 p).1 (tkA D y) y = tkA W y
theorem QR.start {N : Nat} {T : Nat → Tk} {last : Int} (hm : ∀ i, i < N → MayT (T i).e (T i).l) (h0 : 0 ≤ last) : QR N T last (untilN N last 65536 (newP T)).1 (newP T) [] :=
  ⟨SI.start hm, ⟨Int.le_refl _, h0⟩, Int.le_refl _, fun _ => rfl⟩
theorem QR.step {N : Nat} {T : Nat → Tk} {last : Int} {W D : List Sl} {p : Pl} (h : QR N T last W p D) (hL : last ≤ 1000) {x : Int} (h1 : p.now ≤ x) (h2 : x ≤ last) : QR N T last W (untilN N x 65536 p).2 (D ++ (untilN N x 65536 p).1) ∧ (untilN N x 65536 p).2.now = x ∧ D.length + (untilN N x 65536 p).1.length ≤ 1000 := by
  have hn := h.now
  obtain ⟨i1, i2, i3, i4, i5, i6⟩ := h.si.until (tick := x) (by omega) 65536 p h1 (by omega)
  obtain ⟨s1, s2⟩ := until_split (T := last) (x := x) (by omega) h2 65536 p h.si.fits h.si.pb h1 (by omega)
  have hc : Chn 0 (D ++ (untilN N x 65536 p).1) x := Chn.app i3 h.ch
  refine ⟨⟨i1, by rw [i2]; omega, by rw [i2]; exact hc, fun y => ?_⟩, i2, ?_⟩
  · have e : tkA (D ++ (untilN N x 65536 p).1) y = tkF (untilN N x 65536 p).1 (tkA D y) y := tkF_app _ _ _ _
    rw [e, s2, h.sp]
  · have := hc.len
    rw [List.length_append] at this
    omega
theorem QR.last {N : Nat} {T : Nat → Tk} {last : Int} {W D : List Sl} {p : Pl} (h : QR N T last W p D) : ∀ y, tkA (D ++ (untilN N last 65536 p).1) y = tkA W y := fun y => by
  have e : tkA (D ++ (untilN N last 65536 p).1) y = tkF (untilN N last 65536 p).1 (tkA D y) y := tkF_app _ _ _ _
  rw [e, h.sp]
structure SR (N : Nat) (T : Nat → Tk) (last : Int) (W : List Sl) (lo B : Nat) (W6 : World) (bp : Nat) (v : Value) (D : List Sl) (p : Pl) (wr : World) : Prop where
  pl : ∃ L, PU wr L N p ∧ L.bp = bp ∧ ∀ b, L.Own N b → lo ≤ b ∧ b < B
  so : SO W6.heap.size wr v D
  bse : B ≤ W6.heap.size ∧ W6.heap.size ≤ wr.heap.size
  kp : Kp (fun b => ¬ (lo ≤ b ∧ b < B)) W6 wr
  qs : QR N T last W p D
structure SX (N : Nat) (T : Nat → Tk) (last : Int) (W : List Sl) (lo B : Nat) (W6 : World) (bp : Nat) (v v2 : Value) (D S : List Sl) (p : Pl) (wr : World) : Prop where
  pl : ∃ L, PU wr L N p ∧ L.bp = bp ∧ ∀ b, L.Own N b → lo ≤ b ∧ b < B
  so : SO W6.heap.size wr v D
  so2 : SO W6.heap.size wr v2 S
  bse : B ≤ W6.heap.size ∧ W6.heap.size ≤ wr.heap.size
  kp : Kp (fun b => ¬ (lo ≤ b ∧ b < B)) W6 wr
  qs : QR N T last W p (D ++ S)
theorem Kp.two {F : Nat → Prop} {w w1 w2 : World} (h : Kp F w w1) {G : Nat → Prop} (k : Kp G w1 w2) (hG : ∀ b, F b → b < w.heap.size → G b) : Kp F w w2 :=
  ⟨k.os.trans h.os, k.tape.trans h.tape, k.output.trans h.output, Nat.le_trans h.size k.size, fun b hb hl => (k.block b (hG b hb hl) (Nat.lt_of_lt_of_le hl h.size)).trans (h.block b hb hl)⟩
theorem SR.at18 {N : Nat} {T : Nat → Tk} {last : Int} {W : List Sl} {lo B : Nat} {W6 : World} {bp : Nat} {pp : Option Addr} {ln cap : Nat} {D : List Sl} {p : Pl} {wr : World} (h : SR N T last W lo B W6 bp (.slice pp ln cap) D p wr) (hN : N ≤ 12) (hL : last ≤ 1000) {x : Int} (h1 : p.now ≤ x) (h2 : x ≤ last) :
    Calls Try.prog 18 #[.pointer (some ⟨bp, 0, none⟩), .int .i64 x] wr (fun e w' => ∃ qq len c2 S p', e = .returned (.slice qq len c2) ∧ Hid (SX N T last W lo B W6 bp (.slice pp ln cap) (.slice qq len c2) D S p' w') ∧ Hid (p'.now = x) ∧ Hid (ln + len ≤ 1000) ∧ Hid (x = last → ∀ y, tkA (D ++ S) y = tkA W y)) := by
  obtain ⟨L, k1, rfl, k2⟩ := h.pl
  have hn := h.qs.now
  obtain ⟨q1, q2, q3⟩ := h.qs.step hL h1 h2
  have := t18 k1.pw k1.ok k1.pb (by omega) x (by omega)
  rw [show min x 1152921504606846976 = x by omega] at this
  refine this.mono ?_
  rintro e w' ⟨qq, c2, L', rfl, j1, j2, j3, j4⟩
  have hl := SO.len h.so
  have hb := h.bse
  refine ⟨qq, _, c2, _, _, rfl, ⟨⟨L', ⟨j2, j4.out.ok, j3⟩, j4.out.bp, fun b hb => k2 b (j4.out.own b hb)⟩, ?_, owns_base j1.out h.bse.2, ⟨h.bse.1, Nat.le_trans h.bse.2 j4.out.kp.size⟩, h.kp.two j4.out.kp (fun b hb _ hq => hb (k2 b hq)), q1⟩, q2, by rw [hl] at q3; exact q3, fun e => by subst e; exact h.qs.last⟩
  refine h.so.kp j4.out.kp fun r hr => ?_
  intro hq
  have h3 := (World.ownsRow.lt h.so r hr).1
  have h4 := (k2 r hq).2
  omega
theorem SX.app {N : Nat} {T : Nat → Tk} {last : Int} {W : List Sl} {lo B : Nat} {W6 : World} {bp : Nat} {v v2 v' : Value} {D S : List Sl} {p : Pl} {wr w' : World} (h : SX N T last W lo B W6 bp v v2 D S p wr) (h1 : SO W6.heap.size w' v' (D ++ S)) (h2 : wr.grownBy w' v.ownBlock) : SR N T last W lo B W6 bp v' (D ++ S) p w' := by
  obtain ⟨L, k1, k2, k3⟩ := h.pl
  have hb := h.bse
  have hr : ∀ r, v.ownBlock = some r → W6.heap.size ≤ r := fun r hr => (World.ownsRow.lt h.so r hr).1
  refine ⟨⟨L, ⟨k1.pw.kp (Kp.grown h2) fun b hb e => ?_, k1.ok, k1.pb⟩, k2, k3⟩, h1, ⟨h.bse.1, Nat.le_trans h.bse.2 h2.size⟩, h.kp.two (Kp.grown h2) (fun b _ hl e => ?_), h.qs⟩
  · have := hr b e.symm
    have := (k3 b hb).2
    omega
  · have := hr b e.symm
    omega
end Go.Proofs.Ytjklaemhfhakhaa
