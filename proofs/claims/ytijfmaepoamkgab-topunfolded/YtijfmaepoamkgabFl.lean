/- Floats as 'a number, or NaN': what each step of float64 arithmetic gives, whatever bits a NaN has. No program is spoken of here. -/
import Derived.WalkKit
import Derived.WalkLawsBesides
import Derived.ProofKit
import Derived.Deep.WholeRow
import Derived.Laws.CopyOwn
namespace Go.Fl
open Ieee Go.RowKit

def isN (b : Nat) : Bool := (double.read b).isNaN
/-- A float's bits, all NaN being one. -/
def ab (b : Nat) : Option Nat := if isN b then none else some b
def bin (op : BinOp) : Option Nat → Option Nat → Option Nat
  | some x, some y => floatBits op .f64 x y
  | _, _ => none
def ord : Option Nat → Option Nat → Option Ordering
  | some x, some y => double.order x y
  | _, _ => none

theorem read_nan {b : Nat} (h : isN b = true) : ∃ s f, double.read b = .nan s f := by
  unfold isN at h
  cases hd : double.read b with
  | number s m e => rw [hd] at h; cases h
  | infinity s => rw [hd] at h; cases h
  | nan s f => exact ⟨s, f, rfl⟩

theorem order_nanL {x y : Nat} (h : isN x = true) : double.order x y = none := by
  obtain ⟨s, f, e⟩ := read_nan h
  simp [Format.order, e, Datum.order]
theorem order_nanR {x y : Nat} (h : isN y = true) : double.order x y = none := by
  obtain ⟨s, f, e⟩ := read_nan h
  unfold Format.order; rw [e]
  cases double.read x <;> rfl

theorem order_ab (x y : Nat) : FloatKind.f64.format.order x y = ord (ab x) (ab y) := by
  show double.order x y = _
  unfold ab
  by_cases hx : isN x = true
  · simp [hx, ord, order_nanL]
  · by_cases hy : isN y = true
    · simp [hx, hy, ord, order_nanR]
    · simp [hx, hy, ord]

theorem sum_nanL (s : Bool) (f : Nat) (d : Datum) : (Datum.nan s f).sum d = none := by cases d <;> rfl
theorem sum_nanR (s : Bool) (f : Nat) (d : Datum) : d.sum (Datum.nan s f) = none := by cases d <;> rfl
theorem product_nanL (s : Bool) (f : Nat) (d : Datum) : (Datum.nan s f).product d = none := by cases d <;> rfl
theorem product_nanR (s : Bool) (f : Nat) (d : Datum) : d.product (Datum.nan s f) = none := by cases d <;> rfl
theorem quotient_nanL (n : Nat) (s : Bool) (f : Nat) (d : Datum) : (Datum.nan s f).quotient n d = none := by cases d <;> rfl
theorem quotient_nanR (n : Nat) (s : Bool) (f : Nat) (d : Datum) : d.quotient n (Datum.nan s f) = none := by cases d <;> rfl

theorem bits_nanL {op : BinOp} {x y : Nat} (h : isN x = true) : floatBits op .f64 x y = none := by
  obtain ⟨s, f, e⟩ := read_nan h
  unfold floatBits
  split <;> simp only [FloatKind.format, Format.add, Format.sub, Format.mul, Format.div, e, sum_nanL, product_nanL, quotient_nanL, Option.map_none]
theorem bits_nanR {op : BinOp} {x y : Nat} (h : isN y = true) : floatBits op .f64 x y = none := by
  obtain ⟨s, f, e⟩ := read_nan h
  unfold floatBits
  split <;> simp only [FloatKind.format, Format.add, Format.sub, Format.mul, Format.div, e, sum_nanR, product_nanR, quotient_nanR, Option.map_none, Datum.opposite]

theorem bits_ab (op : BinOp) (x y : Nat) : floatBits op .f64 x y = bin op (ab x) (ab y) := by
  unfold ab
  by_cases hx : isN x = true
  · simp [hx, bin, bits_nanL]
  · by_cases hy : isN y = true
    · simp [hx, hy, bin, bits_nanR]
    · simp [hx, hy, bin]

/-! A word that was written is no NaN, but of a NaN. -/
theorem word_mod (s : Bool) (r : Nat) (h : r < 2 ^ 63) : double.word s r % 2 ^ 63 = r := by
  have e : double.signWeight = 2 ^ 63 := rfl
  unfold Format.word
  rw [e]
  split <;> omega

theorem isN_mod (b : Nat) : isN b = decide (0x7ff0000000000000 < b % 2 ^ 63) := by
  unfold isN Format.read
  have e1 : double.signWeight = 2 ^ 63 := rfl
  have e2 : double.binade = 2 ^ 52 := rfl
  have e3 : double.infRung = 0x7ff0000000000000 := rfl
  simp only [e1, e2, e3]
  split
  · simp [Datum.isNaN]; omega
  · split
    · simp [Datum.isNaN]; omega
    · split
      · simp [Datum.isNaN]; omega
      · simp [Datum.isNaN]; omega

theorem nearest_ok (s : Bool) (m : Nat) (e : Int) : isN (double.nearest s m e) = false := by
  have e3 : double.infRung = 0x7ff0000000000000 := rfl
  rw [isN_mod]
  unfold Format.nearest
  split
  · rw [word_mod _ _ (by omega)]; rfl
  · simp only [e3]
    rw [word_mod _ _ (by omega)]
    simp; omega

theorem write_ok {d : Datum} (h : d.isNaN = false) : isN (double.write d) = false := by
  cases d with
  | number s m e => exact nearest_ok s m e
  | infinity s =>
    have e3 : double.infRung = 0x7ff0000000000000 := rfl
    rw [isN_mod]
    show decide (_ < double.word s double.infRung % _) = false
    rw [e3, word_mod _ _ (by omega)]; rfl
  | nan s f => cases h

theorem sum_ok {a b d : Datum} (h : a.sum b = some d) : d.isNaN = false := by
  cases a <;> cases b <;> simp only [Datum.sum] at h <;> first | (cases h; rfl) | (split at h <;> first | (cases h; rfl) | cases h) | cases h
theorem product_ok {a b d : Datum} (h : a.product b = some d) : d.isNaN = false := by
  cases a <;> cases b <;> simp only [Datum.product] at h <;> first | (cases h; rfl) | (split at h <;> first | (cases h; rfl) | cases h) | cases h
theorem quotient_ok {n : Nat} {a b d : Datum} (h : a.quotient n b = some d) : d.isNaN = false := by
  cases a <;> cases b <;> simp only [Datum.quotient] at h <;> first | (cases h; rfl) | (split at h <;> first | (cases h; rfl) | (split at h <;> first | (cases h; rfl) | cases h) | cases h) | cases h

theorem bits_ok {op : BinOp} {x y r : Nat} (h : floatBits op .f64 x y = some r) : isN r = false := by
  unfold floatBits at h
  split at h
  · simp only [FloatKind.format, Format.add, Option.map_eq_some_iff] at h
    obtain ⟨d, hd, rfl⟩ := h
    exact write_ok (sum_ok hd)
  · simp only [FloatKind.format, Format.sub, Option.map_eq_some_iff] at h
    obtain ⟨d, hd, rfl⟩ := h
    exact write_ok (sum_ok hd)
  · simp only [FloatKind.format, Format.mul, Option.map_eq_some_iff] at h
    obtain ⟨d, hd, rfl⟩ := h
    exact write_ok (product_ok hd)
  · simp only [FloatKind.format, Format.div, Option.map_eq_some_iff] at h
    obtain ⟨d, hd, rfl⟩ := h
    exact write_ok (quotient_ok hd)
  · cases h

theorem ab_some {b : Nat} (h : isN b = false) : ab b = some b := by simp [ab, h]
theorem ab_none {b : Nat} (h : isN b = true) : ab b = none := by simp [ab, h]
theorem of_ab {b c : Nat} (h : ab b = some c) : b = c := by
  unfold ab at h; split at h
  · cases h
  · cases h; rfl

theorem cut_nan (x y t : Nat) : isN ((Question.nanBits .f64 x y).cut t) = true := by
  rw [isN_mod]
  show decide (_ < ((t % 2) * 2 ^ 63 + 0x7ff0000000000000 + 1 + (t / 2) % (2 ^ 52 - 1)) % 2 ^ 63) = true
  have h : (t / 2) % (2 ^ 52 - 1) < 2 ^ 52 - 1 := Nat.mod_lt _ (by omega)
  have h2 : t % 2 < 2 := Nat.mod_lt _ (by omega)
  generalize (t / 2) % (2 ^ 52 - 1) = k at h
  generalize t % 2 = q at h2
  simp
  omega

/-- THE LAW OF THE FOUR STEPS: some float comes out, the same one for every NaN that went in. -/
theorem run_fl {P : Program} (op : BinOp) (t : TypeId) (x y : Nat) (w : World) (h : op = .add ∨ op = .sub ∨ op = .mul ∨ op = .quo) :
    ∃ r n, (binOp op t (.float .f64 x) (.float .f64 y)).run P w = .ok (.float .f64 r) (w.drewN n) ∧ ab r = bin op (ab x) (ab y) := by
  cases hb : floatBits op .f64 x y with
  | some r => exact ⟨r, 0, run_float_arith w op t .f64 x y r hb, by rw [← bits_ab, hb]; exact ab_some (bits_ok hb)⟩
  | none =>
    refine ⟨(Question.nanBits .f64 x y).cut (w.tape w.drawn (.nanBits .f64 x y)), 1, ?_, by rw [← bits_ab, hb]; exact ab_none (cut_nan ..)⟩
    rcases h with rfl | rfl | rfl | rfl <;> simp only [floatBits] at hb <;> simp [binOp, Op.floatArith, hb, choose, Sem.run, Question.forced, World.drewN]

/-- .. as the walk meets it. -/
theorem upon_fl {P : Program} {o : Oper} {a : Act} {next : Act → World → Prop} {Q : Exit → Act → World → Prop} {op : BinOp} {t : TypeId} {x y : Nat} {w : World} (h : op = .add ∨ op = .sub ∨ op = .mul ∨ op = .quo)
    {F : Value → World → Result Next} (hk : ∀ r n, Hid (ab r = bin op (ab x) (ab y)) → o.upon P a next Q (F (.float .f64 r) (w.drewN n))) :
    o.upon P a next Q (((binOp op t (.float .f64 x) (.float .f64 y)).run P w).andThen F) := by
  obtain ⟨r, n, e, hr⟩ := run_fl (P := P) op t x y w h
  rw [e]
  exact hk r n hr

theorem run_store_float {P : Program} (w : World) (a : Addr) (m : Mode) (k : FloatKind) (b : Nat) : (store a (.float k b) m).run P w = stored P w a (.float k b) m := run_store P w a _ m rfl
theorem run_store_complex {P : Program} (w : World) (a : Addr) (m : Mode) (k : FloatKind) (x y : Nat) : (store a (.complex k x y) m).run P w = stored P w a (.complex k x y) m := run_store P w a _ m rfl

/-- A row of floats, laid whole into a row of its length. -/
theorem upon_storeRow {P : Program} {o : Oper} {a : Act} {next : Act → World → Prop} {Q : Exit → Act → World → Prop} {g : Nat} {w : World} {L : List Nat} {F : Unit → World → Result Next} (cur : Array Value) (t : TypeId)
    (hg : w.heap[g]? = some (.cells cur t (0, 0))) (hl : cur.size = L.length) (hk : o.upon P a next Q (F () (w.setRow g (L.map (Value.float .f64)).toArray))) :
    o.upon P a next Q (((storeCells ⟨g, 0, none⟩ (L.map (Value.float .f64))).run P w).andThen F) := by
  have h := run_storeCells_from (P := P) g t (L.map (Value.float .f64)) 0 cur w hg (by simp [hl]) (fun v hv => by
    obtain ⟨b, _, rfl⟩ := List.mem_map.1 hv; rfl)
  rw [h]
  exact hk
theorem wpList_build_to {P : Program} {ops : Array Oper} {rest : List Oper} {o : Oper} {a : Act} {w : World} {Q : Exit → Act → World → Prop} (hg : o.guard = none) (t : TypeId) (parts : Array (Nat × Operand)) (ho : o.op = .build t parts)
    (cells : Array Value) (hv : P.built t (parts.map fun (i, x) => (i, a.eval x)).toList = some cells) (h : wpList P ops Q rest (a.put o.dst (.agg cells)) w) : wpList P ops Q (o :: rest) a w :=
  wpList_build hg t parts ho (by rw [hv]; rfl) (by rw [hv]; exact h)

/-- The sign turned. -/
def neg (b : Nat) : Nat := Op.negFloat .f64 b
theorem isN_neg (b : Nat) : isN (neg b) = isN b := by
  rw [isN_mod, isN_mod]
  have : neg b % 2 ^ 63 = b % 2 ^ 63 := by
    show (b ^^^ 2 ^ 63) % 2 ^ 63 = _
    rw [Nat.xor_mod_two_pow]; simp
  rw [this]
theorem ab_neg (b : Nat) : ab (neg b) = (ab b).map neg := by
  unfold ab; rw [isN_neg]; split <;> rfl
theorem run_neg {P : Program} (x : Nat) (w : World) : (Op.unary .neg (.float .f64 x)).run P w = .ok (.float .f64 (neg x)) w := rfl

/-- The greatest whole number that is not greater. -/
def floor (b : Nat) : Nat := double.write ((double.read b).integral .down)
theorem integral_ok {d : Datum} (h : d.isNaN = false) : (d.integral .down).isNaN = false := by cases d <;> first | rfl | cases h
/-- What stands in for math.Floor, the question that it asks at a NaN left open. -/
def toI (q : Question) (x : Nat) : Sem Value :=
  match double.read x with
  | .nan s t => if double.quiet t = t then pure (Value.float .f64 x) else do
    let kept ← choose q
    pure (Value.float .f64 (if kept == 1 then x else double.write (.nan s (double.quiet t))))
  | d => pure (Value.float .f64 (double.write (d.integral .down)))
theorem toI_of (name : String) (x : Nat) : ∃ q, Extern.MathFloor.toIntegral name .down #[.float .f64 x] = toI q x := ⟨_, rfl⟩
theorem quiet_nan (s : Bool) (t : Nat) : isN (double.write (.nan s (double.quiet t))) = true := by
  rw [isN_mod]
  have e2 : double.binade = 2 ^ 52 := rfl
  have e3 : double.infRung = 0x7ff0000000000000 := rfl
  show decide (_ < double.word s (double.infRung + double.quiet t % double.binade) % _) = true
  rw [e2, e3]
  have hlt : double.quiet t % 2 ^ 52 < 2 ^ 52 := Nat.mod_lt _ (by omega)
  rw [word_mod _ _ (by omega)]
  have hb : (double.quiet t % 2 ^ 52).testBit 51 = true := by
    rw [Nat.testBit_mod_two_pow]
    show (_ && (t ||| 2 ^ 51).testBit 51) = true
    rw [Nat.testBit_or, Nat.testBit_two_pow_self]; simp
  have hpos : double.quiet t % 2 ^ 52 ≠ 0 := by
    intro h0; rw [h0] at hb; simp at hb
  simp; omega
theorem run_floor {P : Program} (name : String) (x : Nat) (w : World) :
    ∃ r n, (Extern.MathFloor.toIntegral name .down #[.float .f64 x]).run P w = .ok (.float .f64 r) (w.drewN n) ∧ ab r = (ab x).map floor := by
  obtain ⟨q, hq⟩ := toI_of name x
  rw [hq]
  unfold toI
  cases hd : double.read x with
  | nan s t =>
    have hN : isN x = true := by simp [isN, hd, Datum.isNaN]
    simp only
    split
    · exact ⟨x, 0, rfl, by simp [ab_none hN]⟩
    · by_cases hf : q.forced = true
      · exact ⟨double.write (.nan s (double.quiet t)), 0, by simp [hf]; rfl, by rw [ab_none hN, ab_none (quiet_nan s t)]; rfl⟩
      · by_cases h1 : q.cut (w.tape w.drawn q) = 1
        · exact ⟨x, 1, by simp [hf, h1]; rfl, by simp [ab_none hN]⟩
        · exact ⟨double.write (.nan s (double.quiet t)), 1, by simp [hf, h1]; rfl, by rw [ab_none hN, ab_none (quiet_nan s t)]; rfl⟩
  | number s m e =>
    have hN : isN x = false := by simp [isN, hd, Datum.isNaN]
    exact ⟨floor x, 0, by simp only [floor, hd]; rfl, by rw [ab_some hN, ab_some]; rfl; exact write_ok (by rw [hd]; rfl)⟩
  | infinity s =>
    have hN : isN x = false := by simp [isN, hd, Datum.isNaN]
    exact ⟨floor x, 0, by simp only [floor, hd]; rfl, by rw [ab_some hN, ab_some]; rfl; exact write_ok (by rw [hd]; rfl)⟩

/-- The magnitude. -/
def abs (b : Nat) : Nat := b % 2 ^ 63
theorem abs_eq (x : Nat) : (bits BinOp.andNot IntKind.u64 (x : Int) 9223372036854775808).toNat = abs x := by
  show (IntKind.u64.wrap ((BitVec.ofInt 64 (x : Int) &&& ~~~BitVec.ofInt 64 ((9223372036854775808 : Nat) : Int)).toNat : Int)).toNat = _
  rw [BitVec.toNat_and, BitVec.toNat_not, BitVec.ofInt_natCast, BitVec.ofInt_natCast, BitVec.toNat_ofNat, BitVec.toNat_ofNat, IntKind.wrap_u64]
  have e : 2 ^ 64 - 1 - 9223372036854775808 % 2 ^ 64 = 2 ^ 63 - 1 := by omega
  rw [e, Nat.and_two_pow_sub_one_eq_mod]
  unfold abs
  omega
theorem isN_abs (b : Nat) : isN (abs b) = isN b := by
  rw [isN_mod, isN_mod]
  have : abs b % 2 ^ 63 = b % 2 ^ 63 := by unfold abs; omega
  rw [this]
theorem ab_abs (b : Nat) : ab (abs b) = (ab b).map abs := by
  unfold ab; rw [isN_abs]; split <;> rfl

def eqF (a b : Option Nat) : Bool := ord a b == some .eq
def ltF (a b : Option Nat) : Bool := ord a b == some .lt
def gtF (a b : Option Nat) : Bool := ord a b == some .gt
theorem fold_eq (x y : Nat) : (FloatKind.f64.format.order x y == some .eq) = eqF (ab x) (ab y) := by rw [order_ab]; rfl
theorem fold_ne (x y : Nat) : (FloatKind.f64.format.order x y != some .eq) = !eqF (ab x) (ab y) := by rw [order_ab]; rfl
theorem fold_lt (x y : Nat) : (FloatKind.f64.format.order x y == some .lt) = ltF (ab x) (ab y) := by rw [order_ab]; rfl
theorem fold_gt (x y : Nat) : (FloatKind.f64.format.order x y == some .gt) = gtF (ab x) (ab y) := by rw [order_ab]; rfl
/-- Neither NaN nor endless. -/
def fin (x : Option Nat) : Bool := eqF x x && !gtF (x.map abs) (ab 9218868437227405311)

theorem order_self (d : Datum) : d.order d = if d.isNaN then none else some .eq := by
  cases d with
  | nan s f => rfl
  | infinity s => simp [Datum.order, Datum.isNaN]
  | number s m e => simp [Datum.order, Datum.isNaN]
theorem ord_ab_self (b : Nat) : ord (ab b) (ab b) = if isN b then none else some .eq := by
  rw [← order_ab]
  exact order_self _
/-- Alike by bits, all NaN being one. -/
theorem same_ab (x y : Nat) : (ab x == ab y) = if isN x || isN y then isN x && isN y else decide (x = y) := by
  unfold ab
  cases isN x <;> cases isN y <;> simp [Bool.beq_eq_decide_eq]

theorem eqF_self (b : Nat) : eqF (ab b) (ab b) = !isN b := by
  unfold eqF; rw [ord_ab_self]; cases isN b <;> rfl
theorem fin_isN {x : Nat} (h : fin (ab x) = true) : isN x = false := by
  unfold fin at h
  rw [eqF_self] at h
  revert h; cases isN x <;> simp
theorem fin_num {x : Nat} (h : fin (ab x) = true) : ∃ s m e, double.read x = .number s m e := by
  have hN := fin_isN h
  unfold fin at h
  rw [eqF_self, hN] at h
  cases hd : double.read x with
  | number s m e => exact ⟨s, m, e, rfl⟩
  | nan s f => simp [isN, hd, Datum.isNaN] at hN
  | infinity s =>
    exfalso
    have hr : x % 2 ^ 63 = 0x7ff0000000000000 := by
      unfold Format.read at hd
      have e1 : double.signWeight = 2 ^ 63 := rfl
      have e2 : double.binade = 2 ^ 52 := rfl
      have e3 : double.infRung = 0x7ff0000000000000 := rfl
      simp only [e1, e2, e3] at hd
      split at hd
      · cases hd
      · split at hd
        · cases hd
        · split at hd
          · assumption
          · cases hd
    have ha : abs x = 0x7ff0000000000000 := hr
    rw [ab_some hN] at h
    simp only [Option.map_some, ha] at h
    have : gtF (some 0x7ff0000000000000) (ab 9218868437227405311) = true := by decide +kernel
    rw [this] at h
    cases h
theorem not_nan {y : Nat} (h : isN y = false) : (∃ s m e, double.read y = .number s m e) ∨ ∃ s, double.read y = .infinity s := by
  cases hd : double.read y with
  | number s m e => exact Or.inl ⟨s, m, e, rfl⟩
  | infinity s => exact Or.inr ⟨s, rfl⟩
  | nan s f => simp [isN, hd, Datum.isNaN] at h
/-- A finite number, and any number: no NaN comes of a sum or a difference. -/
theorem add_some {x y : Nat} (hx : ∃ s m e, double.read x = .number s m e) (hy : isN y = false) : ∃ r, floatBits .add .f64 x y = some r := by
  obtain ⟨s, m, e, hx⟩ := hx
  rcases not_nan hy with ⟨s', m', e', hy⟩ | ⟨s', hy⟩ <;> simp [floatBits, FloatKind.format, Format.add, hx, hy, Datum.sum]
theorem sub_some {x y : Nat} (hx : ∃ s m e, double.read x = .number s m e) (hy : isN y = false) : ∃ r, floatBits .sub .f64 x y = some r := by
  obtain ⟨s, m, e, hx⟩ := hx
  rcases not_nan hy with ⟨s', m', e', hy⟩ | ⟨s', hy⟩ <;> simp [floatBits, FloatKind.format, Format.sub, hx, hy, Datum.sum, Datum.opposite]
theorem add_some' {x y : Nat} (hx : isN x = false) (hy : ∃ s m e, double.read y = .number s m e) : ∃ r, floatBits .add .f64 x y = some r := by
  obtain ⟨s, m, e, hy⟩ := hy
  rcases not_nan hx with ⟨s', m', e', hx⟩ | ⟨s', hx⟩ <;> simp [floatBits, FloatKind.format, Format.add, hx, hy, Datum.sum]
theorem sub_some' {x y : Nat} (hx : isN x = false) (hy : ∃ s m e, double.read y = .number s m e) : ∃ r, floatBits .sub .f64 x y = some r := by
  obtain ⟨s, m, e, hy⟩ := hy
  rcases not_nan hx with ⟨s', m', e', hx⟩ | ⟨s', hx⟩ <;> simp [floatBits, FloatKind.format, Format.sub, hx, hy, Datum.sum, Datum.opposite]
theorem floor_ok {x : Nat} (h : isN x = false) : isN (floor x) = false := write_ok (integral_ok h)
/-- What a call leaves that hands back one float: v, whatever bits if v is NaN; of the world only the count of draws has moved on. -/
def FR (w : World) (v : Option Nat) (e : Ending) (w' : World) : Prop := ∃ r n, e = .returned (.float .f64 r) ∧ w' = w.drewN n ∧ Hid (ab r = v)
theorem FR.mk0 {w : World} {v : Option Nat} {r : Nat} (h : ab r = v) : FR w v (.returned (.float .f64 r)) w := ⟨r, 0, rfl, rfl, h⟩
theorem FR.mkN {w : World} {v : Option Nat} {r n : Nat} (h : ab r = v) : FR w v (.returned (.float .f64 r)) (w.drewN n) := ⟨r, n, rfl, rfl, h⟩
end Go.Fl
