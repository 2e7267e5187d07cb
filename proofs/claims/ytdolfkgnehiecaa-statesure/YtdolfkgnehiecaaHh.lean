/- All of StateSure's numbers. -/
import Derived.Test.YtdolfkgnehiecaaHg
import Derived.Test.YtdolfkgnehiecaaAb
namespace Go.Proofs.Ytdolfkgnehiecaa
open Go.Fl Ieee Go.RowKit

theorem some_of {o p : Option Nat} {op : BinOp} {r : Nat} (h : ab r = bin op o p) {z : Nat} (k : bin op o p = some z) : r = z := of_ab (h.trans k)
theorem pos_val {raw : Nat} (f : Fnt raw) {a2 : Nat} (h : ab a2 = posF (ab raw)) : Fnt a2 ∧ val raw ≤ val a2 ∧ 0 ≤ val a2 ∧ (a2 = raw ∨ a2 = 0) := by
  unfold posF at h
  rw [gtF_val f zero_fnt, val0] at h
  by_cases q : 0 < val raw
  · rw [if_pos (by simpa using q)] at h
    rw [Fnt.ab f] at h
    have e := of_ab h
    subst e
    exact ⟨f, Rat.le_refl, Rat.le_of_lt q, Or.inl rfl⟩
  · rw [if_neg (by simpa using q)] at h
    rw [Fnt.ab zero_fnt] at h
    have e := of_ab h
    subst e
    refine ⟨zero_fnt, ?_, ?_, Or.inr rfl⟩
    · rw [val0]; grind
    · rw [val0]; exact Rat.le_refl
theorem sure_all {x v a b c t q a2 b2 d2 tt g3 g2 g1 : Nat} (P : Pre a b c t q) (ea : ab a2 = (aheadF ⟨ab x, ab v, ab a, ab b, ab c⟩ (ab t) (ab q)).a) (eb : ab b2 = (aheadF ⟨ab x, ab v, ab a, ab b, ab c⟩ (ab t) (ab q)).b) (ed : ab d2 = (aheadF ⟨ab x, ab v, ab a, ab b, ab c⟩ (ab t) (ab q)).c)
    (ett : ab tt = bin .mul (ab t) (ab t)) (eg3 : ab g3 = bin .mul (ab tt) (ab c)) (eg2 : ab g2 = bin .mul (ab t) (ab c)) (eg1 : ab g1 = bin .mul (ab t) (ab (Go.Fl.abs b))) :
    (BN a2 330 ∧ BN d2 330 ∧ BN a 330 ∧ BN g3 330 ∧ BN g2 330 ∧ BN g1 330) ∧ ∀ mx, BN mx 330 → val a2 ≤ val mx → val d2 ≤ val mx → val a ≤ val mx → val g3 ≤ val mx → val g2 ≤ val mx → val g1 ≤ val mx → ∀ l p k5 k7 r, ab l = bin .mul (ab b2) (ab b2) → ab p = bin .mul (ab a2) (ab d2) → ab k5 = bin .mul (ab 4427486594234968593) (ab mx) → ab k7 = bin .mul (ab k5) (ab mx) → ab r = bin .add (ab p) (ab k7) → ltF (ab l) (ab r) = true ∨ eqF (ab l) (ab r) = true := by
  obtain ⟨p1, p2, pt, k, kt, q3, hf, th, S1, S2, S3, raw, R, Bp, Cp, W⟩ := way P
  have tpos : 0 < val t := by have := P.t1; have := pw_pos (-20); grind
  have hg : gtF (ab t) (ab 0) = true := by rw [gtF_val P.ft zero_fnt, val0]; simpa using tpos
  unfold aheadF at ea eb ed
  rw [if_pos hg] at ea eb ed
  simp only at ea eb ed
  rw [Fnt.ab P.fa, Fnt.ab P.fb, Fnt.ab P.fc, Fnt.ab P.ft, Fnt.ab P.fq] at ea
  rw [Fnt.ab P.fb, Fnt.ab P.fc, Fnt.ab P.ft, Fnt.ab P.fq] at eb
  rw [Fnt.ab P.fc, Fnt.ab P.ft, Fnt.ab P.fq] at ed
  rw [W.e1, W.e9, W.e10, W.e2, W.e3, W.e11, W.e4, W.e5, W.e6, Fnt.ab three_fnt, W.e8, W.e12, ← Fnt.ab W.braw.f] at ea
  rw [W.e2, W.e13, W.e4, W.e5, Fnt.ab two_fnt, W.e7, W.e14] at eb
  rw [W.e4, W.e15] at ed
  obtain ⟨fa2, ra, a0, or⟩ := pos_val W.braw.f ea
  obtain rfl := of_ab eb
  obtain rfl := of_ab ed
  have aB : BN (Go.Fl.abs b) 100 := by
    have h1 := P.bB
    refine ⟨fin_abs P.fb, ?_, ?_⟩ <;> rw [vabs] <;> unfold absR <;> split <;> have := h1.hi <;> have := h1.lo <;> grind
  obtain ⟨tt', ett', btt, _, ztt, _⟩ := mulC P.tB P.tB (Or.inr P.t1) P.t1 (by omega) (by omega) (by omega)
  rw [Fnt.ab P.ft] at ett eg2 eg1
  obtain rfl := some_of ett ett'
  obtain ⟨g3', eg3', bg3, _, _, _⟩ := mulC btt P.cB ztt P.c1 (by omega) (by omega) (by omega)
  rw [Fnt.ab btt.f, Fnt.ab P.fc] at eg3
  obtain rfl := some_of eg3 eg3'
  obtain ⟨g2', eg2', bg2, _, _, _⟩ := mulC P.tB P.cB (Or.inr P.t1) P.c1 (by omega) (by omega) (by omega)
  rw [Fnt.ab P.fc] at eg2
  obtain rfl := some_of eg2 eg2'
  obtain ⟨g1', eg1'⟩ := bin_some_mul P.ft aB.f
  have bg1 := P.tB.mul aB (by omega) (by omega) eg1'
  rw [Fnt.ab aB.f] at eg1
  obtain rfl := some_of eg1 eg1'
  have ba2 : BN a2 330 := by
    rcases or with e | e
    · rw [e]; exact W.braw.mono (by omega)
    · rw [e]
      have := pw_pos 330
      exact ⟨zero_fnt, by rw [val0]; grind, by rw [val0]; grind⟩
  refine ⟨⟨ba2, W.bC.mono (by omega), P.aB.mono (by omega), bg3.mono (by omega), bg2.mono (by omega), bg1.mono (by omega)⟩, ?_⟩
  intro mx bm h1 h2 h3 h4 h5 h6 l p k5 k7 r el ep ek5 ek7 er
  obtain ⟨m0, s1, s2, s3⟩ := sure2 (m := val mx) P W ⟨h3, h1, h2, h4, h5, h6, bm.hi, ett', eg3', eg2', eg1'⟩ ra a0
  rw [Fnt.ab W.bB.f] at el
  rw [Fnt.ab fa2, Fnt.ab W.bC.f] at ep
  rw [Fnt.ab bm.f] at ek5 ek7
  rw [Fnt.ab tenth_fnt] at ek5
  obtain ⟨l', el'⟩ := bin_some_mul W.bB.f W.bB.f
  obtain rfl := some_of el el'
  obtain ⟨p', ep'⟩ := bin_some_mul fa2 W.bC.f
  obtain rfl := some_of ep ep'
  have m1 : pw (-100) ≤ val mx := Rat.le_trans P.a1 h3
  have bK : BN 4427486594234968593 0 := ⟨tenth_fnt, by rw [show pw 0 = 1 by decide +kernel]; have := tenth_val.2; grind, by rw [show pw 0 = 1 by decide +kernel]; have := tenth_val.1; grind⟩
  have lK : pw (-40) ≤ val 4427486594234968593 := by decide +kernel
  obtain ⟨k5', e3', b5, _, z5, _⟩ := mulC bK bm (Or.inr lK) m1 (by omega) (by omega) (by omega)
  obtain rfl := some_of ek5 e3'
  rw [Fnt.ab b5.f] at ek7
  obtain ⟨k7', e4', b7, _, _, _⟩ := mulC b5 bm z5 m1 (by omega) (by omega) (by omega)
  obtain rfl := some_of ek7 e4'
  have bp : Fnt p := (ba2.mul (W.bC.mono (show (140 : Int) ≤ 330 by omega)) (by omega) (by omega) ep').f
  obtain ⟨r', e5'⟩ := bin_some_add bp b7.f
  rw [Fnt.ab bp, Fnt.ab b7.f] at er
  obtain rfl := some_of er e5'
  obtain ⟨fl, fr, hle⟩ := sure3 bm.f m1 bm.hi W.bB.f fa2 W.bC.f a0 h1 W.n15 h2 s2 s3 s1 el' ep' e3' e4' e5'
  rw [ltF_val fl fr, eqF_val fl fr]
  by_cases e : val l = val r
  · right; simpa using e
  · left
    have : val l < val r := by grind
    simpa using this
end Go.Proofs.Ytdolfkgnehiecaa
