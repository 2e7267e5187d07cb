/- Scene: what the statements ask first. -/
import Derived.Test.YtflngnnoibkkoaaGreatCd
namespace Go.Proofs.YtflngnnoibkkoaaGreat
open Go.ChangeShapes Go.WideShapes Go.ChangeAt Go.RowKit Go.Fl Ieee
set_option maxRecDepth 200000
set_option maxHeartbeats 8000000
attribute [local go_sem] run_store_float run_store_c isSome_set call34 call33 run_neg fold_eq fold_ne fold_lt fold_gt abs_eq

/-- Rows, answered. -/
theorem row_ok {w : World} {cc vv rr n pc tm wd T cp E R N pg po tg : Nat} {seed : Int} {p : Option Addr} {fp : Nat → Nat × Nat} {f : Nat → Tg} (h0 : checkF (ab cc) (ab vv) (ab rr) (E : Int) (R : Int) = 0) (hN : R * E = N) (hn1 : 1 ≤ n) (hm : muchF T R n = false) (h3 : (fin (ab tm) && fin (ab wd)) = true) (h4 : ltF (ab wd) (ab 0) = false) (hp : RD w pg po n fp)
    (ht : TL w tg T f) (htp : 0 < T → p = some ⟨tg, 0, none⟩) (hf : ∀ i, i < T → finT (f i) = true) :
    Calls Tryz.prog 29 #[.agg #[.float .f64 cc, .float .f64 vv, .float .f64 rr, .int .i64 E, .int .i64 R], .slice (some ⟨pg, po, none⟩) n pc, .slice p T cp, .float .f64 tm, .float .f64 wd, .int .u64 seed] w (OKT w R E (fun k g => finalS ⟨cc, vv, rr, E, R⟩ f tm n N (fun i => ab2 (fp i)) T wd seed (k * E + g))) := by
  have hm' := hm
  unfold muchF at hm'
  simp at hm'
  obtain ⟨⟨hT, hn2⟩, _⟩ := hm'
  have hck := h0
  unfold checkF at hck
  split at hck
  · rename_i hb
    obtain ⟨g1, g2, g3, e1, e2, r1, r2⟩ := hb
    have hN2 : N ≤ 262144 := by
      rw [← hN]
      have e : ((R * E : Nat) : Int) = (E : Int) * (R : Int) := by rw [Int.natCast_mul, Int.mul_comm]
      by_cases hgt : (E : Int) * (R : Int) > 262144
      · rw [if_pos hgt] at hck; cases hck
      · omega
    refine t29 (fun W hW => ?_) g1 g2 (by omega) (by omega) (by omega) hN hN2 hn1 hn2 hT hp ht htp (fun i hi => by
      have q := hf i hi
      simp only [finT, fin4F, Bool.and_eq_true] at q
      exact q.2.2.2)
    have e : refF 0 (decide (n = 0)) (muchF T R n) true false true = 0 := by
      rw [hm, decide_eq_false (by omega)]; rfl
    rw [← e]
    refine t54 h0 (by omega) (by omega) h3 h4 fun _ w' hu' => ?_
    rcases Nat.eq_zero_or_pos T with rfl | hp0
    · exact t88z _ _ _
    · rw [htp hp0]
      exact all_fin ht (by omega) hf w' (hW.trans hu')
  · cases hck
def p2 : List (Nat × Nat) := [(4607182418800017408, 0), (4607182418800017408, 0)]
def k1 : List (Nat × Nat) := [(0, 0), (0, 0), (0, 0), (4607182418800017408, 0), (4607182418800017408, 0), (0, 0), (0, 0), (0, 0), (0, 0), (0, 0), (0, 0), (4607182418800017408, 0), (4607182418800017408, 0), (0, 0), (0, 0), (0, 0)]
def k2 : List (Nat × Nat) := [(0, 0), (0, 0), (0, 0), (4611686018427387904, 0), (4611686018427387904, 0), (0, 0), (0, 0), (0, 0), (0, 0), (0, 0), (0, 0), (4611686018427387904, 0), (4611686018427387904, 0), (0, 0), (0, 0), (0, 0)]
def k3 : List (Nat × Nat) := [(13830558752551049776, 4608684551068439744), (4602848713819600392, 13829467918653838968), (13823248695234237888, 4604715686661395728), (4601722161429101120, 13816669062821602752), (4608962639542601248, 4610445780615190228), (4607781139877813552, 13828392264417234552), (4607266093971153024, 13831293102400434700), (13832564226928140736, 4611537902845789580), (13828623622671413008, 13827284867873513800), (13827843526635211696, 13810950849017655040), (13829960480008595576, 13833010185991751984), (13822068835359376912, 13822262199738139184), (4608813006974432080, 4598192854152445584), (4594767440219657536, 13826569700653569440), (4603288333978638816, 4603484288820972616), (13835247248069406440, 13835350638895646107)]
end Go.Proofs.YtflngnnoibkkoaaGreat
