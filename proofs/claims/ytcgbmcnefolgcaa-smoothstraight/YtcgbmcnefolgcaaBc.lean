/- Line and Turns, the program's: the closures. -/
import Derived.Test.YtcgbmcnefolgcaaBb
namespace Go.Proofs.Ytcgbmcnefolgcaa
open Go.ChangeShapes Go.WideShapes Go.ChangeAt Go.RowKit Go.Fl Go.Sort
attribute [local go_sem] run_store_float call22 call54 run_neg fold_eq fold_ne fold_lt fold_gt abs_eq

def sqF (t m : Option Nat) : Option Nat := bin .mul (bin .sub t m) (bin .sub t m)
def crF (t m x q : Option Nat) : Option Nat := bin .mul (bin .sub t m) (bin .sub x q)
def slF (t t' x x' : Option Nat) : Option Nat := bin .quo (bin .sub x' x) (bin .sub t' t)
set_option maxHeartbeats 2000000 in
theorem t41 {w : World} {g gm m : Nat} {p : Option Addr} {n cap : Nat} {d : Array Nat} (h : SV w p n cap d) (hg : w.cell? ⟨g, 0, none⟩ = some (.slice p n cap)) (hm : w.cell? ⟨gm, 0, none⟩ = some (.float .f64 m)) {i : Nat} (hi : i < n) (hn : n ≤ 1000000) : Calls Try.prog 41 #[.int .i64 i, .pointer (some ⟨g, 0, none⟩), .pointer (some ⟨gm, 0, none⟩)] w (FR w (sqF (ab d[i]!) (ab m))) := by
  obtain ⟨b, o, rfl, hr⟩ := h.rd (by omega)
  have c0 := hr i (by rw [h.len]; exact hi)
  generalize d[i]! = x at *
  have z1 : (i : Int) < (n : Int) := by omega
  clear hr h
  go_enter Try.func41, Try.ntmps41
  go_wp2
  refine wp_region_sp 13 [.val (.slice (some ⟨b, o, none⟩) n cap), .val (.int .i64 i), .val (.pointer (some ⟨b, o + i, none⟩)), .val (.float .f64 x), .val (.float .f64 m), .fl (bin .sub (ab x) (ab m)), .val (.slice (some ⟨b, o, none⟩) n cap), .val (.int .i64 i), .val (.pointer (some ⟨b, o + i, none⟩)), .val (.float .f64 x), .val (.float .f64 m), .fl (bin .sub (ab x) (ab m)), .fl (bin .mul (bin .sub (ab x) (ab m)) (bin .sub (ab x) (ab m)))] (DrW _) (by kernel_rfl) (by decide) rfl (by kernel_rfl) ⟨good_bin _ _ _, good_bin _ _ _, good_bin _ _ _, trivial⟩ (DrW.start _) ?_
  intro rs hF
  obtain ⟨h5, h11, h12, _⟩ := hF
  simp only [List.take_succ_cons, List.take_zero, valsL, FillL, Act.put, List.setIfInBounds_toArray, List.set_cons_succ, List.set_cons_zero, Nat.zero_add, Nat.reduceAdd]
  refine ⟨⟨LoosO.is rfl (fun w hw => by obtain ⟨N, rfl⟩ := hw; go_simp),
    LoosO.is rfl (fun w hw => by obtain ⟨N, rfl⟩ := hw; go_simp),
    LoosO.is rfl (fun w hw => by obtain ⟨N, rfl⟩ := hw; go_simp),
    LoosO.is rfl (fun w hw => by obtain ⟨N, rfl⟩ := hw; go_simp),
    LoosO.is rfl (fun w hw => by obtain ⟨N, rfl⟩ := hw; go_simp),
    LoosO.st (DrW.on _) rfl rfl (Or.inr (Or.inl rfl)) x m rfl rfl rfl rfl,
    LoosO.is rfl (fun w hw => by obtain ⟨N, rfl⟩ := hw; go_simp),
    LoosO.is rfl (fun w hw => by obtain ⟨N, rfl⟩ := hw; go_simp),
    LoosO.is rfl (fun w hw => by obtain ⟨N, rfl⟩ := hw; go_simp),
    LoosO.is rfl (fun w hw => by obtain ⟨N, rfl⟩ := hw; go_simp),
    LoosO.is rfl (fun w hw => by obtain ⟨N, rfl⟩ := hw; go_simp),
    LoosO.st (DrW.on _) rfl rfl (Or.inr (Or.inl rfl)) x m rfl rfl rfl rfl,
    LoosO.st (DrW.on _) rfl rfl (Or.inr (Or.inr (Or.inl rfl))) (rs 5) (rs 11) rfl rfl h5.out h11.out, trivial⟩, ?_⟩
  rintro w9 ⟨N9, rfl⟩
  simp only [List.drop_succ_cons, List.drop_zero]
  go_wp2
  go_ret
  exact ⟨rs 12, _, rfl, (by rw [show w.drew = w.drewN 1 from rfl, World.drewN_drewN]), h12.out⟩
set_option maxHeartbeats 2000000 in
theorem t42 {w : World} {g gm m q qm k : Nat} {p p2 : Option Addr} {n cap cap2 : Nat} {d d2 : Array Nat} (h : SV w p n cap d) (hg : w.cell? ⟨g, 0, none⟩ = some (.slice p n cap)) (hm : w.cell? ⟨gm, 0, none⟩ = some (.float .f64 m)) (h2 : SV w p2 n cap2 d2) (hq : w.cell? ⟨q, 0, none⟩ = some (.slice p2 n cap2)) (hk : w.cell? ⟨qm, 0, none⟩ = some (.float .f64 k)) {i : Nat} (hi : i < n) (hn : n ≤ 1000000) : Calls Try.prog 42 #[.int .i64 i, .pointer (some ⟨g, 0, none⟩), .pointer (some ⟨gm, 0, none⟩), .pointer (some ⟨q, 0, none⟩), .pointer (some ⟨qm, 0, none⟩)] w (FR w (crF (ab d[i]!) (ab m) (ab d2[i]!) (ab k))) := by
  obtain ⟨b, o, rfl, hr⟩ := h.rd (by omega)
  have c0 := hr i (by rw [h.len]; exact hi)
  obtain ⟨b2, o2, rfl, hr2⟩ := h2.rd (by omega)
  have c2 := hr2 i (by rw [h2.len]; exact hi)
  generalize d[i]! = x at *
  generalize d2[i]! = x2 at *
  have z1 : (i : Int) < (n : Int) := by omega
  clear hr h hr2 h2
  go_enter Try.func42, Try.ntmps42
  go_wp2
  refine wp_region_sp 13 [.val (.slice (some ⟨b, o, none⟩) n cap), .val (.int .i64 i), .val (.pointer (some ⟨b, o + i, none⟩)), .val (.float .f64 x), .val (.float .f64 m), .fl (bin .sub (ab x) (ab m)), .val (.slice (some ⟨b2, o2, none⟩) n cap2), .val (.int .i64 i), .val (.pointer (some ⟨b2, o2 + i, none⟩)), .val (.float .f64 x2), .val (.float .f64 k), .fl (bin .sub (ab x2) (ab k)), .fl (bin .mul (bin .sub (ab x) (ab m)) (bin .sub (ab x2) (ab k)))] (DrW _) (by kernel_rfl) (by decide) rfl (by kernel_rfl) ⟨good_bin _ _ _, good_bin _ _ _, good_bin _ _ _, trivial⟩ (DrW.start _) ?_
  intro rs hF
  obtain ⟨h5, h11, h12, _⟩ := hF
  simp only [List.take_succ_cons, List.take_zero, valsL, FillL, Act.put, List.setIfInBounds_toArray, List.set_cons_succ, List.set_cons_zero, Nat.zero_add, Nat.reduceAdd]
  refine ⟨⟨LoosO.is rfl (fun w hw => by obtain ⟨N, rfl⟩ := hw; go_simp),
    LoosO.is rfl (fun w hw => by obtain ⟨N, rfl⟩ := hw; go_simp),
    LoosO.is rfl (fun w hw => by obtain ⟨N, rfl⟩ := hw; go_simp),
    LoosO.is rfl (fun w hw => by obtain ⟨N, rfl⟩ := hw; go_simp),
    LoosO.is rfl (fun w hw => by obtain ⟨N, rfl⟩ := hw; go_simp),
    LoosO.st (DrW.on _) rfl rfl (Or.inr (Or.inl rfl)) x m rfl rfl rfl rfl,
    LoosO.is rfl (fun w hw => by obtain ⟨N, rfl⟩ := hw; go_simp),
    LoosO.is rfl (fun w hw => by obtain ⟨N, rfl⟩ := hw; go_simp),
    LoosO.is rfl (fun w hw => by obtain ⟨N, rfl⟩ := hw; go_simp),
    LoosO.is rfl (fun w hw => by obtain ⟨N, rfl⟩ := hw; go_simp),
    LoosO.is rfl (fun w hw => by obtain ⟨N, rfl⟩ := hw; go_simp),
    LoosO.st (DrW.on _) rfl rfl (Or.inr (Or.inl rfl)) x2 k rfl rfl rfl rfl,
    LoosO.st (DrW.on _) rfl rfl (Or.inr (Or.inr (Or.inl rfl))) (rs 5) (rs 11) rfl rfl h5.out h11.out, trivial⟩, ?_⟩
  rintro w9 ⟨N9, rfl⟩
  simp only [List.drop_succ_cons, List.drop_zero]
  go_wp2
  go_ret
  exact ⟨rs 12, _, rfl, (by rw [show w.drew = w.drewN 1 from rfl, World.drewN_drewN]), h12.out⟩
set_option maxHeartbeats 2000000 in
theorem t48 {w : World} {g q : Nat} {p p2 : Option Addr} {n cap cap2 : Nat} {d d2 : Array Nat} (h : SV w p n cap d) (hg : w.cell? ⟨g, 0, none⟩ = some (.slice p n cap)) (h2 : SV w p2 n cap2 d2) (hq : w.cell? ⟨q, 0, none⟩ = some (.slice p2 n cap2)) {i : Nat} (hi : i + 1 < n) (hn : n ≤ 1000000) : Calls Try.prog 48 #[.int .i64 i, .pointer (some ⟨q, 0, none⟩), .pointer (some ⟨g, 0, none⟩)] w (FR w (slF (ab d[i]!) (ab d[i + 1]!) (ab d2[i]!) (ab d2[i + 1]!))) := by
  obtain ⟨b, o, rfl, hr⟩ := h.rd (by omega)
  have c0 := hr i (by rw [h.len]; omega)
  have c1 := hr (i + 1) (by rw [h.len]; exact hi)
  obtain ⟨b2, o2, rfl, hr2⟩ := h2.rd (by omega)
  have c2 := hr2 i (by rw [h2.len]; omega)
  have c3 := hr2 (i + 1) (by rw [h2.len]; exact hi)
  generalize d[i]! = x at *
  generalize d2[i]! = y at *
  generalize d[i + 1]! = x' at *
  generalize d2[i + 1]! = y' at *
  obtain ⟨j, hj⟩ : ∃ j, i + 1 = j := ⟨_, rfl⟩
  rw [hj] at c1 c3 hi
  have e1 : (i : Int) + 1 = (j : Int) := by omega
  have z1 : (j : Int) < (n : Int) := by omega
  have z2 : (i : Int) < (n : Int) := by omega
  have ew : IntKind.i64.wrap (j : Int) = (j : Int) := by rw [IntKind.wrap_i64]; omega
  clear hr h hr2 h2 hj
  go_enter Try.func48, Try.ntmps48
  go_wp2
  refine wp_region_sp 21 [.val (.slice (some ⟨b2, o2, none⟩) n cap2), .val (.int .i64 i), .val (.int .i64 j), .val (.pointer (some ⟨b2, o2 + j, none⟩)), .val (.float .f64 y'), .val (.slice (some ⟨b2, o2, none⟩) n cap2), .val (.int .i64 i), .val (.pointer (some ⟨b2, o2 + i, none⟩)), .val (.float .f64 y), .fl (bin .sub (ab y') (ab y)), .val (.slice (some ⟨b, o, none⟩) n cap), .val (.int .i64 i), .val (.int .i64 j), .val (.pointer (some ⟨b, o + j, none⟩)), .val (.float .f64 x'), .val (.slice (some ⟨b, o, none⟩) n cap), .val (.int .i64 i), .val (.pointer (some ⟨b, o + i, none⟩)), .val (.float .f64 x), .fl (bin .sub (ab x') (ab x)), .fl (bin .quo (bin .sub (ab y') (ab y)) (bin .sub (ab x') (ab x)))] (DrW _) (by kernel_rfl) (by decide) rfl (by kernel_rfl) ⟨good_bin _ _ _, good_bin _ _ _, good_bin _ _ _, trivial⟩ (DrW.start _) ?_
  intro rs hF
  obtain ⟨h9, h19, h20, _⟩ := hF
  simp only [List.take_succ_cons, List.take_zero, valsL, FillL, Act.put, List.setIfInBounds_toArray, List.set_cons_succ, List.set_cons_zero, Nat.zero_add, Nat.reduceAdd]
  refine ⟨⟨LoosO.is rfl (fun w hw => by obtain ⟨N, rfl⟩ := hw; go_simp),
    LoosO.is rfl (fun w hw => by obtain ⟨N, rfl⟩ := hw; go_simp),
    LoosO.is rfl (fun w hw => by obtain ⟨N, rfl⟩ := hw; go_simp),
    LoosO.is rfl (fun w hw => by obtain ⟨N, rfl⟩ := hw; go_simp),
    LoosO.is rfl (fun w hw => by obtain ⟨N, rfl⟩ := hw; go_simp),
    LoosO.is rfl (fun w hw => by obtain ⟨N, rfl⟩ := hw; go_simp),
    LoosO.is rfl (fun w hw => by obtain ⟨N, rfl⟩ := hw; go_simp),
    LoosO.is rfl (fun w hw => by obtain ⟨N, rfl⟩ := hw; go_simp),
    LoosO.is rfl (fun w hw => by obtain ⟨N, rfl⟩ := hw; go_simp),
    LoosO.st (DrW.on _) rfl rfl (Or.inr (Or.inl rfl)) y' y rfl rfl rfl rfl,
    LoosO.is rfl (fun w hw => by obtain ⟨N, rfl⟩ := hw; go_simp),
    LoosO.is rfl (fun w hw => by obtain ⟨N, rfl⟩ := hw; go_simp),
    LoosO.is rfl (fun w hw => by obtain ⟨N, rfl⟩ := hw; go_simp),
    LoosO.is rfl (fun w hw => by obtain ⟨N, rfl⟩ := hw; go_simp),
    LoosO.is rfl (fun w hw => by obtain ⟨N, rfl⟩ := hw; go_simp),
    LoosO.is rfl (fun w hw => by obtain ⟨N, rfl⟩ := hw; go_simp),
    LoosO.is rfl (fun w hw => by obtain ⟨N, rfl⟩ := hw; go_simp),
    LoosO.is rfl (fun w hw => by obtain ⟨N, rfl⟩ := hw; go_simp),
    LoosO.is rfl (fun w hw => by obtain ⟨N, rfl⟩ := hw; go_simp),
    LoosO.st (DrW.on _) rfl rfl (Or.inr (Or.inl rfl)) x' x rfl rfl rfl rfl,
    LoosO.st (DrW.on _) rfl rfl (Or.inr (Or.inr (Or.inr rfl))) (rs 9) (rs 19) rfl rfl h9.out h19.out, trivial⟩, ?_⟩
  rintro w9 ⟨N9, rfl⟩
  simp only [List.drop_succ_cons, List.drop_zero]
  go_wp2
  go_ret
  exact ⟨rs 20, _, rfl, (by rw [show w.drew = w.drewN 1 from rfl, World.drewN_drewN]), h20.out⟩
end Go.Proofs.Ytcgbmcnefolgcaa
