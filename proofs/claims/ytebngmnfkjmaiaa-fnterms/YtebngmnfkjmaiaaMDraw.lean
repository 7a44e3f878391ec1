/- The draws of terms, and the law on terms: whatever is drawn, it answers true. -/
import Derived.Test.YtebngmnfkjmaiaaMTerm
import Derived.Deep.RegionWith
namespace Go.Proofs.Ytebngmnfkjmaiaa
open Go.RowKit
set_option linter.unusedVariables false
set_option linter.unusedSimpArgs false

abbrev skewObj : Obj := .cells #[.int .i64 0, .int .i64 60, .int .i64 60, .int .i64 86400, .int .i64 86401, .int .i64 (-1)] 2 (0, 0)
abbrev endObj : Obj := .cells #[.int .i64 3155759999, .int .i64 3155760000, .int .i64 (-1), .int .i64 4611686018427387904] 2 (0, 0)
abbrev nowObj (p q r s : Int) : Obj := .cells #[.int .i64 p, .int .i64 q, .int .i64 r, .int .i64 s, .int .i64 (-1)] 2 (0, 0)

def skews (x : Nat) : Int := [0, 60, 60, 86400, 86401, -1].getD x 0
def ends (x : Nat) : Int := [3155759999, 3155760000, -1, 4611686018427387904].getD x 0
def nows (p q r s : Int) (x : Nat) : Int := [p, q, r, s, -1].getD x 0

theorem skews_at (w : World) (B x : Nat) (hx : x < 6) (h : w.heap[B]? = some skewObj) : w.cell? ⟨B, x, none⟩ = some (.int .i64 (skews x)) := by
  rw [Lib.cell_of_heap h]
  rcases (show x = 0 ∨ x = 1 ∨ x = 2 ∨ x = 3 ∨ x = 4 ∨ x = 5 from by omega) with rfl | rfl | rfl | rfl | rfl | rfl
  all_goals rfl

theorem ends_at (w : World) (B x : Nat) (hx : x < 4) (h : w.heap[B]? = some endObj) : w.cell? ⟨B, x, none⟩ = some (.int .i64 (ends x)) := by
  rw [Lib.cell_of_heap h]
  rcases (show x = 0 ∨ x = 1 ∨ x = 2 ∨ x = 3 from by omega) with rfl | rfl | rfl | rfl
  all_goals rfl

theorem nows_at (p q r s : Int) (w : World) (B x : Nat) (hx : x < 5) (h : w.heap[B]? = some (nowObj p q r s)) : w.cell? ⟨B, x, none⟩ = some (.int .i64 (nows p q r s x)) := by
  rw [Lib.cell_of_heap h]
  rcases (show x = 0 ∨ x = 1 ∨ x = 2 ∨ x = 3 ∨ x = 4 from by omega) with rfl | rfl | rfl | rfl | rfl
  all_goals rfl

set_option maxHeartbeats 4000000 in
theorem cDraw15 (w0 : World) (a : Option Addr) (len cap b : Nat) (w : World) (hlen : len ≤ 4096) (hcr : CodeRow w0 a len) (hC : Cur w0 a len cap b w) :
    Calls Try.prog 17 #[.pointer (some ⟨b, 0, none⟩)] w fun e w' => ∃ x y z : Int, e = .returned (.tuple #[.int .i64 x, .int .i64 y, .int .i64 z]) ∧ Cur w0 a len cap b w' := by
  have HR := hidM hcr
  have HC := hidM hC
  clear hcr hC
  go_enter Try.func17, Try.ntmps17
  go_wp2_with fail
  refine (cBelowBig 400 w0 a len cap b _ hlen HR.out HC.out (by decide) (by decide)).mono ?_
  rintro e w1 ⟨x, rfl, hx, hC1, _⟩
  have HC1 := hidM hC1
  clear hC1
  go_wp2_with fail
  refine (cBelow 200 w0 a len cap b _ hlen HR.out HC1.out (by decide) (by decide)).mono ?_
  rintro e w2 ⟨y, rfl, hy, hC2, _⟩
  have HC2 := hidM hC2
  clear hC2
  have hxy : IntKind.i64.wrap ((x : Int) + (y : Int)) = (x : Int) + (y : Int) := IntWalk.i64_in _ (by omega)
  go_wp2_with fail
  have hbl : b < w2.heap.size := HC2.out.lt
  refine (cBelow 6 w0 a len cap b _ hlen HR.out (HC2.out.alloc _) (by decide) (by decide)).mono ?_
  rintro e w3 ⟨z, rfl, hz, hC3, hG3⟩
  have hcell := skews_at w3 w2.heap.size z hz ((hG3.block w2.heap.size (by show w2.heap.size < (w2.alloc skewObj).heap.size; simp) (by simp; omega)).trans (heap_alloc_new w2 _))
  have hzi : (z : Int) < 6 := by omega
  have HC3 := hidM hC3
  clear hC3 hG3
  go_wp2_with fail
  refine (cOnce 8 w0 a len cap b _ hlen HR.out HC3.out (by decide) (by decide)).mono ?_
  rintro e w4 ⟨k, rfl, hC4, _⟩
  have HC4 := hidM hC4
  clear hC4 hcell
  have hbl4 : b < w4.heap.size := HC4.out.lt
  cases k
  · go_wp2_with fail
    go_ret3
    exact ⟨_, _, _, rfl, HC4.out⟩
  · go_wp2_with fail
    refine (cBelow 4 w0 a len cap b _ hlen HR.out (HC4.out.alloc _) (by decide) (by decide)).mono ?_
    rintro e w5 ⟨u, rfl, hu, hC5, hG5⟩
    have hcell := ends_at w5 w4.heap.size u hu ((hG5.block w4.heap.size (by show w4.heap.size < (w4.alloc endObj).heap.size; simp) (by simp; omega)).trans (heap_alloc_new w4 _))
    have hui : (u : Int) < 4 := by omega
    have HC5 := hidM hC5
    clear hC5 hG5
    go_wp2_with fail
    go_ret3
    exact ⟨_, _, _, rfl, HC5.out⟩

theorem results_tmp4 {fn : Func} {t u v x : Tmp} (h : fn.results = #[.tmp t, .tmp u, .tmp v, .tmp x]) (tmps : Array Value) (P : Program) (w : World) :
    (results fn tmps).run P w = .ok (.tuple #[tmps.getD t undef, tmps.getD u undef, tmps.getD v undef, tmps.getD x undef]) w := by
  simp [results, h]

set_option maxHeartbeats 4000000 in
theorem cDrawWithin (a : Option Addr) (len cap : Nat) (w : World) (hlen : len ≤ 4096) (hcr : CodeRow w a len) :
    Calls Try.prog 8 #[.slice a len cap] w fun e w' => ∃ x y n z : Int, e = .returned (.tuple #[.int .i64 x, .int .i64 y, .int .i64 n, .int .i64 z]) ∧ Below w.heap.size w w' := by
  have HR := hidM hcr
  clear hcr
  go_enter Try.func8, Try.ntmps8
  go_wp2_with fail
  refine (cNew a len cap _ hlen HR.out).mono ?_
  rintro e w1 ⟨rfl, hC1⟩
  have HC1 := hidM hC1
  clear hC1
  go_wp2_with fail
  refine (cDraw15 w a len cap _ _ hlen HR.out HC1.out).mono ?_
  rintro e w2 ⟨x, y, z, rfl, hC2⟩
  have HC2 := hidM hC2
  clear hC2
  go_wp2_with fail
  refine (cBelowBig 300 w a len cap _ _ hlen HR.out HC2.out (by decide) (by decide)).mono ?_
  rintro e w3 ⟨m, rfl, hm, hC3, _⟩
  have HC3 := hidM hC3
  clear hC3
  obtain ⟨q1, hq1⟩ : ∃ q, IntKind.i64.wrap (x + (m : Int)) = q := ⟨_, rfl⟩
  obtain ⟨q2, hq2⟩ : ∃ q, IntKind.i64.wrap (q1 - 80) = q := ⟨_, rfl⟩
  go_wp2_with fail
  refine (cOnce 3 w a len cap _ _ hlen HR.out HC3.out (by decide) (by decide)).mono ?_
  rintro e w4 ⟨k, rfl, hC4, _⟩
  have HC4 := hidM hC4
  clear hC4 hq1 hq2
  have hbl4 : w.heap.size < w4.heap.size := HC4.out.lt
  cases k
  · go_wp2_with fail
    (try simp only [Exit.inBlock, Exit.then]); refine bodyPost_ret (results_tmp4 rfl _ _ _) rfl ?_
    exact ⟨_, _, _, _, rfl, HC4.out.2.1⟩
  · obtain ⟨p1, hp1⟩ : ∃ q, IntKind.i64.wrap (x - z) = q := ⟨_, rfl⟩
    obtain ⟨p2, hp2⟩ : ∃ q, IntKind.i64.wrap (y + z) = q := ⟨_, rfl⟩
    obtain ⟨p3, hp3⟩ : ∃ q, IntKind.i64.wrap (p2 - 1) = q := ⟨_, rfl⟩
    obtain ⟨p4, hp4⟩ : ∃ q, IntKind.i64.wrap (p1 - 1) = q := ⟨_, rfl⟩
    go_wp2_with fail
    refine (cBelow 5 w a len cap _ _ hlen HR.out (HC4.out.alloc _) (by decide) (by decide)).mono ?_
    rintro e w5 ⟨u, rfl, hu, hC5, hG5⟩
    have hcell := nows_at p1 p2 p3 p4 w5 w4.heap.size u hu ((hG5.block w4.heap.size (by show w4.heap.size < (w4.alloc (nowObj p1 p2 p3 p4)).heap.size; simp) (by simp; omega)).trans (heap_alloc_new w4 _))
    have hui : (u : Int) < 5 := by omega
    have HC5 := hidM hC5
    clear hC5 hG5 hp1 hp2 hp3 hp4
    go_wp2_with fail
    (try simp only [Exit.inBlock, Exit.then]); refine bodyPost_ret (results_tmp4 rfl _ _ _) rfl ?_
    exact ⟨_, _, _, _, rfl, HC5.out.2.1⟩

theorem cDrawPast (a : Option Addr) (len cap : Nat) (w : World) (hlen : len ≤ 4096) (hcr : CodeRow w a len) :
    Calls Try.prog 12 #[.slice a len cap] w fun e w' => ∃ y n z : Int, e = .returned (.tuple #[.int .i64 y, .int .i64 n, .int .i64 z]) ∧ Below w.heap.size w w' := by
  have HR := hidM hcr
  clear hcr
  go_enter Try.func12, Try.ntmps12
  go_wp2_with fail
  refine (cDrawWithin a len cap _ hlen HR.out).mono ?_
  rintro e w1 ⟨x, y, n, z, rfl, hb⟩
  have HB := hidM hb
  clear hb
  go_wp2_with fail
  go_ret3
  exact ⟨_, _, _, rfl, HB.out⟩

theorem wit_past (a b n s : Int) (h : witB a b n s = true) : pasB b n s = false := by
  unfold witB at h
  unfold pasB
  simp only [Bool.and_eq_true, decide_eq_true_eq] at h
  obtain ⟨⟨h1, h2, h3, h4⟩, h5, h6⟩ := h
  unfold widB at h6 ⊢
  rw [h1, h2, h3] at h6
  rw [h1, h3, h4]
  simp at h6 ⊢
  exact h6

theorem later_is (t d : Int) (h : tmB t = true) (h0 : -86400 ≤ d) (h1 : d ≤ 86400) : laterOf t d = if t + d < 0 then 0 else if 3155759999 < t + d then 3155759999 else t + d := by
  have h' : 0 ≤ t ∧ t ≤ 3155759999 := of_decide_eq_true h
  unfold laterOf
  rw [if_pos ⟨h', by omega, by omega⟩]

theorem wit_more (a b n s : Int) (h : witB a b n s = true) (hs : s < 86400) : witB a b n (s + 1) = true := by
  unfold witB at h ⊢
  simp only [Bool.and_eq_true, decide_eq_true_eq] at h ⊢
  obtain ⟨⟨h1, h2, h3, h4⟩, h5, h6⟩ := h
  have hs' := of_decide_eq_true h1
  have h1' : skB (s + 1) = true := decide_eq_true (by omega)
  unfold widA at h5 ⊢
  unfold widB at h6 ⊢
  rw [h1, h2, h3] at h5 h6
  rw [h1', h2, h3]
  simp only [Bool.and_self, if_true] at h5 h6 ⊢
  refine ⟨⟨trivial, trivial, trivial, h4⟩, ?_, ?_⟩
  · rw [later_is _ _ h2 (by omega) (by omega)] at h5 ⊢
    have := of_decide_eq_true h2
    have := of_decide_eq_true h4
    repeat' split at h5
    all_goals repeat' split
    all_goals omega
  · rw [later_is _ _ h3 (by omega) (by omega)] at h6 ⊢
    have := of_decide_eq_true h3
    have := of_decide_eq_true h4
    repeat' split at h6
    all_goals repeat' split
    all_goals omega

theorem wid_neg (a b n s : Int) (h : widA a b s < 0) : widB a b s = -1 ∧ witB a b n s = false := by
  have h1 := wid_nn a b s
  have h2 : ¬ (skB s && (tmB a && tmB b)) = true := fun e => by have := h1.1.2 e; omega
  refine ⟨?_, ?_⟩
  · unfold widB
    rw [if_neg h2]
  · rw [wit_is, decide_eq_false (by omega)]
    simp

theorem wid_pos (a b n s : Int) (h : ¬ widA a b s < 0) : widA a b s ≤ a ∧ b ≤ widB a b s ∧ (witB a b n s = true → widA a b s ≤ n ∧ n < widB a b s) := by
  have h1 := (wid_nn a b s).1.1 (by omega)
  refine ⟨?_, ?_, ?_⟩
  · unfold widA
    rw [if_pos h1]
    simp only [Bool.and_eq_true] at h1
    have hs := of_decide_eq_true h1.1
    have := of_decide_eq_true h1.2.1
    rw [later_is _ _ h1.2.1 (by omega) (by omega)]
    repeat' split
    all_goals omega
  · unfold widB
    rw [if_pos h1]
    simp only [Bool.and_eq_true] at h1
    have hs := of_decide_eq_true h1.1
    have := of_decide_eq_true h1.2.2
    rw [later_is _ _ h1.2.2 (by omega) (by omega)]
    repeat' split
    all_goals omega
  · intro h2
    unfold witB at h2
    simp only [Bool.and_eq_true, decide_eq_true_eq] at h2
    exact h2.2

theorem wit_sk (a b n s : Int) (h : witB a b n s = true) : 0 ≤ s ∧ s ≤ 86400 := by
  unfold witB at h
  simp only [Bool.and_eq_true] at h
  exact of_decide_eq_true h.1.1

end Go.Proofs.Ytebngmnfkjmaiaa
