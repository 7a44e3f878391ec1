/- A claim that is handed in: contracts of the laws' szClaim, toClaim, eqClaim, and how its argument is opened. How a claim that is handed in is opened. The tree of a claim, as a function of its fields. -/
import Derived.Test.YtcjeodgfpnecgaaGreatDoorM12
import Derived.Test.YtcjeodgfpnecgaaGreatDoorM2
import Derived.Test.YtcjeodgfpnecgaaGreatDoorM11
import Derived.ProofKit
import Derived.OpenShut
import Derived.Lib.SmallJoins
namespace Go.Proofs.YtcjeodgfpnecgaaGreatDoor
open Go.RowKit
set_option linter.unusedVariables false
set_option linter.unusedSimpArgs false

set_option maxHeartbeats 4000000 in
theorem cSzClaim (c : Cm) (a : Option Addr) (cap : Nat) (w : World) (hR : AtRow w a c.facts) (hz : CmSz maxLen c) :
    Calls Tryz.prog 4 #[cmV c a cap, .int .i64 1048576] w fun e w' => ∃ r : Int, e = .returned (.int .i64 r) ∧ (r = -1 ∨ 0 ≤ r ∧ CmSz 1048576 c) ∧ Below w.heap.size w w' := by
  obtain ⟨z1, z2, z3, z4, z5, z6, z7⟩ := hz
  have CA := hid (fun (L : Nat) (hL : L ≤ 1048576) wx (h : Below w.heap.size w wx) => cSzAttrS a cap c.facts L wx (hR.below h) z7 z6 hL)
  unfold maxLen at z1 z2 z3 z4 z5
  have HX := hid (ClBox.new w c (.slice a c.facts.length cap) 24)
  have HB0 := hid ((Below.refl w.heap.size w).alloc (Nat.le_refl _) (.cells #[.string c.id, .string c.iss, .string c.sub, .int .i64 c.frm, .int .i64 c.til, .string c.whom, .string c.ans, .slice a c.facts.length cap] 24))
  unfold cmV
  obtain ⟨w0, hw0⟩ : ∃ w0, w.alloc (.cells #[.string c.id, .string c.iss, .string c.sub, .int .i64 c.frm, .int .i64 c.til, .string c.whom, .string c.ans, .slice a c.facts.length cap] 24) = w0 := ⟨_, rfl⟩
  rw [hw0] at HX HB0
  have HFZ : Hid (∀ L : Nat, L ≤ 1048576 → AtSz L c.facts → AtSz 1048576 c.facts) := fun L hL h x hx => ⟨Nat.le_trans (h x hx).1 hL, Nat.le_trans (h x hx).2 hL⟩
  have HCZ : Hid (c.id.size ≤ 1048576 → c.iss.size ≤ 1048576 → c.sub.size ≤ 1048576 → c.whom.size ≤ 1048576 → c.ans.size ≤ 1048576 → c.facts.length ≤ 1048576 → AtSz 1048576 c.facts → CmSz 1048576 c) := fun h1 h2 h3 h4 h5 h6 h7 => ⟨h1, h2, h3, h4, h5, h6, h7⟩
  obtain ⟨B, hB⟩ : ∃ B, w.heap.size = B := ⟨_, rfl⟩
  rw [hB] at HX
  obtain ⟨f0, f1, f2, f3, f4, f5, f6, f7⟩ := And.intro HX.out.c0 (And.intro HX.out.c1 (And.intro HX.out.c2 (And.intro HX.out.c3 (And.intro HX.out.c4 (And.intro HX.out.c5 (And.intro HX.out.c6 HX.out.c7))))))
  clear hR z6 z7
  generalize c.id = s1 at *
  generalize c.iss = s2 at *
  generalize c.sub = s3 at *
  generalize c.whom = s4 at *
  generalize c.ans = s5 at *
  generalize c.facts.length = n at *
  by_cases h1 : (1048576 : Int) - s1.size < 0
  · go_enter Tryz.func4, Tryz.ntmps4
    go_wp2_with fail
    go_ret
    exact ⟨-1, rfl, .inl rfl, hB ▸ HB0.out⟩
  by_cases h2 : (1048576 : Int) - s1.size - s2.size < 0
  · go_enter Tryz.func4, Tryz.ntmps4
    go_wp2_with fail
    go_ret
    exact ⟨-1, rfl, .inl rfl, hB ▸ HB0.out⟩
  by_cases h3 : (1048576 : Int) - s1.size - s2.size - s3.size < 0
  · go_enter Tryz.func4, Tryz.ntmps4
    go_wp2_with fail
    go_ret
    exact ⟨-1, rfl, .inl rfl, hB ▸ HB0.out⟩
  by_cases h4 : (1048576 : Int) - s1.size - s2.size - s3.size - s4.size < 0
  · go_enter Tryz.func4, Tryz.ntmps4
    go_wp2_with fail
    go_ret
    exact ⟨-1, rfl, .inl rfl, hB ▸ HB0.out⟩
  by_cases h5 : (1048576 : Int) - s1.size - s2.size - s3.size - s4.size - s5.size < 0
  · go_enter Tryz.func4, Tryz.ntmps4
    go_wp2_with fail
    go_ret
    exact ⟨-1, rfl, .inl rfl, hB ▸ HB0.out⟩
  obtain ⟨M, hM⟩ : ∃ M : Nat, (1048576 : Int) - s1.size - s2.size - s3.size - s4.size - s5.size = (M : Int) := ⟨((1048576 : Int) - s1.size - s2.size - s3.size - s4.size - s5.size).toNat, by omega⟩
  have hM2 : M ≤ 1048576 := by omega
  have CA1 := hid (CA.out M hM2)
  have HCZ2 := hid (HCZ.out (by omega) (by omega) (by omega) (by omega) (by omega))
  clear CA
  go_enter Tryz.func4, Tryz.ntmps4
  go_wp2_with fail
  refine (CA1.out _ HB0.out).mono ?_
  rintro e w1 ⟨r, rfl, hr, hb1⟩
  have HB1 := hid (bb HB0.out hb1)
  clear hb1 hw0 f0 f1 f2 f3 f4 f5 f6 f7
  rcases hr with rfl | ⟨h0, _, hl, hz⟩
  · go_wp2_with fail
    go_ret
    exact ⟨-1, rfl, .inl rfl, hB ▸ HB1.out⟩
  · have hd2 : decide (r < 0) = false := by simp; omega
    have HFI := hid (HCZ2.out (by omega) (HFZ.out M hM2 hz))
    clear hz
    go_wp2_with fail
    go_ret
    exact ⟨r, rfl, .inr ⟨h0, HFI.out⟩, hB ▸ HB1.out⟩

theorem box8 {w : World} {g : Nat} {v0 v1 v2 v3 v4 v5 v6 v7 : Value} {T : TypeId} (h : w.heap[g]? = some (.cells #[v0, v1, v2, v3, v4, v5, v6, v7] T (0, 0))) :
    (w.cell? ⟨g, 0, none⟩ = some v0 ∧ w.cell? ⟨g, 1, none⟩ = some v1 ∧ w.cell? ⟨g, 2, none⟩ = some v2 ∧ w.cell? ⟨g, 3, none⟩ = some v3 ∧ w.cell? ⟨g, 4, none⟩ = some v4 ∧ w.cell? ⟨g, 5, none⟩ = some v5 ∧ w.cell? ⟨g, 6, none⟩ = some v6 ∧ w.cell? ⟨g, 7, none⟩ = some v7) ∧ (w.frozen? ⟨g, 0, none⟩ = false ∧ w.frozen? ⟨g, 1, none⟩ = false ∧ w.frozen? ⟨g, 2, none⟩ = false ∧ w.frozen? ⟨g, 3, none⟩ = false ∧ w.frozen? ⟨g, 4, none⟩ = false ∧ w.frozen? ⟨g, 5, none⟩ = false ∧ w.frozen? ⟨g, 6, none⟩ = false ∧ w.frozen? ⟨g, 7, none⟩ = false) :=
  ⟨⟨by rw [Lib.cell_of_heap h]; rfl, by rw [Lib.cell_of_heap h]; rfl, by rw [Lib.cell_of_heap h]; rfl, by rw [Lib.cell_of_heap h]; rfl, by rw [Lib.cell_of_heap h]; rfl, by rw [Lib.cell_of_heap h]; rfl, by rw [Lib.cell_of_heap h]; rfl, by rw [Lib.cell_of_heap h]; rfl⟩, Lib.frozen_of_heap h 0, Lib.frozen_of_heap h 1, Lib.frozen_of_heap h 2, Lib.frozen_of_heap h 3, Lib.frozen_of_heap h 4, Lib.frozen_of_heap h 5, Lib.frozen_of_heap h 6, Lib.frozen_of_heap h 7⟩

set_option maxRecDepth 16000 in
set_option maxHeartbeats 8000000 in
theorem cToClaimC (c : Cm) (a : Option Addr) (cap : Nat) (w : World) (hR : AtRow w a c.facts) (hn : c.facts.length ≤ 1048576) :
    Calls Tryz.prog 6 #[cmV c a cap] w fun e w' => ∃ g cu, w.heap.size ≤ g ∧ e = .returned (cmV c (some ⟨g, 0, none⟩) c.facts.length) ∧ w'.heap[g]? = some (.cells cu 58 (0, 0)) ∧ AtCells cu 0 c.facts ∧ Below w.heap.size w w' := by
  obtain ⟨s1, s2, s3, x4, x5, s6, s7, l⟩ := c
  simp only at hR hn
  simp only [cmV]
  obtain ⟨b1, b2, b3⟩ := heap3 w (.cells #[.string s1, .string s2, .string s3, .int .i64 x4, .int .i64 x5, .string s6, .string s7, .slice a l.length cap] 24) (.cells #[.string ⟨#[]⟩, .string ⟨#[]⟩, .string ⟨#[]⟩, .int .i64 0, .int .i64 0, .string ⟨#[]⟩, .string ⟨#[]⟩, .slice none 0 0] 31) (.cells #[.string s1, .string s2, .string s3, .int .i64 x4, .int .i64 x5, .string s6, .string s7, .slice none 0 0] 31)
  have HB0 := hid ((((Below.refl w.heap.size w).alloc (Nat.le_refl _) (.cells #[.string s1, .string s2, .string s3, .int .i64 x4, .int .i64 x5, .string s6, .string s7, .slice a l.length cap] 24)).alloc (by simp) (.cells #[.string ⟨#[]⟩, .string ⟨#[]⟩, .string ⟨#[]⟩, .int .i64 0, .int .i64 0, .string ⟨#[]⟩, .string ⟨#[]⟩, .slice none 0 0] 31)).alloc (by simp; omega) (.cells #[.string s1, .string s2, .string s3, .int .i64 x4, .int .i64 x5, .string s6, .string s7, .slice none 0 0] 31))
  have HR := hid (hR.below HB0.out)
  have C := fun (w : World) (hR : AtRow w a l) => cToAttrS2 a cap l w hR hn
  have H1 := hid b1
  have H2 := hid b2
  have H3 := hid b3
  clear b1 b2 b3 hR
  obtain ⟨n, hn⟩ : ∃ n, l.length = n := ⟨_, rfl⟩
  rw [hn] at C HR HB0 H1 H2 H3 ⊢
  clear hn
  go_enter Tryz.func6, Tryz.ntmps6
  go_wp2_with fail
  refine (C _ HR.out).mono ?_
  rintro e w1 ⟨g, cu, hg, rfl, hG1, hR1, hb1⟩
  have HR1 := hid hR1
  have HG1 := hid hG1
  have HB1 := hid (bb HB0.out hb1)
  obtain ⟨⟨x0, x1, x2, x3, p4, p5, x6, x7⟩, _⟩ := box8 (blk_below H1.out hb1)
  obtain ⟨⟨y0, y1, y2, y3, y4, y5, y6, y7⟩, yf0, yf1, yf2, yf3, yf4, yf5, yf6, yf7⟩ := box8 (blk_below H2.out hb1)
  obtain ⟨⟨z0, z1, z2, z3, z4, z5, z6, z7⟩, zf0, zf1, zf2, zf3, zf4, zf5, zf6, zf7⟩ := box8 (blk_below H3.out hb1)
  have hgw : w.heap.size + 3 ≤ g := by simpa using hg
  clear hR1 hG1 hb1 HB0 HR H1 H2 H3 C hg
  go_wp2_with fail
  refine bodyPost_ret (v := .agg #[.string s1, .string s2, .string s3, .int .i64 x4, .int .i64 x5, .string s6, .string s7, .slice (some ⟨g, 0, none⟩) n n]) (by simp [results, Tryz.results6, go_sem, x0, x1, x2, x3, p4, p5, x6, x7, y0, y1, y2, y3, y4, y5, y6, y7, z0, z1, z2, z3, z4, z5, z6, z7]) rfl ⟨g, cu, by omega, rfl, ?_, HR1.out, ?_⟩
  · iterate 9 refine (Below.heap_setCell _ _ _ _ (by simp; omega)).trans ?_
    exact HG1.out
  · iterate 9 refine Below.setCell ?_ (by simp; try omega) _
    exact HB1.out

theorem cToClaim (c : Cm) (a : Option Addr) (cap : Nat) (w : World) (hR : AtRow w a c.facts) (hn : c.facts.length ≤ 1048576) :
    Calls Tryz.prog 6 #[cmV c a cap] w fun e w' => ∃ g, w.heap.size ≤ g ∧ e = .returned (cmV c (some ⟨g, 0, none⟩) c.facts.length) ∧ AtRow w' (some ⟨g, 0, none⟩) c.facts ∧ Below w.heap.size w w' :=
  (cToClaimC c a cap w hR hn).mono fun _ _ ⟨g, cu, h1, h2, h3, h4, h5⟩ => ⟨g, h1, h2, h4.atRow h3, h5⟩

set_option maxHeartbeats 4000000 in
theorem cEqClaim (c : Cm) (a b : Option Addr) (ca cb : Nat) (w : World) (hR : AtRow w a c.facts) (hS : AtRow w b c.facts) (hz : AtSz 1048576 c.facts) (hn : c.facts.length ≤ 1048576) :
    Calls Tryz.prog 9 #[cmV c a ca, cmV c b cb] w fun e w' => e = .returned (.bool true) ∧ Below w.heap.size w w' := by
  have CE := hid (fun wx (h : Below w.heap.size w wx) => cEqAttrS a b ca cb c.facts wx (hR.below h) (hS.below h) hz hn)
  obtain ⟨s1, s2, s3, x4, x5, s6, s7, l⟩ := c
  simp only at CE hn
  simp only [cmV]
  clear hR hS hz
  generalize l.length = n at *
  have HB0 := hid (((Below.refl w.heap.size w).alloc (Nat.le_refl _) (.cells #[.string s1, .string s2, .string s3, .int .i64 x4, .int .i64 x5, .string s6, .string s7, .slice a n ca] 31)).alloc (by simp) (.cells #[.string s1, .string s2, .string s3, .int .i64 x4, .int .i64 x5, .string s6, .string s7, .slice b n cb] 31))
  have e1 : (s1.toList != s1.toList) = false := by simp
  have e2 : (s2.toList != s2.toList) = false := by simp
  have e3 : (s3.toList != s3.toList) = false := by simp
  have e4 : (x4 != x4) = false := by simp
  have e5 : (x5 != x5) = false := by simp
  have e6 : (s6.toList != s6.toList) = false := by simp
  have e7 : (s7.toList != s7.toList) = false := by simp
  go_enter Tryz.func9, Tryz.ntmps9
  go_wp2_with fail
  refine (CE.out _ HB0.out).mono ?_
  rintro e w1 ⟨rfl, hb1⟩
  have HB1 := hid (bb HB0.out hb1)
  clear hb1 CE HB0
  go_wp2_with fail
  go_ret
  exact ⟨rfl, HB1.out⟩

end Go.Proofs.YtcjeodgfpnecgaaGreatDoor

namespace Go.Proofs.YtcjeodgfpnecgaaGreatDoor
open Go.ChangeShapes Go.WideShapes Go.ChangeAt Go.RowKit
set_option linter.unusedVariables false
set_option linter.unusedSimpArgs false

theorem eight {α : Type} : ∀ {l : List α}, l.length = 8 → ∃ c0 c1 c2 c3 c4 c5 c6 c7, l = [c0, c1, c2, c3, c4, c5, c6, c7]
  | [c0, c1, c2, c3, c4, c5, c6, c7], _ => ⟨c0, c1, c2, c3, c4, c5, c6, c7, rfl⟩

set_option maxRecDepth 100000 in
theorem claim_of {H : Type} {enc : TypeId × Value → H} {W : World} {base : Nat} {v : Value} {d : DataW H} {p : List MemPlace}
    (hv : Value.okWide Tryz.prog W .any base 24 v) (h : DataW.Trod enc Tryz.prog W 0 (fun _ => true) true 24 v d p) (hlt : ∀ y ∈ p, y.block < W.heap.size) :
    ∃ (c : Cm) (a : Option Addr) (cap : Nat), v = cmV c a cap ∧ AtRow W a c.facts ∧ CmSz maxLen c ∧ (Lit.int .i64 c.frm).wf = true ∧ (Lit.int .i64 c.til).wf = true := by
  obtain ⟨⟨cs⟩, rfl, hsz⟩ := okWide_struct Tryz.underlying24 hv
  obtain ⟨c0, c1, c2, c3, c4, c5, c6, c7, rfl⟩ := eight (hsz.trans (by kernel_rfl))
  obtain ⟨fuel, hf⟩ := h
  obtain ⟨xs, n, _, hx, _, hlen, hg⟩ := DataW.trod_struct Tryz.underlying24 hf
  obtain ⟨y0, y1, y2, y3, y4, y5, y6, y7, rfl⟩ := eight (hlen.trans rfl)
  simp only [Prod.mk.injEq] at hx
  obtain ⟨_, hp⟩ := hx
  have kS : Tryz.prog.cellsOf 9 = 1 := by kernel_rfl
  have kI : Tryz.prog.cellsOf 2 = 1 := by kernel_rfl
  have kA : Tryz.prog.cellsOf 22 = 1 := by kernel_rfl
  have g0 : DataW.trod enc Tryz.prog W 0 (fun _ => true) true n 9 (List.take (Tryz.prog.cellsOf 9) (List.drop 0 [c0, c1, c2, c3, c4, c5, c6, c7])) = some y0 := hg 0 _ rfl
  have g1 : DataW.trod enc Tryz.prog W 0 (fun _ => true) true n 9 (List.take (Tryz.prog.cellsOf 9) (List.drop 1 [c0, c1, c2, c3, c4, c5, c6, c7])) = some y1 := hg 1 _ rfl
  have g2 : DataW.trod enc Tryz.prog W 0 (fun _ => true) true n 9 (List.take (Tryz.prog.cellsOf 9) (List.drop 2 [c0, c1, c2, c3, c4, c5, c6, c7])) = some y2 := hg 2 _ rfl
  have g3 : DataW.trod enc Tryz.prog W 0 (fun _ => true) true n 2 (List.take (Tryz.prog.cellsOf 2) (List.drop 3 [c0, c1, c2, c3, c4, c5, c6, c7])) = some y3 := hg 3 _ rfl
  have g4 : DataW.trod enc Tryz.prog W 0 (fun _ => true) true n 2 (List.take (Tryz.prog.cellsOf 2) (List.drop 4 [c0, c1, c2, c3, c4, c5, c6, c7])) = some y4 := hg 4 _ rfl
  have g5 : DataW.trod enc Tryz.prog W 0 (fun _ => true) true n 9 (List.take (Tryz.prog.cellsOf 9) (List.drop 5 [c0, c1, c2, c3, c4, c5, c6, c7])) = some y5 := hg 5 _ rfl
  have g6 : DataW.trod enc Tryz.prog W 0 (fun _ => true) true n 9 (List.take (Tryz.prog.cellsOf 9) (List.drop 6 [c0, c1, c2, c3, c4, c5, c6, c7])) = some y6 := hg 6 _ rfl
  have g7 : DataW.trod enc Tryz.prog W 0 (fun _ => true) true n 22 (List.take (Tryz.prog.cellsOf 22) (List.drop 7 [c0, c1, c2, c3, c4, c5, c6, c7])) = some y7 := hg 7 _ rfl
  rw [kS] at g0 g1 g2 g5 g6
  rw [kI] at g3 g4
  rw [kA] at g7
  simp only [List.drop, List.take] at g0 g1 g2 g3 g4 g5 g6 g7
  obtain ⟨s0, e0, _, w0⟩ := DataW.trod_string Tryz.underlying9 g0
  obtain ⟨s1, e1, _, w1⟩ := DataW.trod_string Tryz.underlying9 g1
  obtain ⟨s2, e2, _, w2⟩ := DataW.trod_string Tryz.underlying9 g2
  obtain ⟨x3, e3, _, w3⟩ := DataW.trod_int Tryz.underlying2 g3
  obtain ⟨x4, e4, _, w4⟩ := DataW.trod_int Tryz.underlying2 g4
  obtain ⟨s5, e5, _, w5⟩ := DataW.trod_string Tryz.underlying9 g5
  obtain ⟨s6, e6, _, w6⟩ := DataW.trod_string Tryz.underlying9 g6
  obtain ⟨a, cap, l, rfl, wn, wr, wz⟩ := attrs_of g7 (fun y hy => hlt y (by rw [hp]; simp [hy]))
  simp only [List.cons.injEq, and_true] at e0 e1 e2 e3 e4 e5 e6
  subst e0 e1 e2 e3 e4 e5 e6
  exact ⟨⟨s0, s1, s2, x3, x4, s5, s6, l⟩, a, cap, rfl, wr, ⟨w0, w1, w2, w5, w6, wn, wz⟩, w3, w4⟩

end Go.Proofs.YtcjeodgfpnecgaaGreatDoor

namespace Go.Proofs.YtcjeodgfpnecgaaGreatDoor
open Go.RowKit
set_option linter.unusedVariables false
set_option linter.unusedSimpArgs false

def nE : ByteArray := ⟨#[]⟩
def claimS : ByteArray := ⟨#[99, 108, 97, 105, 109]⟩
def nsCS : ByteArray := ⟨#[110, 115, 58, 99]⟩
def cClaimS : ByteArray := ⟨#[99, 58, 67, 108, 97, 105, 109]⟩
def fromS : ByteArray := ⟨#[70, 114, 111, 109]⟩
def toS : ByteArray := ⟨#[84, 111]⟩
def nameS : ByteArray := ⟨#[78, 97, 109, 101]⟩
def localN : Nat → ByteArray
  | 0 => ⟨#[73, 115, 115, 117, 101, 114]⟩
  | 1 => ⟨#[83, 117, 98, 106, 101, 99, 116]⟩
  | 2 => ⟨#[84, 101, 114, 109]⟩
  | 3 => ⟨#[70, 111, 114]⟩
  | 4 => ⟨#[65, 110, 115, 119, 101, 114, 115]⟩
  | _ => ⟨#[70, 97, 99, 116]⟩
def kidN : Nat → ByteArray
  | 0 => ⟨#[99, 58, 73, 115, 115, 117, 101, 114]⟩
  | 1 => ⟨#[99, 58, 83, 117, 98, 106, 101, 99, 116]⟩
  | 2 => ⟨#[99, 58, 84, 101, 114, 109]⟩
  | 3 => ⟨#[99, 58, 70, 111, 114]⟩
  | 4 => ⟨#[99, 58, 65, 110, 115, 119, 101, 114, 115]⟩
  | _ => ⟨#[99, 58, 70, 97, 99, 116]⟩

/-- What one kid says: its attrs and its text. -/
structure Say where
  attrs : List At
  text : ByteArray

/-- An element of the first with a text, behind the others. -/
def addN (L : List Tk) (name : ByteArray) (x : Say) : List Tk := if x.text.size = 0 then L ++ [⟨0, name, x.attrs, nE⟩] else L ++ [⟨0, name, x.attrs, nE⟩] ++ [⟨(L.length : Int), nE, [], x.text⟩]

def addAll (L : List Tk) (name : ByteArray) (l : List Say) : List Tk := l.foldl (fun L x => addN L name x) L

theorem addAll_snoc (L : List Tk) (name : ByteArray) (l : List Say) (x : Say) : addAll L name (l ++ [x]) = addN (addAll L name l) name x := by
  unfold addAll
  rw [List.foldl_append]
  rfl

/-- A text that is said, if there is one. -/
def txtL (s : ByteArray) : List Say := if s.size = 0 then [] else [⟨[], s⟩]

def factL (l : List At) : List Say := l.map fun f => ⟨[⟨nameS, f.name⟩], f.value⟩

theorem factL_len (l : List At) : (factL l).length = l.length := by
  unfold factL
  rw [List.length_map]

theorem factL_take {l : List At} {i : Nat} (h : i < l.length) : (factL l).take (i + 1) = (factL l).take i ++ [⟨[⟨nameS, l[i].name⟩], l[i].value⟩] := by
  have h2 : i < (factL l).length := by rw [factL_len]; exact h
  rw [List.take_succ_eq_append_getElem h2]
  congr 2
  simp [factL]

/-- What a claim says by its kids of each kind; of its times as they are written. -/
def saysL (c : Cm) (u v : ByteArray) : Nat → List Say
  | 0 => txtL c.iss
  | 1 => txtL c.sub
  | 2 => [⟨[⟨fromS, u⟩, ⟨toS, v⟩], nE⟩]
  | 3 => txtL c.whom
  | 4 => txtL c.ans
  | _ => factL c.facts

def headT (c : Cm) : Tk := ⟨-1, cClaimS, [⟨nsCS, claimS⟩, ⟨idS, c.id⟩], nE⟩

/-- The tree by the first k kinds. -/
def treeTo (c : Cm) (u v : ByteArray) : Nat → List Tk
  | 0 => [headT c]
  | k + 1 => addAll (treeTo c u v k) (kidN k) (saysL c u v k)

theorem addN_len (L : List Tk) (name : ByteArray) (x : Say) : L.length ≤ (addN L name x).length ∧ (addN L name x).length ≤ L.length + 2 := by
  unfold addN
  split <;> simp

theorem addAll_len (L : List Tk) (name : ByteArray) (l : List Say) : L.length ≤ (addAll L name l).length ∧ (addAll L name l).length ≤ L.length + 2 * l.length := by
  induction l generalizing L with
  | nil => exact ⟨Nat.le_refl _, Nat.le_refl _⟩
  | cons x l ih =>
    have h1 := addN_len L name x
    have h2 := ih (addN L name x)
    unfold addAll at h2 ⊢
    rw [List.foldl_cons, List.length_cons]
    omega

theorem txtL_len (s : ByteArray) : (txtL s).length ≤ 1 := by
  unfold txtL
  split <;> simp

theorem saysL_len (c : Cm) (u v : ByteArray) (k : Nat) (h : c.facts.length ≤ 1000) : (saysL c u v k).length ≤ 1000 := by
  have t1 := txtL_len
  match k with
  | 0 => exact Nat.le_trans (t1 _) (by decide)
  | 1 => exact Nat.le_trans (t1 _) (by decide)
  | 2 => show 1 ≤ 1000; decide
  | 3 => exact Nat.le_trans (t1 _) (by decide)
  | 4 => exact Nat.le_trans (t1 _) (by decide)
  | k + 5 => show (factL c.facts).length ≤ 1000; unfold factL; rw [List.length_map]; exact h

theorem treeTo_len (c : Cm) (u v : ByteArray) (h : c.facts.length ≤ 1000) : ∀ k, (treeTo c u v k).length ≤ 1 + 2000 * k
  | 0 => Nat.le_refl _
  | k + 1 => by
    have h1 := treeTo_len c u v h k
    have h2 := addAll_len (treeTo c u v k) (kidN k) (saysL c u v k)
    have h3 := saysL_len c u v k h
    show (addAll (treeTo c u v k) (kidN k) (saysL c u v k)).length ≤ _
    omega

noncomputable def claimT (c : Cm) (u v : ByteArray) : List Tk := if claimB c = true then treeTo c u v 6 else []

theorem txtL_one {s : ByteArray} (h : ¬ s.size = 0) : txtL s = [⟨[], s⟩] := if_neg h

theorem addAll_one (L : List Tk) (name : ByteArray) (x : Say) : addAll L name [x] = addN L name x := rfl

theorem addAll_nil (L : List Tk) (name : ByteArray) : addAll L name [] = L := rfl

end Go.Proofs.YtcjeodgfpnecgaaGreatDoor
