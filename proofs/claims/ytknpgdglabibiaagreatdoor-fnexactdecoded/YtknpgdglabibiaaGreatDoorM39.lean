/- A row of nodes among the arguments, opened. The walk of FnExactDecoded. From the rows on texts to what their walks ask of the listed variables. -/
import Derived.Test.YtknpgdglabibiaaGreatDoorM3
import Derived.Test.YtknpgdglabibiaaGreatDoorM2
import Derived.Test.YtknpgdglabibiaaGreatDoorM38
import Derived.Test.YtknpgdglabibiaaGreatDoorM35
import Derived.Test.YtknpgdglabibiaaGreatDoorM25
import Derived.Test.YtknpgdglabibiaaGreatDoorM26
import Derived.Test.YtknpgdglabibiaaGreatDoorM19
import Derived.ProofKit
import Derived.OpenShut
namespace Go.Proofs.YtknpgdglabibiaaGreatDoor.Nd
open Go.ChangeShapes Go.WideShapes Go.ChangeAt Go.RowKit
set_option linter.unusedVariables false

set_option maxRecDepth 100000 in
theorem rows_of {H : Type} {enc : TypeId × Value → H} {W : World} {fuel : Nat} {v : Value} {x : DataW H × List MemPlace}
    (h : DataW.trod enc Tryz.prog W 0 (fun _ => true) true fuel 22 [v] = some x) (hlt : ∀ y ∈ x.2, y.block < W.heap.size) :
    ∃ (a : Option Addr) (cap : Nat) (ts : List Tk), v = .slice a ts.length cap ∧ ts.length ≤ maxLen ∧ TkRow W a ts ∧ TksSz maxLen ts ∧ ∀ t ∈ ts, (Lit.int .i64 t.kind).wf = true := by
  rcases Deep.open_slice Tryz.underlying22 h with ⟨hcs, hx⟩ | ⟨a, len, cap, m, n, D, Pl, hcs, _, hl, hm, hmm, hx, hall⟩
  · simp only [List.cons.injEq, and_true] at hcs
    subst hcs
    exact ⟨none, 0, [], rfl, by simp, fun j h => by simp at h, fun s h => by simp at h, fun s h => by simp at h⟩
  · simp only [List.cons.injEq, and_true] at hcs
    subst hcs
    simp only [if_true] at hmm
    subst hmm
    have ce : Tryz.prog.cellsOf 39 = 4 := by kernel_rfl
    have cA : Tryz.prog.cellsOf 37 = 1 := by kernel_rfl
    have cI : Tryz.prog.cellsOf 2 = 1 := by kernel_rfl
    have cS : Tryz.prog.cellsOf 9 = 1 := by kernel_rfl
    have each : ∀ i, i < m → ∃ q : Tk × Option Addr × Nat, W.cell? (a.add (i * 4)) = some (.int .i64 q.1.kind) ∧ W.cell? (a.add (i * 4 + 1)) = some (.string q.1.name) ∧ W.cell? (a.add (i * 4 + 2)) = some (.slice q.2.1 q.1.attrs.length q.2.2) ∧ W.cell? (a.add (i * 4 + 3)) = some (.string q.1.text)
        ∧ AtRow W q.2.1 q.1.attrs ∧ TkSz maxLen q.1 ∧ (Lit.int .i64 q.1.kind).wf = true := by
      intro i hi
      obtain ⟨cs', h1, h2⟩ := hall i hi
      rw [ce] at h1
      obtain ⟨_, hlen, hcell⟩ := World.cells?_some h1
      obtain ⟨xs, k, hk, hxy, _, hxl, hf⟩ := DataW.trod_struct Tryz.underlying39 h2
      have hpl : ∀ y ∈ Pl i, y.block < W.heap.size := fun y hy => hlt y (by rw [hx]; exact List.mem_append_right _ (List.mem_flatMap.2 ⟨i, List.mem_range.2 hi, hy⟩))
      match xs, hxl, cs', hlen with
      | [y0, y1, y2, y3], _, [v0, v1, v2, v3], _ =>
        have g0 := hf 0 _ rfl
        have g1 := hf 1 _ rfl
        have g2 := hf 2 _ rfl
        have g3 := hf 3 _ rfl
        simp [cA, cI, cS] at g0 g1 g2 g3
        have e0 := hcell 0 (by omega)
        have e1 := hcell 1 (by omega)
        have e2 := hcell 2 (by omega)
        have e3 := hcell 3 (by omega)
        rw [Deep.add_add] at e0 e1 e2 e3
        simp only [Prod.mk.injEq] at hxy
        obtain ⟨k0, hk0, _, wk⟩ := DataW.trod_int Tryz.underlying2 g0
        obtain ⟨s, hs, _, ws⟩ := DataW.trod_string Tryz.underlying9 g1
        obtain ⟨u, hu, _, wu⟩ := DataW.trod_string Tryz.underlying9 g3
        obtain ⟨aa, ca, l, rfl, wn, wr, wz⟩ := attrs_of g2 (fun y hy => hpl y (by rw [hxy.2]; simp [hy]))
        simp only [List.cons.injEq, and_true] at hk0 hs hu
        subst hk0 hs hu
        exact ⟨(⟨k0, s, l, u⟩, aa, ca), by simpa using e0, by simpa using e1, by simpa using e2, by simpa using e3, wr, ⟨ws, wn, wz, wu⟩, wk⟩
    haveI : Inhabited (Tk × Option Addr × Nat) := ⟨(⟨0, ⟨#[]⟩, [], ⟨#[]⟩⟩, none, 0)⟩
    obtain ⟨q, hq⟩ := Deep.choose_lt each
    refine ⟨some a, m, (List.range len).map fun i => (q i).1, by simp, by simp; omega, fun j hj => ?_, fun y hy => ?_, fun y hy => ?_⟩
    · simp only [List.length_map, List.length_range] at hj
      obtain ⟨b, off, spot⟩ := a
      obtain ⟨c0, c1, c2, c3, cr, _⟩ := hq j (by omega)
      have hspot : spot = none := by simpa [Addr.add] using World.cell?_spot (hq 0 (by omega)).1
      subst hspot
      rw [add_plain] at c0 c1 c2 c3
      refine ⟨b, off, (q j).2.1, (q j).2.2, rfl, hlt (.cell b off) (by rw [hx, ce]; exact List.mem_append_left _ (MemPlace.mem_row.2 ⟨0, by omega, by simp⟩)), ?_, ?_, ?_, ?_, ?_⟩
      · rw [c0]; simp
      · rw [← Nat.add_assoc] at c1; rw [c1]; simp
      · rw [← Nat.add_assoc] at c2; rw [c2]; simp
      · rw [← Nat.add_assoc] at c3; rw [c3]; simp
      · simpa using cr
    · obtain ⟨i, hi, rfl⟩ := List.mem_map.1 hy
      exact (hq i (by have := List.mem_range.1 hi; omega)).2.2.2.2.2.1
    · obtain ⟨i, hi, rfl⟩ := List.mem_map.1 hy
      exact (hq i (by have := List.mem_range.1 hi; omega)).2.2.2.2.2.2

theorem rows_arg {H : Type} {enc : TypeId × Value → H} {W : World} {v : Value} {d : DataW H} {p : List MemPlace}
    (h : DataW.Trod enc Tryz.prog W 0 (fun _ => true) true 22 v d p) (hv : ∃ a len cap, v = .slice a len cap) (hlt : ∀ y ∈ p, y.block < W.heap.size) :
    ∃ (a : Option Addr) (cap : Nat) (ts : List Tk), v = .slice a ts.length cap ∧ ts.length ≤ maxLen ∧ TkRow W a ts ∧ TksSz maxLen ts ∧ ∀ t ∈ ts, (Lit.int .i64 t.kind).wf = true := by
  obtain ⟨fuel, hf⟩ := h
  obtain ⟨a, len, cap, rfl⟩ := hv
  exact rows_of (x := (d, p)) (by simpa [Value.cells] using hf) hlt

end Go.Proofs.YtknpgdglabibiaaGreatDoor.Nd

namespace Go.Proofs.YtknpgdglabibiaaGreatDoor
open Go.RowKit
set_option linter.unusedVariables false
set_option linter.unusedSimpArgs false

theorem Nd.Laid.hasD {ts : List Tk} {g : Nat} {G : Nat → Nat} {cur : Array Value} {w : World} (h : Nd.Laid ts g ts.length G cur w) (hh : w.heap[g]? = some (.cells cur 42 (0, 0))) : ∀ b, (Nd.shL g G ts).Has b → g ≤ b ∧ b < w.heap.size := by
  rintro b (rfl | ⟨j, hj, _, rfl⟩)
  · exact ⟨Nat.le_refl _, lt_of_heap hh⟩
  · obtain ⟨h1, cu, h2, _⟩ := h.row j hj hj
    have h3 := lt_of_heap h2
    exact ⟨Nat.le_of_lt h1, h3⟩

set_option maxRecDepth 16000 in
set_option maxHeartbeats 16000000 in
theorem walk_decoded (a0 : Option Addr) (cap0 : Nat) (l0 : List Tk) (a1 : Int) (w : World) (wr0 : TkRow w a0 l0) (wn0 : l0.length ≤ maxLen) (wz0 : TksSz maxLen l0) (hM : Laid w) :
    Calls Tryz.prog 3 #[.slice a0 l0.length cap0, .int .i64 a1] w fun e w' => e = .returned (.bool true) ∧ Below w.heap.size w w' := by
  have C0 := hid (Nd.cSzNodeS a0 cap0 l0 w wr0 wz0 wn0)
  have HR := hid wr0
  have HLD := hid hM
  clear wr0 wz0 wn0 hM
  obtain ⟨n, hnn⟩ : ∃ n, l0.length = n := ⟨_, rfl⟩
  have HN := hid hnn
  rw [hnn] at C0 ⊢
  clear hnn
  go_enter Tryz.func3, Tryz.ntmps3
  go_wp2_with fail
  refine C0.out.mono ?_
  rintro e w1 ⟨r, rfl, hr, hb1⟩
  have HB1 := hid hb1
  have HR1 := hid (HR.out.below hb1)
  clear hb1 C0 HR
  rcases hr with rfl | ⟨h0, hn, hz, hsum⟩
  · go_wp2_with fail
    go_ret
    exact ⟨rfl, HB1.out⟩
  have hd2 : decide (r < 0) = false := by simp; omega
  have CT := hid (fun (wx : World) (h : TkRow wx a0 l0) => Nd.cToNodeSL a0 cap0 l0 wx h hz (by rw [HN.out]; exact hn))
  have CS := hid (fun (g : Nat) (wx : World) (h : TkRow wx (some ⟨g, 0, none⟩) l0) => cDecodedS (some ⟨g, 0, none⟩) l0.length l0 a1 wx h (by rw [HN.out]; exact hn) hz)
  have CI := hid (fun (g : Nat) (wx : World) (h : TkRow wx (some ⟨g, 0, none⟩) l0) (hl : Laid wx) => cDecodedI (some ⟨g, 0, none⟩) l0.length l0 a1 wx h (by rw [HN.out]; exact hn) hz hl)
  have CE := hid (fun (g g2 : Nat) (wx : World) (h : TkRow wx (some ⟨g, 0, none⟩) l0) (h2 : TkRow wx (some ⟨g2, 0, none⟩) l0) => Nd.cEqNodeS (some ⟨g, 0, none⟩) (some ⟨g2, 0, none⟩) l0.length l0.length l0 wx h h2 hz (by rw [HN.out]; exact hn))
  have HCZ := hid (qdV_sz (x := a1) hz)
  obtain ⟨C, hC⟩ : ∃ C, qdV l0 a1 = C := ⟨_, rfl⟩
  obtain ⟨V, hV⟩ : ∃ V, qdI l0 a1 = V := ⟨_, rfl⟩
  rw [hC] at CS CI HCZ
  rw [hV] at CS CI
  have hVV : (V != V) = false := by cases V <;> rfl
  clear hV hC
  have CQ := hid (fun (x y : Option Addr) (cx cy : Nat) (wx : World) (h : AtRow wx x C.facts) (h2 : AtRow wx y C.facts) => cEqClaim C x y cx cy wx h h2 HCZ.out.2.2.2.2.2.2 HCZ.out.2.2.2.2.2.1)
  have CM := hid (fun (x : Option Addr) (cx B : Nat) (wx : World) (h : OwnAts wx B x C.facts) => cMarkClaimH C x cx B wx h HCZ.out.2.2.2.2.2.1)
  have CH := hid (fun (x : Option Addr) (cx : Nat) (wx : World) (h : HeldC wx x C.facts.length) => cHeldClaimH C x cx wx h HCZ.out.2.2.2.2.2.1)
  have HSM := hid hsum
  rw [HN.out] at CT CS CI CE
  clear hz hsum HCZ
  obtain ⟨s1, s2, s3, x4, x5, s6, s7, fl⟩ := C
  simp only [cmV] at CQ CM CH
  obtain ⟨K, hK⟩ : ∃ K, 1 + 2 * fl.length = K := ⟨_, rfl⟩
  rw [hK] at CM CH
  clear hK
  have hdK : decide ((K : Int) < 0) = false := by simp
  have hKK : ((K : Int) != (K : Int)) = false := by simp
  go_wp2_with fail
  refine (CT.out _ HR1.out).mono ?_
  rintro e w2 ⟨G, cur, rfl, hh, _, hl, hb2⟩
  rw [← HN.out] at hl
  have S2 := hid (hl.tkRow hh)
  have HB2 := hid (bb HB1.out hb2)
  have HR2 := hid (HR1.out.below hb2)
  clear hb2 hh hl HB1 HR1
  go_wp2_with fail
  refine (CS.out _ _ S2.out).mono ?_
  rintro e w3 ⟨a3, c3, rfl, ho3, hb3⟩
  simp only [cmV]
  have HBa := hid ((Below.refl w3.heap.size w3).alloc (Nat.le_refl _) (.cells #[.string s1, .string s2, .string s3, .int .i64 x4, .int .i64 x5, .string s6, .string s7, .slice a3 fl.length c3] 26))
  have MS := hid (heap_alloc_new w3 (.cells #[.string s1, .string s2, .string s3, .int .i64 x4, .int .i64 x5, .string s6, .string s7, .slice a3 fl.length c3] 26))
  obtain ⟨wb, hwb⟩ : ∃ wb, w3.alloc (.cells #[.string s1, .string s2, .string s3, .int .i64 x4, .int .i64 x5, .string s6, .string s7, .slice a3 fl.length c3] 26) = wb := ⟨_, rfl⟩
  rw [hwb] at HBa MS
  have HT3 := hid (AtRow.below (OwnAts.rd ho3) HBa.out)
  have HB3 := hid (bb (bb HB2.out hb3) HBa.out)
  have HR3 := hid ((HR2.out.below hb3).below HBa.out)
  clear hb3 ho3 HB2 HR2 S2 CS HBa
  go_wp2_with fail
  refine (CT.out _ HR3.out).mono ?_
  rintro e w4 ⟨G4, cur4, rfl, hh4, _, hl4, hb4⟩
  rw [← HN.out] at hl4
  have S4 := hid (hl4.tkRow hh4)
  have HHas := hid (hl4.hasD hh4)
  obtain ⟨hok4, hho4⟩ := hl4.shape hh4
  have HOK4 := hid hok4
  have HHO4 := hid hho4
  have D4 := hid hb4
  have hlt4 : wb.heap.size < w4.heap.size := lt_of_heap hh4
  have HLT4 := hid hlt4
  clear hb4 hh4 hl4 hok4 hho4 hlt4 hwb
  go_wp2_with fail
  refine (CI.out _ _ S4.out (HLD.out.below (bb HB3.out D4.out))).mono ?_
  rintro e w5 ⟨a5, c5, rfl, ho5, hb5⟩
  simp only [cmV]
  have HNB := hid (show ∀ b o, a5 = some ⟨b, o, none⟩ → 0 < fl.length → w4.heap.size ≤ b ∧ b < w5.heap.size from fun b o e hl => by
    obtain ⟨g, o', cu, k1, k2, k3, _⟩ := ho5 hl
    rw [e] at k1
    cases k1
    exact ⟨k2, lt_of_heap k3⟩)
  have HBg := hid ((Below.refl w5.heap.size w5).alloc (Nat.le_refl _) (.cells #[.string s1, .string s2, .string s3, .int .i64 x4, .int .i64 x5, .string s6, .string s7, .slice a5 fl.length c5] 26))
  have MG5 := hid (heap_alloc_new w5 (.cells #[.string s1, .string s2, .string s3, .int .i64 x4, .int .i64 x5, .string s6, .string s7, .slice a5 fl.length c5] 26))
  obtain ⟨wg, hwg⟩ : ∃ wg, w5.alloc (.cells #[.string s1, .string s2, .string s3, .int .i64 x4, .int .i64 x5, .string s6, .string s7, .slice a5 fl.length c5] 26) = wg := ⟨_, rfl⟩
  rw [hwg] at HBg MG5
  have D5 := hid (bb (bb D4.out hb5) HBg.out)
  have S5 := hid ((S4.out.below hb5).below HBg.out)
  have HO5 := hid ((HHO4.out.below hb5).below HBg.out)
  have O5 := hid (OwnAts.below ho5 HBg.out)
  have HD45 := hid (show w4.heap.size ≤ w5.heap.size from hb5.size)
  obtain ⟨⟨y0, y1, y2, y3, y4, y5, y6, y7⟩, _⟩ := box8 (blk_below MS.out D5.out)
  obtain ⟨⟨z0, z1, z2, z3, z4, z5, z6, z7⟩, _⟩ := box8 MG5.out
  clear hb5 ho5 S4 HHO4 HBg
  go_wp2_with fail
  refine (CQ.out a5 a3 c5 c3 _ O5.out.rd (HT3.out.below D5.out)).mono ?_
  rintro e w6 ⟨rfl, hb6⟩
  have MG6 := hid (blk_below MG5.out hb6)
  have O6 := hid (O5.out.below hb6)
  have D6 := hid (bb D5.out hb6)
  have S6 := hid (S5.out.below hb6)
  have HO6 := hid (HO5.out.below hb6)
  clear hb6 O5 S5 HO5 MG5 hwg y0 y1 y2 y3 y4 y5 y6 y7 z0 z1 z2 z3 z4 z5 z6 z7
  go_wp2_with fail
  refine (CT.out _ (HR3.out.below D6.out)).mono ?_
  rintro e w7 ⟨G7, cur7, rfl, hh7, _, hl7, hb7⟩
  rw [← HN.out] at hl7
  have X7 := hid (hl7.tkRow hh7)
  have MG7 := hid (blk_below MG6.out hb7)
  have O7 := hid (O6.out.below hb7)
  have D7 := hid (bb D6.out hb7)
  have S7 := hid (S6.out.below hb7)
  have HO7 := hid (HO6.out.below hb7)
  clear hb7 hh7 hl7 O6 S6 HO6 MG6
  go_wp2_with fail
  refine (CE.out _ _ _ S7.out X7.out).mono ?_
  rintro e w8 ⟨rfl, hb8⟩
  have MG8 := hid (blk_below MG7.out hb8)
  have O8 := hid (O7.out.below hb8)
  have D8 := hid (bb D7.out hb8)
  have HO8 := hid (HO7.out.below hb8)
  clear hb8 O7 S7 HO7 X7 MG7
  have hK4 : (Nd.shL wb.heap.size G4 l0).K 1 (Nd.shL wb.heap.size G4 l0).n ≤ 100000000 := by
    have e := Nd.shL_K wb.heap.size G4 l0 1 l0.length (Nat.le_refl _)
    rw [List.take_of_length_le (Nat.le_refl _)] at e
    have := HSM.out
    show (Nd.shL wb.heap.size G4 l0).K 1 l0.length ≤ 100000000
    rw [e, HN.out]
    omega
  have CM4 := hid (Nd.cMarkNodeH (Nd.shL wb.heap.size G4 l0) wb.heap.size n 1 (Nd.atT l0) w8 HOK4.out HO8.out hK4)
  have CM4 := hid (show Calls Tryz.prog 10 #[.slice (some ⟨wb.heap.size, 0, none⟩) n n, .int .i64 1] w8 fun e w' => e = .returned (.int .i64 ((Nd.shL wb.heap.size G4 l0).K 1 (Nd.shL wb.heap.size G4 l0).n : Nat)) ∧ Nd.HoldsN (Nd.shL wb.heap.size G4 l0) w' (fun j => mkTk ((Nd.shL wb.heap.size G4 l0).K 1 j) ((Nd.shL wb.heap.size G4 l0).len j)) ∧ KeepB (Nd.shL wb.heap.size G4 l0).Has w8 w' by
    have := CM4.out
    rw [show (Nd.shL wb.heap.size G4 l0).n = n from HN.out] at this ⊢
    exact this)
  obtain ⟨K4, hK4e⟩ : ∃ K, (Nd.shL wb.heap.size G4 l0).K 1 (Nd.shL wb.heap.size G4 l0).n = K := ⟨_, rfl⟩
  rw [hK4e] at CM4
  clear hK4 hK4e
  go_wp2_with fail
  refine CM4.out.mono ?_
  rintro e w9 ⟨rfl, _, hkb⟩
  have D9 := hid (D8.out.trans (hkb.below D8.out.size (fun b hb => (HHas.out b hb).1)))
  have O9 := hid (O8.out.keep hkb (fun b hb => (HHas.out b hb).2))
  have MG9 := hid ((hkb.block _ (lt_of_heap MG8.out) (fun e => by have := (HHas.out _ e).2; have := HD45.out; omega)).trans MG8.out)
  clear hkb CM4 O8 MG8
  have hd9 : decide ((K4 : Int) < 0) = false := by simp
  obtain ⟨⟨y0, y1, y2, y3, y4, y5, y6, y7⟩, _⟩ := box8 (blk_below MS.out D9.out)
  obtain ⟨⟨z0, z1, z2, z3, z4, z5, z6, z7⟩, _⟩ := box8 MG9.out
  go_wp2_with fail
  refine (CQ.out a5 a3 c5 c3 _ O9.out.rd (HT3.out.below D9.out)).mono ?_
  rintro e w10 ⟨rfl, hb10⟩
  have O10 := hid (O9.out.below hb10)
  have D10 := hid (bb D9.out hb10)
  have MG10 := hid (blk_below MG9.out hb10)
  clear hb10 O9 hd9 MG9 y0 y1 y2 y3 y4 y5 y6 y7 z0 z1 z2 z3 z4 z5 z6 z7
  obtain ⟨⟨z0, z1, z2, z3, z4, z5, z6, z7⟩, _⟩ := box8 MG10.out
  go_wp2_with fail
  refine (CM.out a5 c5 w4.heap.size _ O10.out).mono ?_
  rintro e w11 ⟨rfl, hh11, hk11⟩
  have H11 := hid hh11
  have MG11 := hid ((hk11.block _ (lt_of_heap MG10.out) (fun e => by obtain ⟨o, e1, e2⟩ := e; have := (HNB.out _ o e1 e2).2; omega)).trans MG10.out)
  have D11 := hid (D10.out.trans (hk11.below D10.out.size (fun b hb => by obtain ⟨o, e1, e2⟩ := hb; have := (HNB.out _ o e1 e2).1; have := HLT4.out; omega)))
  clear hh11 hk11 O10 MG10 z0 z1 z2 z3 z4 z5 z6 z7
  obtain ⟨⟨z0, z1, z2, z3, z4, z5, z6, z7⟩, _⟩ := box8 MG11.out
  go_wp2_with fail
  refine (CH.out a5 c5 _ H11.out).mono ?_
  rintro e w12 ⟨rfl, hb12⟩
  have H12 := hid (H11.out.below hb12)
  have D12 := hid (bb D11.out hb12)
  have MG12 := hid (blk_below MG11.out hb12)
  clear hb12 H11 MG11 z0 z1 z2 z3 z4 z5 z6 z7
  go_wp2_with fail
  refine (CT.out _ (HR3.out.below D12.out)).mono ?_
  rintro e w13 ⟨G13, cur13, rfl, hh13, _, hl13, hb13⟩
  rw [← HN.out] at hl13
  have S13 := hid (hl13.tkRow hh13)
  have H13 := hid (H12.out.below hb13)
  have D13 := hid (bb D12.out hb13)
  have MG13 := hid (blk_below MG12.out hb13)
  clear hb13 hh13 hl13 H12 MG12
  go_wp2_with fail
  refine (CI.out _ _ S13.out (HLD.out.below (bb HB3.out D13.out))).mono ?_
  rintro e w14 ⟨a14, c14, rfl, ho14, hb14⟩
  simp only [cmV]
  have HBh := hid ((Below.refl w14.heap.size w14).alloc (Nat.le_refl _) (.cells #[.string s1, .string s2, .string s3, .int .i64 x4, .int .i64 x5, .string s6, .string s7, .slice a14 fl.length c14] 26))
  have MH := hid (heap_alloc_new w14 (.cells #[.string s1, .string s2, .string s3, .int .i64 x4, .int .i64 x5, .string s6, .string s7, .slice a14 fl.length c14] 26))
  obtain ⟨wh, hwh⟩ : ∃ wh, w14.alloc (.cells #[.string s1, .string s2, .string s3, .int .i64 x4, .int .i64 x5, .string s6, .string s7, .slice a14 fl.length c14] 26) = wh := ⟨_, rfl⟩
  rw [hwh] at HBh MH
  have T14 := hid (AtRow.below (OwnAts.rd ho14) HBh.out)
  have H14 := hid ((H13.out.below hb14).below HBh.out)
  have D14 := hid (bb (bb D13.out hb14) HBh.out)
  have MG14 := hid (blk_below (blk_below MG13.out hb14) HBh.out)
  obtain ⟨⟨y0, y1, y2, y3, y4, y5, y6, y7⟩, _⟩ := box8 (blk_below MS.out D14.out)
  obtain ⟨⟨z0, z1, z2, z3, z4, z5, z6, z7⟩, _⟩ := box8 MH.out
  clear hb14 ho14 H13 MG13 HBh
  go_wp2_with fail
  refine (CQ.out a14 a3 c14 c3 _ T14.out (HT3.out.below D14.out)).mono ?_
  rintro e w15 ⟨rfl, hb15⟩
  have H15 := hid (H14.out.below hb15)
  have D15 := hid (bb D14.out hb15)
  have MG15 := hid (blk_below MG14.out hb15)
  clear hb15 H14 MG14 hwh y0 y1 y2 y3 y4 y5 y6 y7 z0 z1 z2 z3 z4 z5 z6 z7
  obtain ⟨⟨z0, z1, z2, z3, z4, z5, z6, z7⟩, _⟩ := box8 MG15.out
  go_wp2_with fail
  refine (CH.out a5 c5 _ H15.out).mono ?_
  rintro e w16 ⟨rfl, hb16⟩
  have D16 := hid (bb D15.out hb16)
  clear hb16
  go_wp2_with fail
  go_ret
  exact ⟨rfl, bb HB3.out D16.out⟩

end Go.Proofs.YtknpgdglabibiaaGreatDoor

namespace Go.Proofs.YtknpgdglabibiaaGreatDoor
open Go.RowKit

theorem pow_data : (Lib.tabData .u64 Lib.pow10Tab : DataW Unit) = Rows.laid_internal_strconv_uint64pow10 := by kernel_rfl

theorem laid_of {l : List (String × DataW Unit)} {w : World} (h : laidMet Tryz.prog l w) (h0 : (longName, Lib.tabData .i64 longZ) ∈ l) (h1 : (shortName, Lib.tabData .i64 shortZ) ∈ l) (h2 : (powName, Rows.laid_internal_strconv_uint64pow10) ∈ l) : Laid w := by
  refine ⟨mon_of h h0 h1, ?_⟩
  rw [← pow_data] at h2
  exact tab_of h h2 (g := 2) (t := 176) (by kernel_rfl) (by kernel_rfl) Tryz.underlying176 Tryz.underlying164 (by kernel_rfl) (by kernel_rfl)

end Go.Proofs.YtknpgdglabibiaaGreatDoor
