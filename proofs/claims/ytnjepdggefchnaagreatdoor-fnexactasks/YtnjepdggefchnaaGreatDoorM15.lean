/- Rows of hands: their cells, one hand more behind all; the program's copiedHands. Contracts of the specification's Entered, l16Remove, Removed. -/
import Derived.Test.YtnjepdggefchnaaGreatDoorM13
import Derived.Test.YtnjepdggefchnaaGreatDoorM11
import Derived.Test.YtnjepdggefchnaaGreatDoorM14
import Derived.Test.YtnjepdggefchnaaGreatDoorM12
namespace Go.Proofs.YtnjepdggefchnaaGreatDoor
open Go.RowKit
set_option linter.unusedVariables false
set_option linter.unusedSimpArgs false

/-- The cells of hands. -/
def hdC (l : List Hd) : List Value := l.flatMap fun x => [.string x.iss, .int .i64 x.n, .int .i64 x.e, .int .i64 x.d]

theorem hdC_len (l : List Hd) : (hdC l).length = l.length * 4 := by
  induction l with
  | nil => rfl
  | cons x l ih => show (hdC l).length + 4 = _; rw [ih, List.length_cons]; omega

theorem hdC_app (a b : List Hd) : hdC (a ++ b) = hdC a ++ hdC b := by unfold hdC; rw [List.flatMap_append]

theorem hdC_get (l : List Hd) (j : Nat) (h : j < l.length) : (hdC l)[j * 4]? = some (.string l[j].iss) ∧ (hdC l)[j * 4 + 1]? = some (.int .i64 l[j].n) ∧ (hdC l)[j * 4 + 2]? = some (.int .i64 l[j].e) ∧ (hdC l)[j * 4 + 3]? = some (.int .i64 l[j].d) := by
  induction l generalizing j with
  | nil => simp at h
  | cons x l ih =>
    have e : hdC (x :: l) = .string x.iss :: .int .i64 x.n :: .int .i64 x.e :: .int .i64 x.d :: hdC l := rfl
    rw [e]
    match j with
    | 0 => exact ⟨rfl, rfl, rfl, rfl⟩
    | j + 1 =>
      have h1 : (j + 1) * 4 = j * 4 + 1 + 1 + 1 + 1 := by omega
      have h2 : (j + 1) * 4 + 1 = (j * 4 + 1) + 1 + 1 + 1 + 1 := by omega
      have h3 : (j + 1) * 4 + 2 = (j * 4 + 2) + 1 + 1 + 1 + 1 := by omega
      have h4 : (j + 1) * 4 + 3 = (j * 4 + 3) + 1 + 1 + 1 + 1 := by omega
      rw [h2, h3, h4, h1]
      exact ih j (by simpa using h)

theorem hdC_one (l : List Hd) : ∀ u ∈ hdC l, u.oneCell' = true := by
  intro u hu
  unfold hdC at hu
  obtain ⟨x, _, hx⟩ := List.mem_flatMap.1 hu
  simp at hx
  rcases hx with rfl | rfl | rfl | rfl <;> rfl

/-- The hands are in memory of their own from B on. -/
def OwnHd (w : World) (B : Nat) (a : Option Addr) (l : List Hd) : Prop := 0 < l.length → ∃ g o cu, a = some ⟨g, o, none⟩ ∧ B ≤ g ∧ w.heap[g]? = some (.cells cu 69 (0, 0)) ∧ HdCells cu o l

theorem OwnHd.row {w : World} {B : Nat} {a : Option Addr} {l : List Hd} (h : OwnHd w B a l) : HdRow w a l := by
  intro j hj
  obtain ⟨g, o, cu, e, _, hh, hc⟩ := h (by omega)
  exact (hc.row hh) j hj |>.elim fun b ⟨o', e', r⟩ => ⟨b, o', e.trans e', r⟩

theorem OwnHd.below {w w' : World} {B : Nat} {a : Option Addr} {l : List Hd} (h : OwnHd w B a l) (hb : Below w.heap.size w w') : OwnHd w' B a l := fun hl => by
  obtain ⟨g, o, cu, e1, e2, e3, e4⟩ := h hl
  exact ⟨g, o, cu, e1, e2, u_blk_below e3 hb, e4⟩

theorem OwnHd.keep {w w' : World} {B : Nat} {p : Nat → Prop} {a : Option Addr} {l : List Hd} (h : OwnHd w B a l) (hk : u_KeepB p w w') (hp : ∀ b, p b → b < B) : OwnHd w' B a l := fun hl => by
  obtain ⟨g, o, cu, e1, e2, e3, e4⟩ := h hl
  exact ⟨g, o, cu, e1, e2, (hk.block g (lt_of_heap e3) (fun e => by have := hp g e; omega)).trans e3, e4⟩

theorem OwnHd.mono {w : World} {B B' : Nat} {a : Option Addr} {l : List Hd} (h : OwnHd w B a l) (hB : B' ≤ B) : OwnHd w B' a l := fun hl => by
  obtain ⟨g, o, cu, e1, e2, e3, e4⟩ := h hl
  exact ⟨g, o, cu, e1, Nat.le_trans hB e2, e3, e4⟩

theorem OwnHd.nil (w : World) (B : Nat) (a : Option Addr) : OwnHd w B a [] := fun h => absurd h (Nat.lt_irrefl 0)

theorem own_hd {w : World} {B : Nat} {v : Value} {n : Nat} {l : List Hd} (h : w.ownsRow B 69 4 v n (hdC l)) (hn : l.length = n) : ∃ a c, v = .slice a n c ∧ OwnHd w B a l := by
  rcases h.2 with ⟨rfl, rfl⟩ | ⟨g, cp, cur, rfl, hg, hh, hn', hc, hs, ht⟩
  · exact ⟨none, 0, rfl, fun hl => by omega⟩
  · refine ⟨_, cp, rfl, fun _ => ⟨g, 0, cur, rfl, hg, hh, fun j hj => ?_⟩⟩
    have hq : ∀ q u, (hdC l)[q]? = some u → cur[0 + q]? = some u := fun q u hu => by
      rw [← ht, List.getElem?_take] at hu
      rw [Nat.zero_add, ← Array.getElem?_toList]
      split at hu
      · exact hu
      · cases hu
    obtain ⟨g0, g1, g2, g3⟩ := hdC_get l j hj
    exact ⟨hq _ _ g0, hq _ _ g1, hq _ _ g2, hq _ _ g3⟩

theorem HdRow.sr {w : World} {a : Option Addr} {l : List Hd} {n c : Nat} (h : HdRow w a l) (hn : l.length = n) : u_Sr w 4 (.slice a n c) n (hdC l) := by
  refine ⟨⟨a, c, rfl, fun h0 => ?_⟩, by rw [hdC_len, hn]⟩
  obtain ⟨b, o, e, hb, _⟩ := h 0 (by omega)
  refine ⟨b, o, e, hb, fun j u hj => ?_⟩
  have hl : j < (hdC l).length := (List.getElem?_eq_some_iff.1 hj).1
  rw [hdC_len] at hl
  obtain ⟨b2, o2, e2, _, c0, c1, c2, c3⟩ := h (j / 4) (by omega)
  rw [e] at e2
  obtain ⟨rfl, rfl⟩ : b = b2 ∧ o = o2 := by cases e2; exact ⟨rfl, rfl⟩
  obtain ⟨k0, k1, k2, k3⟩ := hdC_get l (j / 4) (by omega)
  rcases (show j % 4 = 0 ∨ j % 4 = 1 ∨ j % 4 = 2 ∨ j % 4 = 3 by omega) with hm | hm | hm | hm
  · have ej : j / 4 * 4 = j := by omega
    rw [ej] at k0 c0
    rw [k0] at hj
    cases hj
    exact c0
  · have ej : j / 4 * 4 + 1 = j := by omega
    rw [Nat.add_assoc, ej] at c1
    rw [ej] at k1
    rw [k1] at hj
    cases hj
    exact c1
  · have ej : j / 4 * 4 + 2 = j := by omega
    rw [Nat.add_assoc, ej] at c2
    rw [ej] at k2
    rw [k2] at hj
    cases hj
    exact c2
  · have ej : j / 4 * 4 + 3 = j := by omega
    rw [Nat.add_assoc, ej] at c3
    rw [ej] at k3
    rw [k3] at hj
    cases hj
    exact c3

set_option maxRecDepth 8000 in
/-- One hand more behind all, as a run. -/
theorem hd_app {B : Nat} {v : Value} {l : List Hd} {W : World} (x : ByteArray) (n e d : Int) (hO : W.ownsRow B 69 4 v l.length (hdC l)) (hB : B ≤ W.heap.size) (hl : l.length ≤ 100000) :
    ∃ a8 c8 w8, (Builtin.append_ #[29, 29] 29 #[v, .slice (some ⟨W.heap.size, 0, none⟩) 1 1]).run Tryz.prog (W.alloc (.cells #[.string x, .int .i64 n, .int .i64 e, .int .i64 d] 69)) = .ok (.slice a8 (l.length + 1) c8) w8
      ∧ w8.ownsRow B 69 4 (.slice a8 (l.length + 1) c8) (l.length + 1) (hdC (l ++ [⟨x, n, e, d⟩])) ∧ (W.alloc (.cells #[.string x, .int .i64 n, .int .i64 e, .int .i64 d] 69)).grownBy w8 v.ownBlock := by
  obtain ⟨i0, hi0, hz0, hz1, hz2⟩ := info_parts infoHd
  have hb := (Below.refl W.heap.size W).alloc (Nat.le_refl _) (.cells #[.string x, .int .i64 n, .int .i64 e, .int .i64 d] 69)
  have ho6 := ownsRow_below hO hb
  obtain ⟨b', o', c', e', _, _, h4⟩ := (u_Rd.new W 69 4 (hdC [⟨x, n, e, d⟩]) 1 rfl).at_
  cases e'
  obtain ⟨v8, w8, hrun, r1, r2, _, _⟩ := run_append_own_at (P := Tryz.prog) (W.alloc (.cells #[.string x, .int .i64 n, .int .i64 e, .int .i64 d] 69)) B 29 29 69 i0 _ 4 40 Tryz.underlying29 hi0 hz0 hz1 hz2 rfl (by decide) v l.length (hdC l) ho6 ⟨W.heap.size, 0, none⟩ 1 1 (hdC [⟨x, n, e, d⟩]) rfl (fun j u hj => by rw [u_add_plainW]; exact h4 j u hj) (hdC_one _) (by unfold maxLen; omega) (by omega) (by have := hb.size; omega)
  obtain ⟨a8, c8, rfl⟩ := u_own_len r1
  exact ⟨a8, c8, w8, hrun, by rw [hdC_app]; exact r1, r2⟩

set_option maxRecDepth 8000 in
set_option maxHeartbeats 8000000 in
theorem cCopiedHands (a : Option Addr) (cap : Nat) (l : List Hd) (w : World) (hR : HdRow w a l) (hz : HdSz 1048576 l) (hn : l.length ≤ 100000) :
    Calls Tryz.prog 65 #[.slice a l.length cap] w fun e w' => ∃ a' c', e = .returned (.slice a' l.length c') ∧ w'.ownsRow w.heap.size 69 4 (.slice a' l.length c') l.length (hdC l) ∧ Below w.heap.size w w' := by
  have HR := hid hR
  have HZ := hid hz
  clear hR hz
  obtain ⟨n, hnn⟩ : ∃ n, l.length = n := ⟨_, rfl⟩
  have HN := hid hnn
  rw [hnn] at hn ⊢
  clear hnn
  go_enter Tryz.func65, Tryz.ntmps65
  go_wp2_with fail
  go_loopw [3, 8] (fun v k wr => ∃ i : Nat, k = .int .i64 (i : Int) ∧ i ≤ n ∧ Hid (wr.ownsRow w.heap.size 69 4 v i (hdC (l.take i))) ∧ Hid (Below w.heap.size w wr)) (fun _ k _ => n - (intOf k).toNat)
  case atStart => exact ⟨0, rfl, Nat.zero_le _, World.ownsRow_nil _ _ _ _, Below.refl _ _⟩
  case round =>
    obtain ⟨i, rfl, hin, HO, HB⟩ := hrel
    by_cases hlt : i < n
    case neg =>
      have hie : i = n := by omega
      subst hie
      have HO2 := HO.out
      rw [List.take_of_length_le (by rw [HN.out]; exact Nat.le_refl _)] at HO2
      obtain ⟨a5, c5, hv5⟩ := u_own_len HO2
      subst hv5
      have HOA := hid HO2
      clear HO2 HO
      go_wp2_with fail
      go_ret
      exact ⟨_, _, rfl, HOA.out, HB.out⟩
    have his : i < l.length := by rw [HN.out]; exact hlt
    have hinn : (i : Int) < (n : Int) := by omega
    obtain ⟨b, o, rfl, hb, c0, c1, c2, c3⟩ := (HR.out.below HB.out) i his
    have HX := hid (show l.take (i + 1) = l.take i ++ [⟨l[i].iss, l[i].n, l[i].e, l[i].d⟩] by rw [take_snocN his])
    have C := hid (fun w => c_strings_Clone l[i].iss w (HZ.out _ (List.getElem_mem his)))
    have HLI := hid (show (l.take i).length = i by rw [List.length_take]; omega)
    generalize l[i].iss = x at *
    generalize l[i].n = kn at *
    generalize l[i].e = ke at *
    generalize l[i].d = kd at *
    generalize l.take i = q at *
    have HB0 := hid (HB.out.alloc HB.out.size (.cells #[.string x, .int .i64 kn, .int .i64 ke, .int .i64 kd] 69))
    have HO0 := hid (HO.out.alloc (.cells #[.string x, .int .i64 kn, .int .i64 ke, .int .i64 kd] 69))
    have HY := hid (HdBox.new wr x kn ke kd 69)
    obtain ⟨W0, hW0⟩ : ∃ W0, wr.alloc (.cells #[.string x, .int .i64 kn, .int .i64 ke, .int .i64 kd] 69) = W0 := ⟨_, rfl⟩
    rw [hW0] at HB0 HO0 HY
    obtain ⟨D, hD⟩ : ∃ D, wr.heap.size = D := ⟨_, rfl⟩
    rw [hD] at HY
    obtain ⟨a5, c5, hv5⟩ := u_own_len HO.out
    subst hv5
    clear HO
    obtain ⟨y0, y1, y2, y3⟩ := And.intro HY.out.c0 (And.intro HY.out.c1 (And.intro HY.out.c2 HY.out.c3))
    go_wp2_with fail
    clear hW0 c0 c1 c2 c3
    have HBc := hid ((Below.refl W0.heap.size W0).drew)
    go_region_law (first
      | (go_simp; go_at_call 64; refine (C.out _).mono ?_; rintro e w6 ⟨rfl, hb6⟩; have HB6 := hid (HBc.out.trans hb6); obtain ⟨z0, z1, z2, z3⟩ := And.intro (HY.out.below HB6.out).c0 (And.intro (HY.out.below HB6.out).c1 (And.intro (HY.out.below HB6.out).c2 (HY.out.below HB6.out).c3)); have HO6 := hid (ownsRow_below HO0.out HB6.out); have HBw := hid (bb HB0.out HB6.out); clear hb6)
      | (obtain ⟨a9, c9, w9, hrun, ho9, hg9⟩ := hd_app (B := w.heap.size) (l := q) (W := w6) x kn ke kd (by rw [HLI.out]; exact HO6.out) HBw.out.size (by rw [HLI.out]; omega)
         rw [HLI.out] at hrun ho9
         refine u_step_app rfl (.tmp 12) (.tmp 19) 29 29 rfl (.slice a5 i c5) (.slice (some ⟨w6.heap.size, 0, none⟩) 1 1) (by simp [Act.eval, Act.put]) (by simp [Act.eval, Act.put]) hrun ?_
         have HO9 := hid ho9
         have HB9 := hid ((HBw.out.alloc HBw.out.size (.cells #[.string x, .int .i64 kn, .int .i64 ke, .int .i64 kd] 69)).grown hg9 (HBw.out.alloc HBw.out.size (.cells #[.string x, .int .i64 kn, .int .i64 ke, .int .i64 kd] 69)).size (fun k e => (HO6.out.lt k e).1))
         clear hrun ho9 hg9))
    all_goals
      go_wp2_with fail
      go_roundw
      case rel => exact ⟨i + 1, by go_num, by omega, by rw [HX.out]; exact HO9.out, HB9.out⟩
      case measure => simp [intOf]; omega

end Go.Proofs.YtnjepdggefchnaaGreatDoor

namespace Go.Proofs.YtnjepdggefchnaaGreatDoor
open Go.RowKit
set_option linter.unusedVariables false
set_option linter.unusedSimpArgs false

theorem enteredT_f {t : Tb} {id : ByteArray} {til : Int} (h : (tableB t && u_idOk id && utmB til) = false) : enteredT t id til = (zeroT, 3) := if_neg (by rw [h]; exact Bool.false_ne_true)
theorem enteredT_t {t : Tb} {id : ByteArray} {til : Int} (h : (tableB t && u_idOk id && utmB til) = true) : enteredT t id til = enterT t id til := if_pos h

theorem enterT_most (t : Tb) (id : ByteArray) (til : Int) : (enterT t id til).1.most = t.most := by
  unfold enterT
  split
  · rfl
  · split <;> rfl

end Go.Proofs.YtnjepdggefchnaaGreatDoor
