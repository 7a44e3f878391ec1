/- Contract of the specification's Decoded. What the program makes of a tree that says a claim, and that it is what the document asks. Pairs of a meaning and a local in place of keys (mathematics alone); contracts of slices.Index and slices.Contains over a row of pairs. -/
import Derived.Test.YtknpgdglabibiaaGreatDoorM34
import Derived.Test.YtknpgdglabibiaaGreatDoorM32
import Derived.Test.YtknpgdglabibiaaGreatDoorM31
import Derived.Deep.QuietTactic
import Derived.BigQuiet
namespace Go.Proofs.YtknpgdglabibiaaGreatDoor
open Go.RowKit
set_option linter.unusedVariables false
set_option linter.unusedSimpArgs false

theorem qdI_no {ts : List Tk} {x : Int} (h : ¬ (namesB ts = true ∧ idsB ts = true ∧ 0 ≤ x ∧ x < ts.length)) : qdI ts x = false := by
  unfold qdI
  cases h1 : namesB ts
  · rfl
  · cases h2 : idsB ts
    · rfl
    · rw [decide_eq_false (fun h3 => h ⟨h1, h2, h3⟩)]
      rfl

theorem qdI_yes {ts : List Tk} {k : Nat} (h1 : namesB ts = true) (h2 : idsB ts = true) (h3 : k < ts.length) : qdI ts (k : Int) = qdB ts k ∧ qdV ts (k : Int) = qdA ts k := by
  have e : qdI ts (k : Int) = qdB ts k := by
    unfold qdI
    rw [h1, h2, decide_eq_true (show (0 : Int) ≤ (k : Int) ∧ (k : Int) < ts.length by omega)]
    rfl
  refine ⟨e, ?_⟩
  unfold qdV qdA
  rw [e]
  rfl

set_option maxRecDepth 8000 in
set_option maxHeartbeats 8000000 in
theorem cDecodedS (a : Option Addr) (cap : Nat) (ts : List Tk) (x : Int) (w : World) (hR : TkRow w a ts) (hn : ts.length ≤ 1048576) (hz : TksSz 1048576 ts) :
    Calls Tryz.prog 5 #[.slice a ts.length cap, .int .i64 x] w (DecAns w (qdV ts x) (qdI ts x)) := by
  have CN := hid (fun wx (h : Below w.heap.size w wx) => cNamesOkS a cap ts wx (hR.below h) hn hz)
  have CI := hid (fun wx (h : Below w.heap.size w wx) => cIdsOkS a cap ts wx (hR.below h) hn hz)
  have HB0 := hid ((Below.refl w.heap.size w).alloc (Nat.le_refl _) (.cells #[.string ⟨#[]⟩, .string ⟨#[]⟩, .string ⟨#[]⟩, .int .i64 0, .int .i64 0, .string ⟨#[]⟩, .string ⟨#[]⟩, .slice none 0 0] 26))
  have M4 := hid (heap_alloc_new w (.cells #[.string ⟨#[]⟩, .string ⟨#[]⟩, .string ⟨#[]⟩, .int .i64 0, .int .i64 0, .string ⟨#[]⟩, .string ⟨#[]⟩, .slice none 0 0] 26))
  have HNX := hid (@qdI_no ts x)
  have HR := hid hR
  have HZ := hid hz
  cases h1 : namesB ts with
  | false =>
    have HNO := hid (HNX.out (by rw [h1]; exact fun h => by cases h.1))
    rw [h1] at CN
    clear h1 hR hz
    generalize ts.length = n at *
    go_enter Tryz.func5, Tryz.ntmps5
    go_wp2_with fail
    refine (CN.out _ HB0.out).mono ?_
    rintro e w1 ⟨rfl, hb1⟩
    have BB := hid (bb HB0.out hb1)
    have MM := hid (blk_below M4.out hb1)
    clear hb1
    obtain ⟨⟨y0, y1, y2, y3, y4, y5, y6, y7⟩, yf0, yf1, yf2, yf3, yf4, yf5, yf6, yf7⟩ := box8 MM.out
    go_wp2_with fail
    refine bodyPost_ret (v := .tuple #[.agg #[.string ⟨#[]⟩, .string ⟨#[]⟩, .string ⟨#[]⟩, .int .i64 0, .int .i64 0, .string ⟨#[]⟩, .string ⟨#[]⟩, .slice none 0 0], .bool false]) (by simp [results, Tryz.results5, go_sem, y0, y1, y2, y3, y4, y5, y6, y7]) rfl ⟨none, 0, ?_, ?_, ?_⟩
    · unfold qdV
      rw [HNO.out]
      rfl
    · unfold qdV
      rw [HNO.out]
      exact fun hl => absurd hl (Nat.lt_irrefl 0)
    · iterate 8 refine Below.setCell ?_ (show w.heap.size ≤ w.heap.size from Nat.le_refl _) _
      exact BB.out
  | true =>
  have HN1 := hid h1
  rw [h1] at CN
  cases h2 : idsB ts with
  | false =>
    have HNO := hid (HNX.out (by rw [h2]; exact fun h => by cases h.2.1))
    rw [h2] at CI
    clear h1 h2 hR hz
    generalize ts.length = n at *
    go_enter Tryz.func5, Tryz.ntmps5
    go_wp2_with fail
    refine (CN.out _ HB0.out).mono ?_
    rintro e w1 ⟨rfl, hb1⟩
    have HB1 := hid (bb HB0.out hb1)
    have M1 := hid (blk_below M4.out hb1)
    clear hb1
    go_wp2_with fail
    refine (CI.out _ HB1.out).mono ?_
    rintro e w2 ⟨rfl, hb2⟩
    have BB := hid (bb HB1.out hb2)
    have MM := hid (blk_below M1.out hb2)
    clear hb2
    obtain ⟨⟨y0, y1, y2, y3, y4, y5, y6, y7⟩, yf0, yf1, yf2, yf3, yf4, yf5, yf6, yf7⟩ := box8 MM.out
    go_wp2_with fail
    refine bodyPost_ret (v := .tuple #[.agg #[.string ⟨#[]⟩, .string ⟨#[]⟩, .string ⟨#[]⟩, .int .i64 0, .int .i64 0, .string ⟨#[]⟩, .string ⟨#[]⟩, .slice none 0 0], .bool false]) (by simp [results, Tryz.results5, go_sem, y0, y1, y2, y3, y4, y5, y6, y7]) rfl ⟨none, 0, ?_, ?_, ?_⟩
    · unfold qdV
      rw [HNO.out]
      rfl
    · unfold qdV
      rw [HNO.out]
      exact fun hl => absurd hl (Nat.lt_irrefl 0)
    · iterate 8 refine Below.setCell ?_ (show w.heap.size ≤ w.heap.size from Nat.le_refl _) _
      exact BB.out
  | true =>
  have HI1 := hid h2
  rw [h2] at CI
  clear h1 h2
  by_cases hx0 : x < 0
  · have HNO := hid (HNX.out (fun h => by omega))
    have hd0 : decide (x < 0) = true := decide_eq_true hx0
    clear hR hz
    generalize ts.length = n at *
    go_enter Tryz.func5, Tryz.ntmps5
    go_wp2_with fail
    refine (CN.out _ HB0.out).mono ?_
    rintro e w1 ⟨rfl, hb1⟩
    have HB1 := hid (bb HB0.out hb1)
    have M1 := hid (blk_below M4.out hb1)
    clear hb1
    go_wp2_with fail
    refine (CI.out _ HB1.out).mono ?_
    rintro e w2 ⟨rfl, hb2⟩
    have BB := hid (bb HB1.out hb2)
    have MM := hid (blk_below M1.out hb2)
    clear hb2
    obtain ⟨⟨y0, y1, y2, y3, y4, y5, y6, y7⟩, yf0, yf1, yf2, yf3, yf4, yf5, yf6, yf7⟩ := box8 MM.out
    go_wp2_with fail
    refine bodyPost_ret (v := .tuple #[.agg #[.string ⟨#[]⟩, .string ⟨#[]⟩, .string ⟨#[]⟩, .int .i64 0, .int .i64 0, .string ⟨#[]⟩, .string ⟨#[]⟩, .slice none 0 0], .bool false]) (by simp [results, Tryz.results5, go_sem, y0, y1, y2, y3, y4, y5, y6, y7]) rfl ⟨none, 0, ?_, ?_, ?_⟩
    · unfold qdV
      rw [HNO.out]
      rfl
    · unfold qdV
      rw [HNO.out]
      exact fun hl => absurd hl (Nat.lt_irrefl 0)
    · iterate 8 refine Below.setCell ?_ (show w.heap.size ≤ w.heap.size from Nat.le_refl _) _
      exact BB.out
  obtain ⟨k, rfl⟩ : ∃ k : Nat, x = k := ⟨x.toNat, by omega⟩
  have hd0 : decide ((k : Int) < 0) = false := by simp
  by_cases hk : k < ts.length
  case neg =>
    have HNO := hid (HNX.out (fun h => by omega))
    have hd1 : decide ((ts.length : Int) ≤ (k : Int)) = true := by simp; omega
    have hd2 : decide (ts.length ≤ k) = true := decide_eq_true (by omega)
    clear hR hz hk
    generalize ts.length = n at *
    go_enter Tryz.func5, Tryz.ntmps5
    go_wp2_with fail
    refine (CN.out _ HB0.out).mono ?_
    rintro e w1 ⟨rfl, hb1⟩
    have HB1 := hid (bb HB0.out hb1)
    have M1 := hid (blk_below M4.out hb1)
    clear hb1
    go_wp2_with fail
    refine (CI.out _ HB1.out).mono ?_
    rintro e w2 ⟨rfl, hb2⟩
    have BB := hid (bb HB1.out hb2)
    have MM := hid (blk_below M1.out hb2)
    clear hb2
    obtain ⟨⟨y0, y1, y2, y3, y4, y5, y6, y7⟩, yf0, yf1, yf2, yf3, yf4, yf5, yf6, yf7⟩ := box8 MM.out
    go_wp2_with fail
    refine bodyPost_ret (v := .tuple #[.agg #[.string ⟨#[]⟩, .string ⟨#[]⟩, .string ⟨#[]⟩, .int .i64 0, .int .i64 0, .string ⟨#[]⟩, .string ⟨#[]⟩, .slice none 0 0], .bool false]) (by simp [results, Tryz.results5, go_sem, y0, y1, y2, y3, y4, y5, y6, y7]) rfl ⟨none, 0, ?_, ?_, ?_⟩
    · unfold qdV
      rw [HNO.out]
      rfl
    · unfold qdV
      rw [HNO.out]
      exact fun hl => absurd hl (Nat.lt_irrefl 0)
    · iterate 8 refine Below.setCell ?_ (show w.heap.size ≤ w.heap.size from Nat.le_refl _) _
      exact BB.out
  have hd1 : decide ((ts.length : Int) ≤ (k : Int)) = false := by simp; omega
  have hd2 : decide (ts.length ≤ k) = false := decide_eq_false (by omega)
  obtain ⟨e1, e2⟩ := qdI_yes HN1.out HI1.out hk
  rw [e1, e2]
  have CD := hid (fun wx (h : Below w.heap.size w wx) => c_spec_l14Decoded a cap ts k wx (hR.below h) (by have h := (idsB_t HI1.out).2; unfold treeB at h; simpa using h) hk hn hz)
  clear hR hz hk e1 e2
  generalize ts.length = n at *
  generalize qdA ts k = QA at *
  generalize qdB ts k = QB at *
  go_enter Tryz.func5, Tryz.ntmps5
  go_wp2_with fail
  refine (CN.out _ HB0.out).mono ?_
  rintro e w1 ⟨rfl, hb1⟩
  have HB1 := hid (bb HB0.out hb1)
  have M1 := hid (blk_below M4.out hb1)
  clear hb1
  go_wp2_with fail
  refine (CI.out _ HB1.out).mono ?_
  rintro e w2 ⟨rfl, hb2⟩
  have HB2 := hid (bb HB1.out hb2)
  have M2 := hid (blk_below M1.out hb2)
  clear hb2
  go_wp2_with fail
  refine (CD.out _ HB2.out).mono ?_
  rintro e w3 ⟨a3, c3, rfl, ho3, hb3⟩
  have HB3 := hid (bb HB2.out hb3)
  have HO3 := hid ho3
  have HG2 := hid (show w.heap.size < w2.heap.size from lt_of_heap M2.out)
  obtain ⟨⟨y0, y1, y2, y3, y4, y5, y6, y7⟩, yf0, yf1, yf2, yf3, yf4, yf5, yf6, yf7⟩ := box8 (blk_below M2.out hb3)
  clear ho3 hb3
  unfold cmV
  go_wp2_with fail
  refine bodyPost_ret (v := .tuple #[cmV QA a3 c3, .bool QB]) (by simp [results, Tryz.results5, go_sem, cmV, y0, y1, y2, y3, y4, y5, y6, y7]) rfl ⟨a3, c3, rfl, ?_, ?_⟩
  · have hset : ∀ (W : World) (i : Nat) (u : Value), OwnAts W w2.heap.size a3 QA.facts → OwnAts (W.setCell ⟨w.heap.size, i, none⟩ u) w2.heap.size a3 QA.facts := fun W i u h => OwnAts.set4 h (fun g o e hl eg => by
      obtain ⟨g', o', cu', k1, k2, _⟩ := h hl
      rw [e] at k1
      cases k1
      have := HG2.out
      omega)
    refine own_lift (B' := w2.heap.size) ?_ HB2.out.size
    iterate 8 refine hset _ _ _ ?_
    exact HO3.out
  · iterate 8 refine Below.setCell ?_ (show w.heap.size ≤ w.heap.size from Nat.le_refl _) _
    exact HB3.out

end Go.Proofs.YtknpgdglabibiaaGreatDoor

namespace Go.Proofs.YtknpgdglabibiaaGreatDoor
open Go.RowKit
set_option linter.unusedVariables false
set_option linter.unusedSimpArgs false

/-- The claim after the first q kinds. -/
noncomputable def decC (ts : List Tk) (k : Nat) : Nat → Cm
  | 0 => ⟨(valF (atN ts k) idS).getD ByteArray.empty, ⟨#[]⟩, ⟨#[]⟩, 0, 0, ⟨#[]⟩, ⟨#[]⟩, []⟩
  | q + 1 => (sayL ts (kidsK ts k (localN q))).foldl (hearC q) (decC ts k q)

theorem decC_succ (ts : List Tk) (k q : Nat) : decC ts k (q + 1) = (sayL ts (kidsK ts k (localN q))).foldl (hearC q) (decC ts k q) := rfl

theorem decC_zero (ts : List Tk) (k : Nat) : decC ts k 0 = ⟨(valF (atN ts k) idS).getD ByteArray.empty, ⟨#[]⟩, ⟨#[]⟩, 0, 0, ⟨#[]⟩, ⟨#[]⟩, []⟩ := rfl

/-- Of the q-th kind nothing lacks. -/
noncomputable def decX (ts : List Tk) (k q : Nat) : Bool := allB q (leN q) (moN q) (sayL ts (kidsK ts k (localN q)))

theorem fold5 (l : List Say) (c : Cm) : l.foldl (hearC 5) c = { c with facts := c.facts ++ l.map (fun s => ⟨(valF s.attrs nameS).getD ByteArray.empty, s.text⟩) } := by
  induction l generalizing c with
  | nil => simp
  | cons s l ih =>
    rw [List.foldl_cons, ih]
    show _ = _
    unfold hearC
    simp

theorem sayL_one (ts : List Tk) (j : Nat) : sayL ts [j] = [⟨atN ts j, txN ts j⟩] := rfl

theorem dec_fac (ts : List Tk) (l : List Nat) : (sayL ts l).map (fun s => (⟨(valF s.attrs nameS).getD ByteArray.empty, s.text⟩ : At)) = facN ts l := by
  unfold sayL facN
  rw [List.map_map]
  rfl

theorem hc0 (a b c : ByteArray) (d e : Int) (f g : ByteArray) (h : List At) (s : Say) : hearC 0 ⟨a, b, c, d, e, f, g, h⟩ s = ⟨a, s.text, c, d, e, f, g, h⟩ := rfl
theorem hc1 (a b c : ByteArray) (d e : Int) (f g : ByteArray) (h : List At) (s : Say) : hearC 1 ⟨a, b, c, d, e, f, g, h⟩ s = ⟨a, b, s.text, d, e, f, g, h⟩ := rfl
theorem hc2 (a b c : ByteArray) (d e : Int) (f g : ByteArray) (h : List At) (s : Say) : hearC 2 ⟨a, b, c, d, e, f, g, h⟩ s = ⟨a, b, c, (hearT s fromS).1, (hearT s toS).1, f, g, h⟩ := rfl
theorem hc3 (a b c : ByteArray) (d e : Int) (f g : ByteArray) (h : List At) (s : Say) : hearC 3 ⟨a, b, c, d, e, f, g, h⟩ s = ⟨a, b, c, d, e, s.text, g, h⟩ := rfl
theorem hc4 (a b c : ByteArray) (d e : Int) (f g : ByteArray) (h : List At) (s : Say) : hearC 4 ⟨a, b, c, d, e, f, g, h⟩ s = ⟨a, b, c, d, e, f, s.text, h⟩ := rfl

theorem tim1 (ts : List Tk) (j : Nat) (nm : ByteArray) : timN ts [j] nm = hearT (sayN ts j) nm := by
  have e : valN ts j nm = (valF (sayN ts j).attrs nm).getD ByteArray.empty := rfl
  show timeOf (valN ts j nm).data.toList = timeOf ((valF (sayN ts j).attrs nm).getD ByteArray.empty).data.toList
  rw [e]

theorem dc0 {ts : List Tk} {k j : Nat} (e0 : kidsK ts k (localN 0) = [j]) : decC ts k 1 = ⟨(valF (atN ts k) idS).getD ByteArray.empty, txN ts j, ⟨#[]⟩, 0, 0, ⟨#[]⟩, ⟨#[]⟩, []⟩ := by
  rw [show decC ts k 1 = _ from decC_succ ts k 0, e0, sayL_one, List.foldl_cons, List.foldl_nil, decC_zero, hc0]

theorem dc1 {ts : List Tk} {k j : Nat} (e0 : kidsK ts k (localN 1) = [j]) {a b c : ByteArray} {d e : Int} {f g : ByteArray} {h : List At} (H : decC ts k 1 = ⟨a, b, c, d, e, f, g, h⟩) : decC ts k 2 = ⟨a, b, txN ts j, d, e, f, g, h⟩ := by
  rw [show decC ts k 2 = _ from decC_succ ts k 1, e0, sayL_one, H, List.foldl_cons, List.foldl_nil, hc1]

theorem dc2 {ts : List Tk} {k j : Nat} (e0 : kidsK ts k (localN 2) = [j]) {a b c : ByteArray} {d e : Int} {f g : ByteArray} {h : List At} (H : decC ts k 2 = ⟨a, b, c, d, e, f, g, h⟩) : decC ts k 3 = ⟨a, b, c, (hearT (sayN ts j) fromS).1, (hearT (sayN ts j) toS).1, f, g, h⟩ := by
  rw [show decC ts k 3 = _ from decC_succ ts k 2, e0, show sayL ts [j] = [sayN ts j] from rfl, H, List.foldl_cons, List.foldl_nil, hc2]

theorem dc3 {ts : List Tk} {k j : Nat} (e0 : kidsK ts k (localN 3) = [j]) {a b c : ByteArray} {d e : Int} {f g : ByteArray} {h : List At} (H : decC ts k 3 = ⟨a, b, c, d, e, f, g, h⟩) : decC ts k 4 = ⟨a, b, c, d, e, txN ts j, g, h⟩ := by
  rw [show decC ts k 4 = _ from decC_succ ts k 3, e0, sayL_one, H, List.foldl_cons, List.foldl_nil, hc3]

theorem dc4 {ts : List Tk} {k : Nat} (h4 : (kidsK ts k (localN 4)).length ≤ 1) {a b c : ByteArray} {d e : Int} {f : ByteArray} {h : List At} (H : decC ts k 4 = ⟨a, b, c, d, e, f, ⟨#[]⟩, h⟩) : decC ts k 5 = ⟨a, b, c, d, e, f, fstT ts (kidsK ts k (localN 4)), h⟩ := by
  rw [show decC ts k 5 = _ from decC_succ ts k 4, H]
  match h : kidsK ts k (localN 4), h4 with
  | [], _ => rfl
  | [j], _ => rw [sayL_one, List.foldl_cons, List.foldl_nil, hc4]; rfl

theorem dc5 {ts : List Tk} {k : Nat} {a b c : ByteArray} {d e : Int} {f g : ByteArray} (H : decC ts k 5 = ⟨a, b, c, d, e, f, g, []⟩) : decC ts k 6 = ⟨a, b, c, d, e, f, g, facN ts (kidsK ts k (localN 5))⟩ := by
  rw [show decC ts k 6 = _ from decC_succ ts k 5, fold5, H, dec_fac]
  rfl

theorem decC_is {ts : List Tk} {k : Nat} (h0 : (kidsK ts k (localN 0)).length = 1) (h1 : (kidsK ts k (localN 1)).length = 1) (h2 : (kidsK ts k (localN 2)).length = 1) (h3 : (kidsK ts k (localN 3)).length = 1) (h4 : (kidsK ts k (localN 4)).length ≤ 1) : decC ts k 6 = qdC ts k := by
  obtain ⟨j0, e0⟩ := List.length_eq_one_iff.1 h0
  obtain ⟨j1, e1⟩ := List.length_eq_one_iff.1 h1
  obtain ⟨j2, e2⟩ := List.length_eq_one_iff.1 h2
  obtain ⟨j3, e3⟩ := List.length_eq_one_iff.1 h3
  rw [dc5 (dc4 h4 (dc3 e3 (dc2 e2 (dc1 e1 (dc0 e0)))))]
  unfold qdC
  rw [e0, e1, e2, e3, tim1, tim1]
  generalize hearT (sayN ts j2) fromS = A
  generalize hearT (sayN ts j2) toS = B
  rfl

theorem decX_parts {ts : List Tk} {k q : Nat} : decX ts k q = true ↔ leN q ≤ ((kidsK ts k (localN q)).length : Int) ∧ ((kidsK ts k (localN q)).length : Int) ≤ moN q ∧ ∀ j ∈ kidsK ts k (localN q), hearB q (sayN ts j) = true := by
  unfold decX allB
  rw [Bool.and_eq_true, Bool.and_eq_true, decide_eq_true_eq, decide_eq_true_eq, sayL_len]
  unfold sayL
  rw [List.all_map, List.all_eq_true]
  exact ⟨fun h => ⟨h.1.1, h.1.2, h.2⟩, fun h => ⟨⟨h.1, h.2.1⟩, h.2.2⟩⟩

theorem tim_hear {ts : List Tk} {l : List Nat} (h : l.length = 1) : ((timN ts l fromS).2 = true ∧ (timN ts l toS).2 = true) ↔ ∀ j ∈ l, hearB 2 (sayN ts j) = true := by
  obtain ⟨j, rfl⟩ := List.length_eq_one_iff.1 h
  have e : hearB 2 (sayN ts j) = ((timN ts [j] fromS).2 && (timN ts [j] toS).2) := by rw [tim1, tim1]; rfl
  constructor
  · intro hh i hi
    rw [List.mem_singleton.1 hi, e, hh.1, hh.2]
    rfl
  · intro hh
    have := hh j (List.mem_singleton.2 rfl)
    rw [e, Bool.and_eq_true] at this
    exact this

theorem word_ne {s : ByteArray} (h : wordB s = true) : ¬ s.size = 0 := by
  intro e
  unfold wordB at h
  rw [decide_eq_true e] at h
  simp at h

theorem txt_hear {ts : List Tk} {l : List Nat} {q : Nat} (hq : hearB q = fun s => !decide (s.text.size = 0)) (h : l.length ≤ 1) : (l.length = 1 → ¬ (fstT ts l).size = 0) ↔ ∀ j ∈ l, hearB q (sayN ts j) = true := by
  rw [hq]
  match l, h with
  | [], _ => exact ⟨fun _ j hj => absurd hj List.not_mem_nil, fun _ hh => by cases hh⟩
  | [j], _ =>
    have e : (fstT ts [j]) = (sayN ts j).text := rfl
    rw [e]
    constructor
    · intro hh i hi
      rw [List.mem_singleton.1 hi]
      simp [hh rfl]
    · intro hh _
      have := hh j (List.mem_singleton.2 rfl)
      simpa using this

theorem claim_parts {c : Cm} (h : claimB c = true) : idOk c.id = true ∧ wordB c.iss = true ∧ wordB c.sub = true ∧ wordB c.whom = true ∧ c.facts.length ≤ 4 := by
  unfold claimB at h
  simp only [Bool.and_eq_true] at h
  exact ⟨h.1.1.1.1.1.1.1, h.1.1.1.1.1.1.2, h.1.1.1.1.1.2, h.1.1.1.1.2, (factsB_p h.2).1⟩

/-- What the program asks is what the document asks. -/
theorem dec_end {ts : List Tk} {k : Nat} (h : ∀ q, q < 6 → decX ts k q = true) (hc : claimB (decC ts k 6) = true) : DecP ts k ∧ (valF (atN ts k) idS).isSome = true ∧ decC ts k 6 = qdC ts k := by
  have b0 := decX_parts.1 (h 0 (by omega))
  have b1 := decX_parts.1 (h 1 (by omega))
  have b2 := decX_parts.1 (h 2 (by omega))
  have b3 := decX_parts.1 (h 3 (by omega))
  have b4 := decX_parts.1 (h 4 (by omega))
  have b5 := decX_parts.1 (h 5 (by omega))
  have l0 : (kidsK ts k (localN 0)).length = 1 := by have h1 := b0.1; have h2 := b0.2.1; simp [leN, moN] at h1 h2; omega
  have l1 : (kidsK ts k (localN 1)).length = 1 := by have h1 := b1.1; have h2 := b1.2.1; simp [leN, moN] at h1 h2; omega
  have l2 : (kidsK ts k (localN 2)).length = 1 := by have h1 := b2.1; have h2 := b2.2.1; simp [leN, moN] at h1 h2; omega
  have l3 : (kidsK ts k (localN 3)).length = 1 := by have h1 := b3.1; have h2 := b3.2.1; simp [leN, moN] at h1 h2; omega
  have l4 : (kidsK ts k (localN 4)).length ≤ 1 := by have h2 := b4.2.1; simp [moN] at h2; omega
  have e := decC_is l0 l1 l2 l3 l4
  rw [e] at hc
  have ht := (tim_hear l2).2 b2.2.2
  refine ⟨⟨l0, l1, l2, l3, l4, (txt_hear (by rfl) l4).2 b4.2.2, ht.1, ht.2, fun j hj => b5.2.2 j hj, hc⟩, ?_, e⟩
  have hid := (claim_parts hc).1
  cases hv : valF (atN ts k) idS with
  | some x => rfl
  | none =>
    have e2 : (qdC ts k).id = ⟨#[]⟩ := by show (valF (atN ts k) idS).getD ⟨#[]⟩ = _; rw [hv]; rfl
    rw [e2] at hid
    exact absurd hid (by decide)

theorem dec_back {ts : List Tk} {k : Nat} (h : DecP ts k) : (∀ q, q < 6 → decX ts k q = true) ∧ claimB (decC ts k 6) = true := by
  obtain ⟨l0, l1, l2, l3, l4, l5, t1, t2, hn, hc⟩ := h
  have e := decC_is l0 l1 l2 l3 l4
  obtain ⟨_, w0, w1, w3, f4⟩ := claim_parts hc
  have hl : (kidsK ts k (localN 5)).length ≤ 4 := by
    have : (qdC ts k).facts.length = (kidsK ts k (localN 5)).length := by show (facN ts _).length = _; unfold facN; rw [List.length_map]
    omega
  refine ⟨fun q hq => decX_parts.2 ?_, by rw [e]; exact hc⟩
  match q, hq with
  | 0, _ => exact ⟨by rw [l0]; decide, by rw [l0]; decide, (txt_hear (q := 0) (by rfl) (by omega)).1 (fun _ => word_ne w0)⟩
  | 1, _ => exact ⟨by rw [l1]; decide, by rw [l1]; decide, (txt_hear (q := 1) (by rfl) (by omega)).1 (fun _ => word_ne w1)⟩
  | 2, _ => exact ⟨by rw [l2]; decide, by rw [l2]; decide, (tim_hear l2).1 ⟨t1, t2⟩⟩
  | 3, _ => exact ⟨by rw [l3]; decide, by rw [l3]; decide, (txt_hear (q := 3) (by rfl) (by omega)).1 (fun _ => word_ne w3)⟩
  | 4, _ => exact ⟨by simp [leN], by simp [moN]; omega, (txt_hear (q := 4) (by rfl) l4).1 l5⟩
  | 5, _ => exact ⟨by simp [leN], by simp [moN]; omega, fun j hj => hn j hj⟩

/-- The head is right. -/
theorem qdB_is {ts : List Tk} {k : Nat} (h1 : (!decide ((nameI ts k).size = 0) && knownN ts k (⟨#[67, 108, 97, 105, 109]⟩ : ByteArray) claimS) = true) (h : ∀ q, q < 6 → decX ts k q = true) (hc : claimB (decC ts k 6) = true) : qdB ts k = true ∧ qdA ts k = decC ts k 6 := by
  obtain ⟨p1, p2, p3⟩ := dec_end h hc
  have e : qdB ts k = true := qdB_yes (by rw [h1, p2]; rfl) p1
  refine ⟨e, ?_⟩
  unfold qdA
  rw [if_pos e, p3]

theorem qdB_not {ts : List Tk} {k : Nat} (h : ¬ ((∀ q, q < 6 → decX ts k q = true) ∧ claimB (decC ts k 6) = true)) : qdB ts k = false ∧ qdA ts k = zeroC := by
  have e : qdB ts k = false := qdB_no (fun hp => h (dec_back hp))
  refine ⟨e, ?_⟩
  unfold qdA
  rw [e]
  rfl

theorem qdB_head0 {ts : List Tk} {k : Nat} (h1 : (!decide ((nameI ts k).size = 0) && knownN ts k (⟨#[67, 108, 97, 105, 109]⟩ : ByteArray) claimS) = false) : qdB ts k = false ∧ qdA ts k = zeroC := by
  have e : qdB ts k = false := qdB_head (by rw [h1]; rfl)
  refine ⟨e, ?_⟩
  unfold qdA
  rw [e]
  rfl

theorem fold_facts {q : Nat} (hq : q < 5) (l : List Say) (c : Cm) : (l.foldl (hearC q) c).facts = c.facts := by
  induction l generalizing c with
  | nil => rfl
  | cons s l ih =>
    rw [List.foldl_cons, ih]
    match q, hq with
    | 0, _ => rfl
    | 1, _ => rfl
    | 2, _ => rw [hearC_two]
    | 3, _ => rfl
    | 4, _ => rfl

theorem decC_facts (ts : List Tk) (k : Nat) : ∀ q, q ≤ 5 → (decC ts k q).facts = []
  | 0, _ => rfl
  | q + 1, h => by rw [decC_succ, fold_facts (by omega)]; exact decC_facts ts k q (by omega)

theorem say_sz {ts : List Tk} (hz : TksSz 1048576 ts) {k : Nat} {loc : ByteArray} : ∀ s ∈ sayL ts (kidsK ts k loc), AtSz 1048576 s.attrs ∧ s.attrs.length ≤ 1048576 := by
  intro s hs
  unfold sayL at hs
  obtain ⟨j, hj, rfl⟩ := List.mem_map.1 hs
  have hl := kidsK_lt hj
  have h3 := hz _ (List.getElem_mem hl)
  show AtSz 1048576 (atN ts j) ∧ (atN ts j).length ≤ 1048576
  rw [atN_at hl]
  exact ⟨h3.2.2.1, h3.2.1⟩

theorem decC_sz {ts : List Tk} (hT : TreeP ts) (hz : TksSz 1048576 ts) {k : Nat} (h : ∀ q, q < 6 → decX ts k q = true) : CmSz 1048576 (decC ts k 6) := by
  have b0 := decX_parts.1 (h 0 (by omega))
  have b1 := decX_parts.1 (h 1 (by omega))
  have b2 := decX_parts.1 (h 2 (by omega))
  have b3 := decX_parts.1 (h 3 (by omega))
  have b4 := decX_parts.1 (h 4 (by omega))
  rw [decC_is (by have h1 := b0.1; have h2 := b0.2.1; simp [leN, moN] at h1 h2; omega) (by have h1 := b1.1; have h2 := b1.2.1; simp [leN, moN] at h1 h2; omega) (by have h1 := b2.1; have h2 := b2.2.1; simp [leN, moN] at h1 h2; omega) (by have h1 := b3.1; have h2 := b3.2.1; simp [leN, moN] at h1 h2; omega) (by have h2 := b4.2.1; simp [moN] at h2; omega)]
  exact qdC_sz hT hz k

theorem idI_is {ts : List Tk} (hI : idsB ts = true) {k : Nat} (hk : k < ts.length) : idI ts (k : Int) = (valF (atN ts k) idS).getD ByteArray.empty := by
  unfold idI
  rw [if_pos ⟨hI, by omega, by omega⟩]
  show (idAt ts k).getD ByteArray.empty = _
  rw [idAt_at hk, atN_at hk]

/-- Where the element is not known, nothing is told. -/
theorem qd_known {ts : List Tk} {x : Int} (hN : namesB ts = true) (hI : idsB ts = true) (h : knownI ts x (⟨#[67, 108, 97, 105, 109]⟩ : ByteArray) claimS = false) : qdI ts x = false := by
  by_cases hx : 0 ≤ x ∧ x < ts.length
  · obtain ⟨k, rfl⟩ : ∃ k : Nat, x = k := ⟨x.toNat, by omega⟩
    have hk : k < ts.length := by omega
    rw [known_kid (idsB_t hI).2 hk] at h
    rw [(qdI_yes hN hI hk).1]
    exact (qdB_head0 h).1
  · exact qdI_no (fun hh => hx ⟨hh.2.2.1, hh.2.2.2⟩)

theorem qdV_no {ts : List Tk} {x : Int} (h : qdI ts x = false) : qdV ts x = zeroC := by
  unfold qdV
  rw [h]
  rfl

end Go.Proofs.YtknpgdglabibiaaGreatDoor

namespace Go.Proofs.YtknpgdglabibiaaGreatDoor
open Go.RowKit
set_option linter.unusedVariables false
set_option linter.unusedSimpArgs false

theorem sp_inj : ∀ (a b c d : List UInt8), (∀ x ∈ a, ¬ x = 32) → (∀ x ∈ c, ¬ x = 32) → a ++ 32 :: b = c ++ 32 :: d → a = c ∧ b = d
  | [], b, [], d, _, _, h => ⟨rfl, by simpa using h⟩
  | [], b, y :: c, d, _, hc, h => by
    simp only [List.nil_append, List.cons_append, List.cons.injEq] at h
    exact absurd h.1.symm (hc y (List.mem_cons_self ..))
  | x :: a, b, [], d, ha, _, h => by
    simp only [List.nil_append, List.cons_append, List.cons.injEq] at h
    exact absurd h.1 (ha x (List.mem_cons_self ..))
  | x :: a, b, y :: c, d, ha, hc, h => by
    simp only [List.cons_append, List.cons.injEq] at h
    obtain ⟨e1, e2⟩ := sp_inj a b c d (fun z hz => ha z (List.mem_cons_of_mem _ hz)) (fun z hz => hc z (List.mem_cons_of_mem _ hz)) h.2
    exact ⟨by rw [h.1, e1], e2⟩

/-- No blank stands in it. -/
def NoSp (s : ByteArray) : Prop := ∀ x ∈ s.data.toList, ¬ x = 32

theorem key_inj {a b c d : ByteArray} (ha : NoSp a) (hc : NoSp c) (h : (a ++ ⟨#[32]⟩) ++ b = (c ++ ⟨#[32]⟩) ++ d) : a = c ∧ b = d := by
  have h2 : a.data.toList ++ 32 :: b.data.toList = c.data.toList ++ 32 :: d.data.toList := by
    have h3 := congrArg (fun s : ByteArray => s.data.toList) h
    simpa using h3
  obtain ⟨e1, e2⟩ := sp_inj _ _ _ _ ha hc h2
  refine ⟨?_, ?_⟩
  · apply ByteArray.ext
    exact Array.toList_inj.1 e1
  · apply ByteArray.ext
    exact Array.toList_inj.1 e2

theorem of_nosp {s : ByteArray} (h : ofB sgnS 20 s = true) : NoSp s := by
  intro x hx e
  subst e
  unfold ofB at h
  rw [Bool.and_eq_true] at h
  have h2 := List.all_eq_true.1 h.1 _ hx
  revert h2
  decide

theorem look_nosp {l : List At} (hl : l.all rightB = true) (p : ByteArray) : NoSp ((lookL l p).getD ⟨#[]⟩) := by
  unfold lookL
  cases hf : l.find? (declB p) with
  | none =>
    simp only
    split
    · intro x hx; cases hx
    · intro x hx; cases hx
  | some y =>
    simp only [Option.getD_some]
    have h1 := List.all_eq_true.1 hl y (List.mem_of_find?_eq_some hf)
    have h2 := List.find?_some hf
    unfold declB at h2
    have h3 : declF y = some p := by simpa using h2
    unfold rightB at h1
    rw [h3] at h1
    simp only [Bool.and_eq_true] at h1
    exact of_nosp h1.1

noncomputable def pairN (ts : List Tk) (i : Nat) (x : At) : ByteArray × ByteArray := ((meanF ts i (preS x.name)).getD ⟨#[]⟩, locS x.name)

noncomputable def pairsN (ts : List Tk) (i : Nat) (l : List At) : List (ByteArray × ByteArray) := (l.filter cntB).map (pairN ts i)

theorem meanF_look {ts : List Tk} {i : Nat} (h : (outAts ts i).all rightB = true) (p : ByteArray) : meanF ts i p = lookL (outAts ts i) p := by
  rw [meanF_out]
  exact meanL_look p h

theorem pair_mem {ts : List Tk} {i : Nat} (h : (outAts ts i).all rightB = true) (l : List At) (x : At) : keyN ts i x ∈ keysN ts i l ↔ pairN ts i x ∈ pairsN ts i l := by
  unfold keysN pairsN
  rw [List.mem_map, List.mem_map]
  refine exists_congr fun y => and_congr_right fun _ => ?_
  unfold keyN pairN
  have n1 : NoSp ((meanF ts i (preS y.name)).getD ⟨#[]⟩) := by rw [meanF_look h]; exact look_nosp h _
  have n2 : NoSp ((meanF ts i (preS x.name)).getD ⟨#[]⟩) := by rw [meanF_look h]; exact look_nosp h _
  constructor
  · intro e
    obtain ⟨e1, e2⟩ := key_inj n1 n2 e
    rw [e1, e2]
  · intro e
    have e1 := congrArg Prod.fst e
    have e2 := congrArg Prod.snd e
    simp only at e1 e2
    rw [e1, e2]

theorem pairsN_skip {ts : List Tk} {i : Nat} {l : List At} {x : At} (hc : cntB x = false) : pairsN ts i (l ++ [x]) = pairsN ts i l := by
  unfold pairsN
  rw [List.filter_append]
  simp [hc]

theorem pairsN_more {ts : List Tk} {i : Nat} {l : List At} {x : At} (hc : cntB x = true) : pairsN ts i (l ++ [x]) = pairsN ts i l ++ [pairN ts i x] := by
  unfold pairsN
  rw [List.filter_append]
  simp [hc]

theorem cntB_is (x : At) : cntB x = (!decide ((preS x.name).size = 0) && !decide (preS x.name = nsS)) := by
  have h0 : preS nsS = ⟨#[]⟩ := by decide +kernel
  unfold cntB declF
  by_cases h1 : x.name = nsS
  · rw [if_pos h1, h1, h0]
    rfl
  · rw [if_neg h1]
    by_cases h2 : preS x.name = nsS
    · rw [if_pos h2, decide_eq_true h2]
      simp
    · rw [if_neg h2, decide_eq_false h2]
      simp

/-- Pairs as cells. -/
def prC (ps : List (ByteArray × ByteArray)) : List Value := ps.flatMap fun q => [.string q.1, .string q.2]

theorem prC_snoc (ps : List (ByteArray × ByteArray)) (q : ByteArray × ByteArray) : prC (ps ++ [q]) = prC ps ++ [.string q.1, .string q.2] := by
  unfold prC
  rw [List.flatMap_append]
  simp

theorem prC_get : ∀ (ps : List (ByteArray × ByteArray)) (j : Nat) (h : j < ps.length), (prC ps)[j * 2]? = some (.string ps[j].1) ∧ (prC ps)[j * 2 + 1]? = some (.string ps[j].2)
  | [], j, h => by simp at h
  | x :: ps, 0, h => ⟨rfl, rfl⟩
  | x :: ps, j + 1, h => by
    have := prC_get ps j (by simpa using h)
    rw [show (j + 1) * 2 = j * 2 + 1 + 1 by omega]
    exact this

/-- A row of pairs can be read. -/
def PrRow (w : World) (a : Option Addr) (ps : List (ByteArray × ByteArray)) : Prop := ∀ j (h : j < ps.length), ∃ g, a = some ⟨g, 0, none⟩ ∧ g < w.heap.size ∧ w.cell? ⟨g, j * 2, none⟩ = some (.string ps[j].1) ∧ w.cell? ⟨g, j * 2 + 1, none⟩ = some (.string ps[j].2)

theorem PrRow.below {w w' : World} {a : Option Addr} {ps : List (ByteArray × ByteArray)} (h : PrRow w a ps) (hb : Below w.heap.size w w') : PrRow w' a ps := by
  intro j hj
  obtain ⟨g, e, hg, c1, c2⟩ := h j hj
  exact ⟨g, e, Nat.lt_of_lt_of_le hg hb.size, (hb.cell (p := ⟨g, j * 2, none⟩) hg).trans c1, (hb.cell (p := ⟨g, j * 2 + 1, none⟩) hg).trans c2⟩

theorem PrRow.of {w : World} {B : Nat} {a : Option Addr} {c : Nat} {ps : List (ByteArray × ByteArray)} (h : w.ownsRow B 141 2 (.slice a ps.length c) ps.length (prC ps)) : PrRow w a ps := by
  intro j hj
  rcases h.2 with ⟨_, h0⟩ | ⟨g, cap, cur, e, hg, hh, h3⟩
  · omega
  · cases e
    obtain ⟨p1, p2⟩ := prC_get ps j hj
    exact ⟨g, rfl, lt_of_heap hh, by rw [World.ownsRow.cellAt h (j * 2) (by omega)]; exact p1, by rw [World.ownsRow.cellAt h (j * 2 + 1) (by omega)]; exact p2⟩

theorem prs_more {w1 : World} {B : Nat} {v : Value} {ps : List (ByteArray × ByteArray)} {q : ByteArray × ByteArray} (h : w1.ownsRow B 141 2 v (ps.length + 1) (prC ps ++ [.string q.1, .string q.2])) : ∃ a c, v = .slice a (ps ++ [q]).length c ∧ w1.ownsRow B 141 2 (.slice a (ps ++ [q]).length c) (ps ++ [q]).length (prC (ps ++ [q])) := by
  have e : (ps ++ [q]).length = ps.length + 1 := by rw [List.length_append]; rfl
  rw [e, prC_snoc]
  rcases h.2 with ⟨rfl, h0⟩ | ⟨g, cap, cur, rfl, h3⟩
  · omega
  · exact ⟨_, _, rfl, h⟩

/-- One of them is it. -/
noncomputable def hasP (ps : List (ByteArray × ByteArray)) (q : ByteArray × ByteArray) : Bool := open Classical in decide (q ∈ ps)

theorem hasP_t {ps : List (ByteArray × ByteArray)} {q : ByteArray × ByteArray} (h : q ∈ ps) : hasP ps q = true := by unfold hasP; simp [h]

theorem hasP_f {ps : List (ByteArray × ByteArray)} {q : ByteArray × ByteArray} (h : ¬ q ∈ ps) : hasP ps q = false := by unfold hasP; simp [h]

set_option maxRecDepth 4000 in
set_option maxHeartbeats 2000000 in
theorem cIndexP (a : Option Addr) (cap : Nat) (ps : List (ByteArray × ByteArray)) (m l : ByteArray) (w : World) (hR : PrRow w a ps) (hn : ps.length ≤ 1048576) :
    Calls Tryz.prog 141 #[.slice a ps.length cap, .agg #[.string m, .string l]] w fun e w' => ∃ r : Int, e = .returned (.int .i64 r) ∧ decide (0 ≤ r) = hasP ps (m, l) ∧ Below w.heap.size w w' := by
  obtain ⟨V, hV⟩ : ∃ V, hasP ps (m, l) = V := ⟨_, rfl⟩
  have HF : Hid (¬ (m, l) ∈ ps → V = false) := fun h => by rw [← hV]; exact hasP_f h
  have HT : Hid ((m, l) ∈ ps → V = true) := fun h => by rw [← hV]; exact hasP_t h
  rw [hV]
  clear hV
  have HR := hid hR
  have HB0 := hid ((Below.refl w.heap.size w).alloc (Nat.le_refl _) (.cells #[.string m, .string l] 141))
  have HX := hid (box_two w (.string m) (.string l) 141)
  clear hR
  obtain ⟨n, hnn⟩ : ∃ n, ps.length = n := ⟨_, rfl⟩
  have HN := hid hnn
  rw [hnn] at hn ⊢
  clear hnn
  go_enter Tryz.func141, Tryz.ntmps141
  go_wp2_with fail
  go_loopw [8] (fun k wr => ∃ i : Nat, k = .int .i64 (i : Int) ∧ i ≤ n ∧ Hid (¬ (m, l) ∈ ps.take i) ∧ Hid (Below (w.heap.size + 1) (w.alloc (.cells #[.string m, .string l] 141)) wr)) (fun k _ => n - (intOf k).toNat)
  case atStart => exact ⟨0, rfl, Nat.zero_le _, by show ¬ _; simp, Below.refl _ _⟩
  case round =>
    obtain ⟨i, rfl, hi, HO, HB⟩ := hrel
    have k1 := (HB.out.cell (p := ⟨w.heap.size, 0, none⟩) (Nat.lt_succ_self _)).trans HX.out.1
    have k2 := (HB.out.cell (p := ⟨w.heap.size, 1, none⟩) (Nat.lt_succ_self _)).trans HX.out.2.1
    have HBw := hid (HB0.out.trans (HB.out.mono (Nat.le_succ _)))
    by_cases hlt : i < n
    · have his : i < ps.length := by rw [HN.out]; exact hlt
      obtain ⟨g, rfl, hg, c1, c2⟩ := (HR.out.below HBw.out) i his
      have hin : (i : Int) < (n : Int) := by omega
      have hin0 : (0 : Int) ≤ (i : Int) := by omega
      have q1 := str_beq m ps[i].1
      have q2 := str_beq l ps[i].2
      have HTK := hid (take_snocN his)
      have HYES := hid (show m = ps[i].1 → l = ps[i].2 → V = true from fun e1 e2 => HT.out (by rw [e1, e2]; exact List.getElem_mem his))
      have HNO := hid (show ¬ (m = ps[i].1 ∧ l = ps[i].2) → ¬ (m, l) ∈ ps.take (i + 1) from fun h hm => by
        rw [HTK.out] at hm
        rcases List.mem_append.1 hm with h' | h'
        · exact HO.out h'
        · rw [List.mem_singleton] at h'
          exact h ⟨congrArg Prod.fst h', congrArg Prod.snd h'⟩)
      generalize ps[i].1 = m' at *
      generalize ps[i].2 = l' at *
      by_cases e1 : m = m'
      · rw [decide_eq_true e1] at q1
        by_cases e2 : l = l'
        · rw [decide_eq_true e2] at q2
          have HV := hid (HYES.out e1 e2)
          clear HNO HYES e1 e2
          go_wp2_with fail
          go_quiet (fail)
          go_wp2_with fail
          go_ret
          exact ⟨_, rfl, by rw [HV.out]; exact decide_eq_true hin0, below_drewN HBw.out _⟩
        · rw [decide_eq_false e2] at q2
          have HN2 := hid (HNO.out (fun h => e2 h.2))
          clear HNO HYES e1 e2
          go_wp2_with fail
          go_quiet (fail)
          go_wp2_with fail
          go_roundw
          case rel => exact ⟨i + 1, by go_num, by omega, HN2.out, below_drewN HB.out _⟩
          case measure => simp [intOf]; omega
      · rw [decide_eq_false e1] at q1
        have HN2 := hid (HNO.out (fun h => e1 h.1))
        clear HNO HYES e1 q2
        go_wp2_with fail
        go_quiet (fail)
        go_wp2_with fail
        go_roundw
        case rel => exact ⟨i + 1, by go_num, by omega, HN2.out, below_drewN HB.out _⟩
        case measure => simp [intOf]; omega
    · have hie : i = n := by omega
      subst hie
      have HV := hid (HF.out (by
        have h := HO.out
        rw [List.take_of_length_le (by rw [HN.out]; exact Nat.le_refl _)] at h
        exact h))
      go_wp2_with fail
      go_ret
      exact ⟨_, rfl, by rw [HV.out]; rfl, HBw.out⟩

set_option maxHeartbeats 2000000 in
theorem cContainsP (a : Option Addr) (cap : Nat) (ps : List (ByteArray × ByteArray)) (m l : ByteArray) (w : World) (hR : PrRow w a ps) (hn : ps.length ≤ 1048576) :
    Calls Tryz.prog 123 #[.slice a ps.length cap, .agg #[.string m, .string l]] w fun e w' => e = .returned (.bool (hasP ps (m, l))) ∧ Below w.heap.size w w' := by
  have HB0 := hid ((Below.refl w.heap.size w).alloc (Nat.le_refl _) (.cells #[.string m, .string l] 141))
  have C := hid (cIndexP a cap ps m l (w.alloc (.cells #[.string m, .string l] 141)) (hR.below HB0.out) hn)
  clear hR
  generalize hasP ps (m, l) = V at *
  generalize ps.length = n at *
  go_enter Tryz.func123, Tryz.ntmps123
  go_wp2_with fail
  refine C.out.mono ?_
  rintro e w1 ⟨r, rfl, hr, hb1⟩
  have HB1 := hid (bb HB0.out hb1)
  clear hb1 C
  go_wp2_with fail
  go_ret
  exact ⟨rfl, HB1.out⟩

end Go.Proofs.YtknpgdglabibiaaGreatDoor
