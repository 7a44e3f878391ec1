/- Rows of nodes of one's own, the attrs wherever. A shape written: contract of written. The one way to write it: contracts of the program's Canon, CanonAll and SameCanon. -/
import Derived.Test.YtmghipjpgoghlaaGreatM34
import Derived.Test.YtmghipjpgoghlaaGreatM30
import Derived.Test.YtmghipjpgoghlaaGreatM32
import Derived.Test.YtmghipjpgoghlaaGreatM25
import Derived.Laws.OwnMore
import Derived.Maps.AppendAt
namespace Go.Proofs.YtmghipjpgoghlaaGreat
open Go.RowKit
set_option linter.unusedVariables false
set_option linter.unusedSimpArgs false

/-- A row of nodes as cells, and where their attrs lie. -/
theorem rowE {w : World} {b o : Nat} {ts : List Tk} (h : TkRow w (some ⟨b, o, none⟩) ts) : ∀ n, n ≤ ts.length → ∃ es : List Nd.E, es.map (·.t) = ts.take n ∧ (∀ j u, (Nd.cs es)[j]? = some u → w.cell? ((⟨b, o, none⟩ : Addr).add j) = some u) ∧ ∀ e ∈ es, AtRow w e.a e.t.attrs
  | 0, _ => ⟨[], by simp, fun j u hj => by simp [Nd.cs] at hj, fun e he => absurd he List.not_mem_nil⟩
  | n + 1, hn => by
    obtain ⟨es, e1, e2, e3⟩ := rowE h n (by omega)
    obtain ⟨b', o', aa, ca, e, hb, q0, q1, q2, q3, q4⟩ := h n (by omega)
    obtain ⟨rfl, rfl⟩ : b = b' ∧ o = o' := by cases e; exact ⟨rfl, rfl⟩
    have hl : es.length = n := by
      have := congrArg List.length e1
      rw [List.length_map, List.length_take] at this
      omega
    refine ⟨es ++ [⟨ts[n], aa, ca⟩], by rw [List.map_append, e1, take_snocN (by omega)]; rfl, fun j u hj => ?_, fun e he => ?_⟩
    · rw [Nd.cs_app, Nd.cs_one] at hj
      by_cases hlt : j < (Nd.cs es).length
      · rw [List.getElem?_append_left hlt] at hj
        exact e2 j u hj
      · rw [List.getElem?_append_right (by omega)] at hj
        rw [Nd.cs_len, hl] at hj hlt
        rw [add_plainW]
        have h4 : j - n * 4 < 4 := by
          have := (List.getElem?_eq_some_iff.1 hj).1
          exact this
        obtain ⟨d, hd, hd4⟩ : ∃ d, j = n * 4 + d ∧ d < 4 := ⟨j - n * 4, by omega, h4⟩
        subst hd
        rw [show n * 4 + d - n * 4 = d by omega] at hj
        rw [← Nat.add_assoc]
        match d, hd4, hj with
        | 0, _, hj => cases hj; exact q0
        | 1, _, hj => cases hj; exact q1
        | 2, _, hj => cases hj; exact q2
        | 3, _, hj => cases hj; exact q3
    · rcases List.mem_append.1 he with h' | h'
      · exact e3 e h'
      · rw [List.mem_singleton] at h'
        subst h'
        exact q4

/-- A row of one's own, the attrs wherever. -/
theorem tk_own {w : World} {B g cap : Nat} {es : List Nd.E} (h : w.ownsRow B 33 4 (.slice (some ⟨g, 0, none⟩) es.length cap) es.length (Nd.cs es)) (ha : ∀ e ∈ es, AtRow w e.a e.t.attrs) : TkRow w (some ⟨g, 0, none⟩) (es.map (·.t)) := by
  intro j hj
  rw [List.length_map] at hj
  obtain ⟨k0, k1, k2, k3⟩ := Nd.cs_get es j hj
  have hx : ∀ k, k < es.length * 4 → ∀ u, (Nd.cs es)[k]? = some u → w.cell? ⟨g, 0 + k, none⟩ = some u := by
    intro k hk u hu
    rw [Nat.zero_add, World.ownsRow.cellAt h k hk]
    exact hu
  have hg : g < w.heap.size := by
    rcases h.2 with ⟨e, _⟩ | ⟨g', cap', cur, e, hg, hh, _⟩
    · cases e
    · cases e; exact lt_of_heap hh
  rw [List.getElem_map]
  exact ⟨g, 0, es[j].a, es[j].cap, rfl, hg, hx _ (by omega) _ k0, hx _ (by omega) _ k1, hx _ (by omega) _ k2, hx _ (by omega) _ k3, ha _ (List.getElem_mem hj)⟩

theorem infoNdW : (Tryz.prog.info? 33).map (fun i => (i.zero, i.size, i.bytes)) = some (some (.agg #[.int .i64 0, .string ⟨#[]⟩, .slice none 0 0, .string ⟨#[]⟩]), 4, 64) := by kernel_rfl

theorem own_some {w : World} {B n size : Nat} {e : TypeId} {v : Value} {xs : List Value} (h : w.ownsRow B e size v n xs) (hn : 0 < n) : ∃ g c, v = .slice (some ⟨g, 0, none⟩) n c ∧ B ≤ g ∧ g < w.heap.size := by
  rcases h.2 with ⟨_, h0⟩ | ⟨g, cap, cur, e1, hg, hh, _⟩
  · omega
  · exact ⟨g, cap, e1, hg, lt_of_heap hh⟩

theorem made_own (w : World) (B : Nat) (e : TypeId) (size : Nat) (hB : B ≤ w.heap.size) : (w.alloc (.cells #[] e)).ownsRow B e size (.slice (some ⟨w.heap.size, 0, none⟩) 0 0) 0 [] :=
  ⟨by simp, .inr ⟨w.heap.size, 0, #[], rfl, hB, heap_alloc_new _ _, Nat.le_refl _, Nat.zero_le _, by simp, by simp⟩⟩

end Go.Proofs.YtmghipjpgoghlaaGreat

namespace Go.Proofs.YtmghipjpgoghlaaGreat
open Go.RowKit
set_option linter.unusedVariables false
set_option linter.unusedSimpArgs false

theorem ta_el (v : Value) (w : World) : (Instr.typeAssert (.iface 102 v) 66 102 true).run Tryz.prog w = .ok (.tuple #[v, .bool true]) w := by
  simp [Instr.typeAssert, run_underlying Tryz.underlying102]

theorem ta_no (v : Value) (w : World) : (Instr.typeAssert (.iface 105 v) 66 102 true).run Tryz.prog w = .ok (.tuple #[.agg #[.string ⟨#[]⟩, .slice none 0 0, .slice none 0 0, .slice none 0 0], .bool false]) w := by
  simp [Instr.typeAssert, run_underlying Tryz.underlying102, Tryz.zeroValue102]

theorem ta_tx (v : Value) (w : World) : (Instr.typeAssert (.iface 105 v) 66 105 true).run Tryz.prog w = .ok (.tuple #[v, .bool true]) w := by
  simp [Instr.typeAssert, run_underlying Tryz.underlying105]

set_option maxRecDepth 8000 in
set_option maxHeartbeats 4000000 in
theorem cWritText (t : ByteArray) (w : World) (ht : t.size ≤ 1048576) : Calls Tryz.prog 38 #[.iface 105 (.string t)] w fun e w' => e = .returned (.string (escS false t)) ∧ Below w.heap.size w w' := by
  have C := hid (c_impl_Escaped t false w ht)
  have e1 : (⟨(escapedL false t.data.toList).toArray⟩ : ByteArray) = escS false t := rfl
  rw [e1] at C
  generalize escS false t = E at *
  have h1 := ta_no (.string t)
  have h2 := ta_tx (.string t)
  clear e1 ht
  go_enter Tryz.func38, Tryz.ntmps38
  go_wp2_with fail
  refine C.out.mono ?_
  rintro e w1 ⟨rfl, hb1⟩
  have HB1 := hid hb1
  clear hb1
  go_wp2_with fail
  go_ret
  exact ⟨rfl, HB1.out⟩

set_option maxRecDepth 8000 in
set_option maxHeartbeats 4000000 in
theorem cWritEl (f : Nat) (X : Nat → Prop) (CW : ∀ (v : Value) (s : ByteArray) (wx : World), ShAt X wx f v s → Calls Tryz.prog 38 #[v] wx fun e w' => e = .returned (.string s) ∧ Below wx.heap.size wx w')
    (nm : ByteArray) (a1 : Option Addr) (c1 : Nat) (ds : List At) (a2 : Option Addr) (c2 : Nat) (os : List At) (a3 : Option Addr) (c3 : Nat) (ss : List ByteArray) (w : World) (hs : (elS nm ds os ss).size ≤ 4000000000)
    (r1 : RowX X w a1 ds) (z1 : AtSz 1048576 ds) (n1 : ds.length ≤ 7) (r2 : RowX X w a2 os) (z2 : AtSz 1048576 os) (n2 : os.length ≤ 7) (n3 : ss.length ≤ 1048576) (hK : KidsAt X w f a3 ss) :
    Calls Tryz.prog 38 #[.iface 102 (.agg #[.string nm, .slice a1 ds.length c1, .slice a2 os.length c2, .slice a3 ss.length c3])] w fun e w' => e = .returned (.string (elS nm ds os ss)) ∧ Below w.heap.size w w' := by
  have hel : elS nm ds os ss = ((((((((⟨#[60]⟩ : ByteArray) ++ nm) ++ atsS ds ⟨#[]⟩) ++ atsS os ⟨#[]⟩) ++ ⟨#[62]⟩) ++ catL ss) ++ ⟨#[60, 47]⟩) ++ nm) ++ ⟨#[62]⟩ := rfl
  have hc4 : (catL ss).size ≤ 4000000000 := by
    rw [hel] at hs
    simp only [ByteArray.size_append] at hs
    omega
  have HB := hid ((Below.refl w.heap.size w).alloc (Nat.le_refl _) (.cells #[.string nm, .slice a1 ds.length c1, .slice a2 os.length c2, .slice a3 ss.length c3] 102))
  have M := hid (heap_alloc_new w (.cells #[.string nm, .slice a1 ds.length c1, .slice a2 os.length c2, .slice a3 ss.length c3] 102))
  obtain ⟨W, hW⟩ : ∃ W, w.alloc (.cells #[.string nm, .slice a1 ds.length c1, .slice a2 os.length c2, .slice a3 ss.length c3] 102) = W := ⟨_, rfl⟩
  rw [hW] at HB M
  have CA := hid (fun p : BW W => cShownAttrs7 a1 c1 ds p.w (r1.1.below (bb HB.out p.h)) z1 n1)
  have CB := hid (fun p : BW W => cShownAttrs7 a2 c2 os p.w (r2.1.below (bb HB.out p.h)) z2 n2)
  have CC := hid (fun p : BW W => cWrittenAll f X CW a3 c3 ss p.w (hK.below (bb HB.out p.h)) n3 hc4)
  have h1 := ta_el (.agg #[.string nm, .slice a1 ds.length c1, .slice a2 os.length c2, .slice a3 ss.length c3])
  obtain ⟨g, hg⟩ : ∃ g, w.heap.size = g := ⟨_, rfl⟩
  rw [hg] at M
  have k0 : ∀ p : BW W, p.w.cell? ⟨g, 0, none⟩ = some (.string nm) := fun p => (box4 (blk_below M.out p.h)).1.1
  have k1 : ∀ p : BW W, p.w.cell? ⟨g, 1, none⟩ = some (.slice a1 ds.length c1) := fun p => (box4 (blk_below M.out p.h)).1.2.1
  have k2 : ∀ p : BW W, p.w.cell? ⟨g, 2, none⟩ = some (.slice a2 os.length c2) := fun p => (box4 (blk_below M.out p.h)).1.2.2.1
  have k3 : ∀ p : BW W, p.w.cell? ⟨g, 3, none⟩ = some (.slice a3 ss.length c3) := fun p => (box4 (blk_below M.out p.h)).1.2.2.2
  have HNB := hid (bw_any W)
  have HW := hid hW
  have Hg := hid hg
  rw [hel] at hs ⊢
  generalize atsS ds ⟨#[]⟩ = T1 at *
  generalize atsS os ⟨#[]⟩ = T2 at *
  generalize catL ss = T3 at *
  generalize ds.length = m1 at *
  generalize os.length = m2 at *
  generalize ss.length = m3 at *
  clear hel CW r1 z1 n1 r2 z2 n2 n3 hK hc4 M hW hg
  obtain ⟨B60, q60⟩ : ∃ B : ByteArray, (⟨#[60]⟩ : ByteArray) = B := ⟨_, rfl⟩
  obtain ⟨B62, q62⟩ : ∃ B : ByteArray, (⟨#[62]⟩ : ByteArray) = B := ⟨_, rfl⟩
  obtain ⟨B6047, q6047⟩ : ∃ B : ByteArray, (⟨#[60, 47]⟩ : ByteArray) = B := ⟨_, rfl⟩
  have Q60 := hid q60
  have Q62 := hid q62
  have Q6047 := hid q6047
  rw [q60, q62, q6047] at hs ⊢
  clear q60 q62 q6047
  obtain ⟨S1, s1⟩ : ∃ S, B60 ++ nm = S := ⟨_, rfl⟩
  obtain ⟨S2, s2⟩ : ∃ S, S1 ++ T1 = S := ⟨_, rfl⟩
  obtain ⟨S3, s3⟩ : ∃ S, S2 ++ T2 = S := ⟨_, rfl⟩
  obtain ⟨S4, s4⟩ : ∃ S, S3 ++ B62 = S := ⟨_, rfl⟩
  obtain ⟨S5, s5⟩ : ∃ S, S4 ++ T3 = S := ⟨_, rfl⟩
  obtain ⟨S6, s6⟩ : ∃ S, S5 ++ B6047 = S := ⟨_, rfl⟩
  obtain ⟨S7, s7⟩ : ∃ S, S6 ++ nm = S := ⟨_, rfl⟩
  obtain ⟨S8, s8⟩ : ∃ S, S7 ++ B62 = S := ⟨_, rfl⟩
  rw [s1, s2, s3, s4, s5, s6, s7, s8] at hs ⊢
  have z1 := of_size s1
  have z2 := of_size s2
  have z3 := of_size s3
  have z4 := of_size s4
  have z5 := of_size s5
  have z6 := of_size s6
  have z7 := of_size s7
  have z8 := of_size s8
  have f1 : ¬ 9223372036854775807 < B60.size + nm.size := by omega
  have f2 : ¬ 9223372036854775807 < S1.size + T1.size := by omega
  have f3 : ¬ 9223372036854775807 < S2.size + T2.size := by omega
  have f4 : ¬ 9223372036854775807 < S3.size + B62.size := by omega
  have f5 : ¬ 9223372036854775807 < S4.size + T3.size := by omega
  have f6 : ¬ 9223372036854775807 < S5.size + B6047.size := by omega
  have f7 : ¬ 9223372036854775807 < S6.size + nm.size := by omega
  have f8 : ¬ 9223372036854775807 < S7.size + B62.size := by omega
  clear z1 z2 z3 z4 z5 z6 z7 z8 hs
  go_enter Tryz.func38, Tryz.ntmps38
  go_wp2_with fail
  simp only [HW.out, Hg.out, Q60.out, Q62.out, Q6047.out]
  haveI := HNB.out
  refine wp_region_below (by kernel_rfl) (by kernel_rfl) (Below.refl W.heap.size W) ?_
  repeat (go_big_quiet_step ((first | (go_at_call 70; first | (with_reducible exact calls_bw _ (CA.out _)) | (with_reducible exact calls_bw _ (CB.out _))) | (go_at_call 71; exact calls_bw _ (CC.out _)))))
  refine wpQuiet_nil ?_
  intro _ hw'
  obtain ⟨⟨wq, hwq⟩, hw''⟩ := hw'
  subst hw''
  have HWQ := hid (bb HB.out hwq)
  clear hwq k0 k1 k2 k3
  go_wp2_with fail
  go_ret
  exact ⟨rfl, HWQ.out⟩

theorem cWritten (X : Nat → Prop) : ∀ (f : Nat) (v : Value) (s : ByteArray) (w : World), ShAt X w f v s → Calls Tryz.prog 38 #[v] w fun e w' => e = .returned (.string s) ∧ Below w.heap.size w w'
  | 0, v, s, w, h => h.elim
  | f + 1, v, s, w, h => by
    obtain ⟨h0, ⟨t, rfl, ht, rfl⟩ | ⟨nm, a1, c1, ds, a2, c2, os, a3, c3, ss, rfl, e2, e3, e4, e5, e6, e7, e8, e9, e10, rfl⟩⟩ := h
    · exact cWritText t w ht
    · exact cWritEl f X (cWritten X f) nm a1 c1 ds a2 c2 os a3 c3 ss w h0 e3 e4 e5 e6 e7 e8 e9 e10

end Go.Proofs.YtmghipjpgoghlaaGreat

namespace Go.Proofs.YtmghipjpgoghlaaGreat
open Go.RowKit
set_option linter.unusedVariables false
set_option linter.unusedSimpArgs false

theorem cNodeAll (ts : List Tk) (a : Option Addr) (cap : Nat) (but : Int) (hN : NamesP ts) (hz : TksSz 1048576 ts) : ∀ f, NodeC ts a cap but f
  | 0 => fun k sd l2 pl F F2 C C2 w hR hk hf => absurd hf (by omega)
  | f + 1 => cNode1 ts a cap but f (cNodeAll ts a cap but hN hz f) hN hz

theorem cLookupP (a : Option Addr) (cap : Nat) (ts : List Tk) (k : Nat) (w : World) (hR : TkRow w a ts) (hT : TreeP ts) (hk : k < ts.length) (hn : ts.length ≤ 1048576) (hz : TksSz 1048576 ts) (hr : (outAts ts k).all rightB = true) :
    ∃ pl, outAts ts k = (nodeAt ts k).attrs ++ pl ∧ Calls Tryz.prog 37 #[.slice a ts.length cap, .int .i64 (nodeAt ts k).kind] w fun e w' =>
      ∃ F C, e = .returned (.tuple #[.func (.func F) #[] C, .bool true]) ∧ Asks F C w' pl ∧ Below w.heap.size w w' := by
  obtain ⟨h1, h2⟩ := chain_at hT hk
  obtain ⟨r, hc⟩ := chain_head ts k
  have hl : 0 < (chainF ts (k + 1)).length := by rw [hc]; exact Nat.succ_pos _
  have h3 := (h1 0 hl).2.1
  have e0 : (chainF ts (k + 1))[0] = k := by simp [hc]
  rw [e0] at h3
  have ek : (nodeAt ts k).kind = kAt (chainF ts (k + 1)) 1 := by
    rw [← h3, nodeAt_at hk]
    unfold parI
    rw [List.getElem?_eq_getElem hk]
  have h := cLookupC a cap ts _ h1 hn hz ((chainF ts (k + 1)).length - 1) 1 (by omega) w hR
  have eo : outAts ts k = (nodeAt ts k).attrs ++ upAts ts ((chainF ts (k + 1)).drop 1) := by
    unfold outAts
    rw [hc, nodeAt_at hk]
    unfold upAts
    rw [List.flatMap_cons, List.getElem?_eq_getElem hk]
    rfl
  refine ⟨_, eo, ?_⟩
  rw [ek]
  have hr2 : (upAts ts ((chainF ts (k + 1)).drop 1)).all rightB = true := by
    rw [eo, List.all_append, Bool.and_eq_true] at hr
    exact hr.2
  refine h.mono fun e w' ⟨v, he, hv, hb⟩ => ?_
  rw [hr2] at he
  obtain ⟨F, C, rfl, hA⟩ := hv hr2
  exact ⟨F, C, he, hA, hb⟩

set_option maxRecDepth 8000 in
set_option maxHeartbeats 4000000 in
theorem cCanonJ (a : Option Addr) (cap : Nat) (ts : List Tk) (x y : Int) (w : World) (hR : TkRow w a ts) (hn : ts.length ≤ 1048576) (hz : TksSz 1048576 ts) :
    Calls Tryz.prog 11 #[.slice a ts.length cap, .int .i64 x, .int .i64 y] w fun e w' => e = .returned (.string (canonI ts x y)) ∧ Below w.heap.size w w' := by
  have CN := hid (cNamesOkI a cap ts w hR hn hz)
  have CE := hid (fun wx (hb : Below w.heap.size w wx) => cElementThere a cap ts x wx (hR.below hb) hn hz)
  have CH := hid (fun wx (hb : Below w.heap.size w wx) => cThere a cap ts y wx (hR.below hb) hn hz)
  cases h1 : namesB ts with
  | false =>
    rw [canonI_no (by unfold canB; rw [h1]; rfl)]
    rw [h1] at CN
    clear hR hz h1 CE CH
    generalize ts.length = n at *
    go_enter Tryz.func11, Tryz.ntmps11
    go_wp2_with fail
    refine CN.out.mono ?_
    rintro e w1 ⟨rfl, hb1⟩
    have HB1 := hid hb1
    clear hb1 CN
    go_wp2_with fail
    go_ret
    exact ⟨rfl, HB1.out⟩
  | true =>
    rw [h1] at CN
    cases h2 : elemB ts x with
    | false =>
      rw [canonI_no (by unfold canB; rw [h1, h2]; rfl)]
      rw [h2] at CE
      clear hR hz h1 h2 CH
      generalize ts.length = n at *
      go_enter Tryz.func11, Tryz.ntmps11
      go_wp2_with fail
      refine CN.out.mono ?_
      rintro e w1 ⟨rfl, hb1⟩
      have HB1 := hid hb1
      clear hb1 CN
      go_wp2_with fail
      refine (CE.out _ HB1.out).mono ?_
      rintro e w2 ⟨rfl, hb2⟩
      have HB2 := hid (bb HB1.out hb2)
      clear hb2 CE
      go_wp2_with fail
      go_ret
      exact ⟨rfl, HB2.out⟩
    | true =>
      rw [h2] at CE
      by_cases h4 : y = x
      · rw [canonI_no (by unfold canB; rw [h1, h2, decide_eq_true h4]; simp)]
        subst h4
        have hyy : (y == y) = true := by simp
        clear hR hz h1 h2 CH
        generalize ts.length = n at *
        go_enter Tryz.func11, Tryz.ntmps11
        go_wp2_with fail
        refine CN.out.mono ?_
        rintro e w1 ⟨rfl, hb1⟩
        have HB1 := hid hb1
        clear hb1 CN
        go_wp2_with fail
        refine (CE.out _ HB1.out).mono ?_
        rintro e w2 ⟨rfl, hb2⟩
        have HB2 := hid (bb HB1.out hb2)
        clear hb2 CE
        go_wp2_with fail
        go_ret
        exact ⟨rfl, HB2.out⟩
      · have hyx : (y == x) = false := by simpa using h4
        have hN : NamesP ts := by
          unfold namesB at h1
          simpa using h1
        obtain ⟨hT, k, rfl, hk⟩ := elemB_t h2
        have hne : ¬ (nodeAt ts k).name.size = 0 := by
          intro q
          unfold elemB at h2
          rw [Bool.and_eq_true] at h2
          have h5 := h2.2
          rw [show ((k : Int).toNat) = k from rfl, nameI_at hk, ← nodeAt_at hk, decide_eq_true q] at h5
          cases h5
        have hr := right_of hN hk hne
        obtain ⟨pl, hpl, _⟩ := cLookupP a cap ts k w hR hT hk hn hz hr
        have hpl2 : ∀ wx, Below w.heap.size w wx → Calls Tryz.prog 37 #[.slice a ts.length cap, .int .i64 (nodeAt ts k).kind] wx fun e w' => ∃ F C, e = .returned (.tuple #[.func (.func F) #[] C, .bool true]) ∧ Asks F C w' pl ∧ Below wx.heap.size wx w' := fun wx hb => by
          obtain ⟨pl', hpl', h⟩ := cLookupP a cap ts k wx (hR.below hb) hT hk hn hz hr
          have e : pl' = pl := by
            rw [hpl] at hpl'
            exact (List.append_cancel_left hpl').symm
          subst e
          exact h
        have CL := hid hpl2
        have hky : ¬ (k : Int) = y := fun e => h4 e.symm
        have CC := hid (fun (F : FuncId) (C : Array Value) wx (hb : Below w.heap.size w wx) (hA : Asks F C wx pl) => cNodeAll ts a cap y hN hz ts.length k [] [] pl F 40 C #[] wx (hR.below hb) hk (by omega) hky hpl saidR_nil hA (cAround wx))
        have CW := hid (fun (X : Nat → Prop) (v : Value) (s : ByteArray) (wx : World) (h : ShAt X wx ts.length v s) => cWritten X ts.length v s wx h)
        obtain ⟨gb, go, aa, ca, rfl, hgb, q0, q1, q2, q3, hra⟩ := hR k hk
        rw [← nodeAt_at hk] at q0
        have hkn : (k : Int) < (ts.length : Int) := by omega
        have HGB := hid hgb
        have HQ0 := hid q0
        by_cases h5 : y = -1
        · rw [canonI_yes (by unfold canB; rw [h1, h2, decide_eq_false h4, decide_eq_true (show -1 ≤ y ∧ y ≤ (ts.length : Int) - 1 by omega)]; rfl), show ((k : Int).toNat) = k from rfl]
          have hd : (y != -1) = false := by simp [h5]
          clear hR hz h1 h2 h4 h5 hT hk hN hne hr hpl hpl2 hky hgb q0 q1 q2 q3 hra CH
          generalize canonN ts y ts.length k [] = R at *
          generalize ts.length = n at *
          generalize (nodeAt ts k).kind = tk at *
          go_enter Tryz.func11, Tryz.ntmps11
          go_wp2_with fail
          refine CN.out.mono ?_
          rintro e w1 ⟨rfl, hb1⟩
          have HB1 := hid hb1
          clear hb1 CN
          go_wp2_with fail
          refine (CE.out _ HB1.out).mono ?_
          rintro e w2 ⟨rfl, hb2⟩
          have HB2 := hid (bb HB1.out hb2)
          have q0 := (HB2.out.cell (p := ⟨gb, go + k * 4, none⟩) HGB.out).trans HQ0.out
          clear hb2 CE HB1
          go_wp2_with fail
          refine (CL.out _ HB2.out).mono ?_
          rintro e w3 ⟨F, C, rfl, hA, hb3⟩
          have HB3 := hid (bb HB2.out hb3)
          have HA := hid hA
          clear hb3 hA HB2 q0 CL
          go_wp2_with fail
          refine (CC.out F C _ HB3.out HA.out).mono ?_
          rintro e w4 ⟨v, rfl, hv, hb4⟩
          have HB4 := hid (bb HB3.out hb4)
          have HV := hid (CW.out _ v R w4 hv)
          clear hb4 hv CC CW
          go_wp2_with fail
          refine HV.out.mono ?_
          rintro e w5 ⟨rfl, hb5⟩
          have HB5 := hid (bb HB4.out hb5)
          clear hb5 HV
          go_wp2_with fail
          go_ret
          exact ⟨rfl, HB5.out⟩
        · have hd : (y != -1) = true := by simp [h5]
          cases h6 : hasB ts y with
          | false =>
            have h7 : decide (-1 ≤ y ∧ y ≤ (ts.length : Int) - 1) = false := by
              refine decide_eq_false fun q => ?_
              obtain ⟨m, rfl⟩ : ∃ m : Nat, y = m := ⟨y.toNat, by omega⟩
              rw [has_of hT (by omega)] at h6
              cases h6
            rw [canonI_no (by unfold canB; rw [h1, h2, h7]; rfl)]
            rw [h6] at CH
            clear hR hz h1 h2 h4 h5 h6 h7 hT hk hN hne hr hpl hpl2 hky hgb q0 q1 q2 q3 hra CC CW CL
            generalize ts.length = n at *
            go_enter Tryz.func11, Tryz.ntmps11
            go_wp2_with fail
            refine CN.out.mono ?_
            rintro e w1 ⟨rfl, hb1⟩
            have HB1 := hid hb1
            clear hb1 CN
            go_wp2_with fail
            refine (CE.out _ HB1.out).mono ?_
            rintro e w2 ⟨rfl, hb2⟩
            have HB2 := hid (bb HB1.out hb2)
            clear hb2 CE
            go_wp2_with fail
            refine (CH.out _ HB2.out).mono ?_
            rintro e w3 ⟨rfl, hb3⟩
            have HB3 := hid (bb HB2.out hb3)
            clear hb3 CH
            go_wp2_with fail
            go_ret
            exact ⟨rfl, HB3.out⟩
          | true =>
            obtain ⟨_, m, hm, hml⟩ := hasB_t h6
            rw [canonI_yes (by unfold canB; rw [h1, h2, decide_eq_false h4, decide_eq_true (show -1 ≤ y ∧ y ≤ (ts.length : Int) - 1 by omega)]; rfl), show ((k : Int).toNat) = k from rfl]
            rw [h6] at CH
            clear hR hz h1 h2 h4 h5 h6 hm hml hT hk hN hne hr hpl hpl2 hky hgb q0 q1 q2 q3 hra
            generalize canonN ts y ts.length k [] = R at *
            generalize ts.length = n at *
            generalize (nodeAt ts k).kind = tk at *
            go_enter Tryz.func11, Tryz.ntmps11
            go_wp2_with fail
            refine CN.out.mono ?_
            rintro e w1 ⟨rfl, hb1⟩
            have HB1 := hid hb1
            clear hb1 CN
            go_wp2_with fail
            refine (CE.out _ HB1.out).mono ?_
            rintro e w2 ⟨rfl, hb2⟩
            have HB2 := hid (bb HB1.out hb2)
            clear hb2 CE HB1
            go_wp2_with fail
            refine (CH.out _ HB2.out).mono ?_
            rintro e w6 ⟨rfl, hb6⟩
            have HB6 := hid (bb HB2.out hb6)
            have q0 := (HB6.out.cell (p := ⟨gb, go + k * 4, none⟩) HGB.out).trans HQ0.out
            clear hb6 CH HB2
            go_wp2_with fail
            refine (CL.out _ HB6.out).mono ?_
            rintro e w3 ⟨F, C, rfl, hA, hb3⟩
            have HB3 := hid (bb HB6.out hb3)
            have HA := hid hA
            clear hb3 hA HB6 q0 CL
            go_wp2_with fail
            refine (CC.out F C _ HB3.out HA.out).mono ?_
            rintro e w4 ⟨v, rfl, hv, hb4⟩
            have HB4 := hid (bb HB3.out hb4)
            have HV := hid (CW.out _ v R w4 hv)
            clear hb4 hv CC CW
            go_wp2_with fail
            refine HV.out.mono ?_
            rintro e w5 ⟨rfl, hb5⟩
            have HB5 := hid (bb HB4.out hb5)
            clear hb5 HV
            go_wp2_with fail
            go_ret
            exact ⟨rfl, HB5.out⟩

theorem cCanonI (a : Option Addr) (cap : Nat) (ts : List Tk) (x y : Int) (w : World) (hR : TkRow w a ts) (hc : ts.length ≤ cap) (hn : ts.length ≤ 1048576) (hz : TksSz 1048576 ts) :
    Calls Tryz.prog 11 #[.slice a ts.length cap, .int .i64 x, .int .i64 y] w fun e w' => e = .returned (.string (canonI ts x y)) ∧ Below w.heap.size w w' := cCanonJ a cap ts x y w hR hn hz

set_option maxHeartbeats 2000000 in
theorem cCanonAllJ (a : Option Addr) (cap : Nat) (ts : List Tk) (w : World) (hR : TkRow w a ts) (hn : ts.length ≤ 1048576) (hz : TksSz 1048576 ts) :
    Calls Tryz.prog 14 #[.slice a ts.length cap] w fun e w' => e = .returned (.string (canonI ts 0 (-1))) ∧ Below w.heap.size w w' := by
  have C := hid (cCanonJ a cap ts 0 (-1) w hR hn hz)
  clear hR hz
  generalize canonI ts 0 (-1) = R at *
  generalize ts.length = n at *
  go_enter Tryz.func14, Tryz.ntmps14
  go_wp2_with fail
  refine C.out.mono ?_
  rintro e w1 ⟨rfl, hb1⟩
  have HB1 := hid hb1
  clear hb1 C
  go_wp2_with fail
  go_ret
  exact ⟨rfl, HB1.out⟩

theorem cCanonAllI (a : Option Addr) (cap : Nat) (ts : List Tk) (w : World) (hR : TkRow w a ts) (hc : ts.length ≤ cap) (hn : ts.length ≤ 1048576) (hz : TksSz 1048576 ts) :
    Calls Tryz.prog 14 #[.slice a ts.length cap] w fun e w' => e = .returned (.string (canonI ts 0 (-1))) ∧ Below w.heap.size w w' := cCanonAllJ a cap ts w hR hn hz

set_option maxRecDepth 4000 in
set_option maxHeartbeats 4000000 in
theorem cSameCanonJ (a a2 : Option Addr) (cap cap2 : Nat) (ts us : List Tk) (w : World) (hR : TkRow w a ts) (hR2 : TkRow w a2 us) (hn : ts.length ≤ 1048576) (hn2 : us.length ≤ 1048576) (hz : TksSz 1048576 ts) (hz2 : TksSz 1048576 us) :
    Calls Tryz.prog 21 #[.slice a ts.length cap, .slice a2 us.length cap2] w fun e w' => e = .returned (.bool (sameC ts us)) ∧ Below w.heap.size w w' := by
  have CN := hid (cNamesOkI a cap ts w hR hn hz)
  have CN2 := hid (fun wx (hb : Below w.heap.size w wx) => cNamesOkI a2 cap2 us wx (hR2.below hb) hn2 hz2)
  have CA := hid (fun wx (hb : Below w.heap.size w wx) => cCanonAllJ a cap ts wx (hR.below hb) hn hz)
  have CA2 := hid (fun wx (hb : Below w.heap.size w wx) => cCanonAllJ a2 cap2 us wx (hR2.below hb) hn2 hz2)
  have HSM := hid (show sameC ts us = (namesB ts && (namesB us && ((canonI ts 0 (-1)).toList == (canonI us 0 (-1)).toList))) by unfold sameC; rw [str_beq])
  rw [HSM.out]
  clear hR hR2 hz hz2 HSM
  generalize canonI ts 0 (-1) = R1 at *
  generalize canonI us 0 (-1) = R2 at *
  generalize namesB ts = N1 at *
  generalize namesB us = N2 at *
  generalize ts.length = n at *
  generalize us.length = n2 at *
  cases N1 with
  | false =>
    clear CN2 CA CA2
    go_enter Tryz.func21, Tryz.ntmps21
    go_wp2_with fail
    refine CN.out.mono ?_
    rintro e w1 ⟨rfl, hb1⟩
    have HB1 := hid hb1
    clear hb1 CN
    go_wp2_with fail
    go_ret
    exact ⟨rfl, HB1.out⟩
  | true =>
    cases N2 with
    | false =>
      clear CA CA2
      go_enter Tryz.func21, Tryz.ntmps21
      go_wp2_with fail
      refine CN.out.mono ?_
      rintro e w1 ⟨rfl, hb1⟩
      have HB1 := hid hb1
      clear hb1 CN
      go_wp2_with fail
      refine (CN2.out _ HB1.out).mono ?_
      rintro e w2 ⟨rfl, hb2⟩
      have HB2 := hid (bb HB1.out hb2)
      clear hb2 CN2
      go_wp2_with fail
      go_ret
      exact ⟨rfl, HB2.out⟩
    | true =>
      go_enter Tryz.func21, Tryz.ntmps21
      go_wp2_with fail
      refine CN.out.mono ?_
      rintro e w1 ⟨rfl, hb1⟩
      have HB1 := hid hb1
      clear hb1 CN
      go_wp2_with fail
      refine (CN2.out _ HB1.out).mono ?_
      rintro e w2 ⟨rfl, hb2⟩
      have HB2 := hid (bb HB1.out hb2)
      clear hb2 CN2
      go_wp2_with fail
      refine (CA.out _ HB2.out).mono ?_
      rintro e w3 ⟨rfl, hb3⟩
      have HB3 := hid (bb HB2.out hb3)
      clear hb3 CA
      go_wp2_with fail
      refine (CA2.out _ HB3.out).mono ?_
      rintro e w4 ⟨rfl, hb4⟩
      have HB4 := hid (bb HB3.out hb4)
      clear hb4 CA2
      go_wp2_with fail
      go_ret
      exact ⟨rfl, HB4.out⟩

theorem cSameCanonI (a a2 : Option Addr) (cap cap2 : Nat) (ts us : List Tk) (w : World) (hR : TkRow w a ts) (hR2 : TkRow w a2 us) (hc : ts.length ≤ cap) (hc2 : us.length ≤ cap2) (hn : ts.length ≤ 1048576) (hn2 : us.length ≤ 1048576) (hz : TksSz 1048576 ts) (hz2 : TksSz 1048576 us) :
    Calls Tryz.prog 21 #[.slice a ts.length cap, .slice a2 us.length cap2] w fun e w' => e = .returned (.bool (sameC ts us)) ∧ Below w.heap.size w w' := cSameCanonJ a a2 cap cap2 ts us w hR hR2 hn hn2 hz hz2

end Go.Proofs.YtmghipjpgoghlaaGreat
