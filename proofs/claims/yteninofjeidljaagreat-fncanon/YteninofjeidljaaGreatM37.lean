/- Contract of the draw DrawCanon. Contract of ReadTree of the specification; the draw DrawCanonAll. A shape written: contract of written. The one way to write it: contracts of the program's Canon, CanonAll and SameCanon. -/
import Derived.Test.YteninofjeidljaaGreatM36
import Derived.Test.YteninofjeidljaaGreatM34
import Derived.Test.YteninofjeidljaaGreatM21
import Derived.Test.YteninofjeidljaaGreatM23
import Derived.Test.YteninofjeidljaaGreatM27
import Derived.Test.YteninofjeidljaaGreatM17
import Derived.OwnWalk
namespace Go.Proofs.YteninofjeidljaaGreat

open Go.RowKit

set_option linter.unusedVariables false

set_option linter.unusedSimpArgs false

/-- A tree and two places. -/
def DrawnC (w : World) (e : Ending) (w' : World) : Prop :=
  ∃ a' c' ts x y, e = .returned (.tuple #[.slice a' (ts : List Tk).length c', .int .i64 x, .int .i64 y]) ∧ TkRow w' a' ts ∧ ts.length ≤ 11 ∧ TksSz 30 ts ∧ (-1 ≤ x ∧ x ≤ 12) ∧ (-1 ≤ y ∧ y ≤ 12) ∧ (ts.length ≤ c' ∧ c' ≤ maxLen) ∧ Below w.heap.size w w'

set_option maxHeartbeats 2000000 in
theorem cDrawCanon (a : Option Addr) (len cap : Nat) (w : World) (hlen : len ≤ 4096) (hcr : CodeRow w a len) :
    Calls Tryz.prog 21 #[.slice a len cap] w (DrawnC w) := by
  have HR := hid hcr
  clear hcr
  go_enter Tryz.func21, Tryz.ntmps21
  go_wp2_with fail
  refine (cNew a len cap _ hlen HR.out).mono ?_
  rintro e w1 ⟨rfl, hC1⟩
  have HC1 := hid hC1
  clear hC1
  go_wp2_with fail
  refine (cDrawAny w a len cap _ _ hlen HR.out HC1.out).mono ?_
  rintro e w2 ⟨a', c', ts, rfl, hrow, hn, hz, hC2, _, hc1, hc2⟩
  have HC2 := hid hC2
  have HT := hid hrow
  have HN := hid hn
  have HZ := hid hz
  have HCP := hid (And.intro hc1 hc2)
  have CA := hid (fun wx (hC : Cur w a len cap w.heap.size wx) => cDrawAt a' ts.length c' hn w a len cap w.heap.size wx hlen HR.out hC)
  clear hrow hn hz hC2 hc1 hc2
  obtain ⟨LL, hLL⟩ : ∃ LL, ts.length = LL := ⟨_, rfl⟩
  have HLL := hid hLL
  rw [hLL] at CA HN ⊢
  clear hLL
  go_wp2_with fail
  refine (CA.out _ HC2.out).mono ?_
  rintro e w3 ⟨x, rfl, hx1, hx2, hC3, hG3⟩
  have HC3 := hid hC3
  have HT3 := hid (tk_keep HT.out HC2.out hG3)
  have HX := hid (And.intro hx1 hx2)
  clear hC3 hG3 hx1 hx2
  go_wp2_with fail
  refine (cOnce 2 w a len cap _ _ hlen HR.out HC3.out (by omega) (by omega)).mono ?_
  rintro e w4 ⟨q, rfl, hC4, hG4⟩
  have HC4 := hid hC4
  have HT4 := hid (tk_keep HT3.out HC3.out hG4)
  have HB4 := hid hC4.2.1
  clear hC4 hG4
  cases q with
  | true =>
    go_wp2_with fail
    go_ret3
    exact ⟨a', c', ts, x, -1, by rw [HLL.out]; rfl, HT4.out, by rw [HLL.out]; exact HN.out, HZ.out, HX.out, ⟨by omega, by omega⟩, HCP.out, HB4.out⟩
  | false =>
    go_wp2_with fail
    refine (CA.out _ HC4.out).mono ?_
    rintro e w5 ⟨y, rfl, hy1, hy2, hC5, hG5⟩
    have HT5 := hid (tk_keep HT4.out HC4.out hG5)
    have HB5 := hid hC5.2.1
    have HY := hid (And.intro hy1 hy2)
    clear hC5 hG5 hy1 hy2
    go_wp2_with fail
    go_ret3
    exact ⟨a', c', ts, x, y, by rw [HLL.out]; rfl, HT5.out, by rw [HLL.out]; exact HN.out, HZ.out, HX.out, HY.out, HCP.out, HB5.out⟩

end Go.Proofs.YteninofjeidljaaGreat

namespace Go.Proofs.YteninofjeidljaaGreat

open Go.RowKit

set_option linter.unusedVariables false

set_option linter.unusedSimpArgs false

set_option maxHeartbeats 2000000 in
theorem cTokensT (s : ByteArray) (w : World) (hs : s.size ≤ maxLen) : Calls Tryz.prog 68 #[.string s] w (TokPost s w) := by
  by_cases hbig : s.size ≤ 4000
  · exact cTokensS s w (by omega)
  · have hlen : s.data.toList.length = s.size := rfl
    have HB0 := hid ((((Below.refl w.heap.size w).alloc (Nat.le_refl _) (.cells #[] 49)).alloc (by simp) (.cells #[] 49)))
    have HN := hid (show toksF s.data.toList = none by unfold toksF; rw [if_neg (fun h => hbig (by rw [← hlen]; exact h.1))])
    have hd3 : decide ((4000 : Int) < (s.size : Int)) = true := decide_eq_true (by omega)
    have hm : s.size ≤ 9223372036854775807 := by unfold maxLen at hs; exact hs
    clear hs hlen
    go_enter Tryz.func68, Tryz.ntmps68
    go_wp2_with fail
    go_ret2
    exact tokPost_none HN.out rfl HB0.out

/-- What ReadTree tells. -/
def ReadPost (s : ByteArray) (w : World) (e : Ending) (w' : World) : Prop :=
  ∃ a c us b, e = .returned (.tuple #[.slice a (us : List Tk).length c, .bool b]) ∧ TkRow w' a us ∧ Below w.heap.size w w' ∧ (toksF s.data.toList = none → b = false) ∧ ∀ l, toksF s.data.toList = some l → b = (grownT l).isSome ∧ us = (grownT l).getD []

set_option maxHeartbeats 2000000 in
theorem cReadTreeS (s : ByteArray) (w : World) (hs : s.size ≤ maxLen) : Calls Tryz.prog 20 #[.string s] w (ReadPost s w) := by
  have CT := hid (cTokensT s w hs)
  clear hs
  cases ht : toksF s.data.toList with
  | none =>
    have HT := hid ht
    clear ht
    go_enter Tryz.func20, Tryz.ntmps20
    go_wp2_with fail
    refine CT.out.mono ?_
    rintro e w1 ⟨h1, -, hb1⟩
    obtain ⟨a1, c1, rfl⟩ := h1 HT.out
    have HB1 := hid hb1
    clear h1 hb1 CT
    go_wp2_with fail
    go_ret2
    exact ⟨_, _, [], false, rfl, fun j hj => absurd hj (Nat.not_lt_zero _), HB1.out.alloc HB1.out.size _, fun _ => rfl, fun l hl => by rw [HT.out] at hl; cases hl⟩
  | some l =>
    have HT := hid ht
    have hl : l.length ≤ 1048576 := by
      unfold toksF at ht
      split at ht
      · split at ht
        · cases ht
        · split at ht
          · rename_i q
            simp only [Option.some.injEq] at ht
            subst ht
            have := q.2
            omega
          · cases ht
      · cases ht
    clear ht
    have HL := hid hl
    clear hl
    go_enter Tryz.func20, Tryz.ntmps20
    go_wp2_with fail
    refine CT.out.mono ?_
    rintro e w1 ⟨-, h1, hb1⟩
    obtain ⟨a1, c1, rfl, hr1, hz1⟩ := h1 l HT.out
    have HB1 := hid hb1
    have CG := hid (cGrownS a1 c1 l w1 hr1 HL.out hz1)
    clear h1 hb1 CT hr1 hz1 HL
    generalize l.length = n at *
    go_wp2_with fail
    refine CG.out.mono ?_
    rintro e w2 ⟨a2, c2, rfl, hr2, hb2⟩
    have HR2 := hid hr2
    have HB2 := hid (bb HB1.out hb2)
    clear hr2 hb2 CG
    go_wp2_with fail
    go_ret2
    exact ⟨_, _, _, _, rfl, HR2.out, HB2.out, fun h => (by rw [HT.out] at h; cases h), fun m hm => by
      rw [HT.out] at hm
      simp only [Option.some.injEq] at hm
      subst hm
      exact ⟨rfl, rfl⟩⟩

/-- A tree that was drawn. -/
def DrawnA (w : World) (e : Ending) (w' : World) : Prop :=
  ∃ a' c' ts, e = .returned (.slice a' (ts : List Tk).length c') ∧ TkRow w' a' ts ∧ ts.length ≤ 11 ∧ TksSz 30 ts ∧ Below w.heap.size w w'

set_option maxHeartbeats 1000000 in
theorem cDrawTreeOkY (a : Option Addr) (len cap : Nat) (w : World) (hlen : len ≤ 4096) (hcr : CodeRow w a len) :
    Calls Tryz.prog 30 #[.slice a len cap] w (DrawnA w) := by
  have HR := hid hcr
  clear hcr
  go_enter Tryz.func30, Tryz.ntmps30
  go_wp2_with fail
  refine (cNew a len cap _ hlen HR.out).mono ?_
  rintro e w1 ⟨rfl, hC1⟩
  have HC1 := hid hC1
  clear hC1
  go_wp2_with fail
  refine (cDrawAny w a len cap _ _ hlen HR.out HC1.out).mono ?_
  rintro e w2 ⟨a', c', ts, rfl, hrow, hn, hz, hC2, _⟩
  have H := hid (And.intro hrow (And.intro hn (And.intro hz hC2.2.1)))
  clear hrow hn hz hC2
  go_wp2_with fail
  go_ret
  exact ⟨a', c', ts, rfl, H.out.1, H.out.2.1, H.out.2.2.1, H.out.2.2.2⟩

set_option maxHeartbeats 1000000 in
theorem cDrawCanonAllY (a : Option Addr) (len cap : Nat) (w : World) (hlen : len ≤ 4096) (hcr : CodeRow w a len) :
    Calls Tryz.prog 23 #[.slice a len cap] w (DrawnA w) := by
  have C := hid (cDrawTreeOkY a len cap w hlen hcr)
  clear hcr
  go_enter Tryz.func23, Tryz.ntmps23
  go_wp2_with fail
  refine C.out.mono ?_
  rintro e w1 ⟨a', c', ts, rfl, h1, h2, h3, h4⟩
  have H := hid (And.intro h1 (And.intro h2 (And.intro h3 h4)))
  clear h1 h2 h3 h4 C
  go_wp2_with fail
  go_ret
  exact ⟨a', c', ts, rfl, H.out.1, H.out.2.1, H.out.2.2.1, H.out.2.2.2⟩

end Go.Proofs.YteninofjeidljaaGreat

namespace Go.Proofs.YteninofjeidljaaGreat

open Go.RowKit

set_option linter.unusedVariables false

set_option linter.unusedSimpArgs false

theorem ta_el (v : Value) (w : World) : (Instr.typeAssert (.iface 150 v) 103 150 true).run Tryz.prog w = .ok (.tuple #[v, .bool true]) w := by
  simp [Instr.typeAssert, run_underlying Tryz.underlying150]

theorem ta_no (v : Value) (w : World) : (Instr.typeAssert (.iface 152 v) 103 150 true).run Tryz.prog w = .ok (.tuple #[.agg #[.string ⟨#[]⟩, .slice none 0 0, .slice none 0 0, .slice none 0 0], .bool false]) w := by
  simp [Instr.typeAssert, run_underlying Tryz.underlying150, Tryz.zeroValue150]

theorem ta_tx (v : Value) (w : World) : (Instr.typeAssert (.iface 152 v) 103 152 true).run Tryz.prog w = .ok (.tuple #[v, .bool true]) w := by
  simp [Instr.typeAssert, run_underlying Tryz.underlying152]

set_option maxRecDepth 8000 in
set_option maxHeartbeats 4000000 in
theorem cWritText (t : ByteArray) (w : World) (ht : t.size ≤ 1048576) : Calls Tryz.prog 74 #[.iface 152 (.string t)] w fun e w' => e = .returned (.string (escS false t)) ∧ Below w.heap.size w w' := by
  have C := hid (c_impl_Escaped t false w ht)
  have e1 : (⟨(escapedL false t.data.toList).toArray⟩ : ByteArray) = escS false t := rfl
  rw [e1] at C
  generalize escS false t = E at *
  have h1 := ta_no (.string t)
  have h2 := ta_tx (.string t)
  clear e1 ht
  go_enter Tryz.func74, Tryz.ntmps74
  go_wp2_with fail
  refine C.out.mono ?_
  rintro e w1 ⟨rfl, hb1⟩
  have HB1 := hid hb1
  clear hb1
  go_wp2_with fail
  go_ret
  exact ⟨rfl, HB1.out⟩

set_option maxRecDepth 8000 in
set_option maxHeartbeats 4000000 in
theorem cWritEl (f : Nat) (X : Nat → Prop) (CW : ∀ (v : Value) (s : ByteArray) (wx : World), ShAt X wx f v s → Calls Tryz.prog 74 #[v] wx fun e w' => e = .returned (.string s) ∧ Below wx.heap.size wx w')
    (nm : ByteArray) (a1 : Option Addr) (c1 : Nat) (ds : List At) (a2 : Option Addr) (c2 : Nat) (os : List At) (a3 : Option Addr) (c3 : Nat) (ss : List ByteArray) (w : World) (hs : (elS nm ds os ss).size ≤ 4000000000)
    (r1 : RowX X w a1 ds) (z1 : AtSz 1048576 ds) (n1 : ds.length ≤ 7) (r2 : RowX X w a2 os) (z2 : AtSz 1048576 os) (n2 : os.length ≤ 7) (n3 : ss.length ≤ 1048576) (hK : KidsAt X w f a3 ss) :
    Calls Tryz.prog 74 #[.iface 150 (.agg #[.string nm, .slice a1 ds.length c1, .slice a2 os.length c2, .slice a3 ss.length c3])] w fun e w' => e = .returned (.string (elS nm ds os ss)) ∧ Below w.heap.size w w' := by
  have hel : elS nm ds os ss = ((((((((⟨#[60]⟩ : ByteArray) ++ nm) ++ atsS ds ⟨#[]⟩) ++ atsS os ⟨#[]⟩) ++ ⟨#[62]⟩) ++ catL ss) ++ ⟨#[60, 47]⟩) ++ nm) ++ ⟨#[62]⟩ := rfl
  have hc4 : (catL ss).size ≤ 4000000000 := by
    rw [hel] at hs
    simp only [ByteArray.size_append] at hs
    omega
  have HB := hid ((Below.refl w.heap.size w).alloc (Nat.le_refl _) (.cells #[.string nm, .slice a1 ds.length c1, .slice a2 os.length c2, .slice a3 ss.length c3] 150))
  have M := hid (heap_alloc_new w (.cells #[.string nm, .slice a1 ds.length c1, .slice a2 os.length c2, .slice a3 ss.length c3] 150))
  obtain ⟨W, hW⟩ : ∃ W, w.alloc (.cells #[.string nm, .slice a1 ds.length c1, .slice a2 os.length c2, .slice a3 ss.length c3] 150) = W := ⟨_, rfl⟩
  rw [hW] at HB M
  have CA := hid (fun p : BW W => cShownAttrs7 a1 c1 ds p.w (r1.1.below (bb HB.out p.h)) z1 n1)
  have CB := hid (fun p : BW W => cShownAttrs7 a2 c2 os p.w (r2.1.below (bb HB.out p.h)) z2 n2)
  have CC := hid (fun p : BW W => cWrittenAll f X CW a3 c3 ss p.w (hK.below (bb HB.out p.h)) n3 hc4)
  have h1 := ta_el (.agg #[.string nm, .slice a1 ds.length c1, .slice a2 os.length c2, .slice a3 ss.length c3])
  obtain ⟨g, hg⟩ : ∃ g, w.heap.size = g := ⟨_, rfl⟩
  rw [hg] at M
  have k0 : ∀ p : BW W, p.w.cell? ⟨g, 0, none⟩ = some (.string nm) := fun p => (box4 (blk_below M.out p.h)).1.1
  have k1 : ∀ p : BW W, p.w.cell? ⟨g, 1, none⟩ = some (.slice a1 ds.length c1) := fun p => (box4 (blk_below M.out p.h)).1.2.1
  have k2 : ∀ p : BW W, p.w.cell? ⟨g, 2, none⟩ = some (.slice a2 os.length c2) := fun p => (box4 (blk_below M.out p.h)).1.2.2.1
  have k3 : ∀ p : BW W, p.w.cell? ⟨g, 3, none⟩ = some (.slice a3 ss.length c3) := fun p => (box4 (blk_below M.out p.h)).1.2.2.2
  have HNB := hid (bw_any W)
  have HW := hid hW
  have Hg := hid hg
  rw [hel] at hs ⊢
  generalize atsS ds ⟨#[]⟩ = T1 at *
  generalize atsS os ⟨#[]⟩ = T2 at *
  generalize catL ss = T3 at *
  generalize ds.length = m1 at *
  generalize os.length = m2 at *
  generalize ss.length = m3 at *
  clear hel CW r1 z1 n1 r2 z2 n2 n3 hK hc4 M hW hg
  obtain ⟨B60, q60⟩ : ∃ B : ByteArray, (⟨#[60]⟩ : ByteArray) = B := ⟨_, rfl⟩
  obtain ⟨B62, q62⟩ : ∃ B : ByteArray, (⟨#[62]⟩ : ByteArray) = B := ⟨_, rfl⟩
  obtain ⟨B6047, q6047⟩ : ∃ B : ByteArray, (⟨#[60, 47]⟩ : ByteArray) = B := ⟨_, rfl⟩
  have Q60 := hid q60
  have Q62 := hid q62
  have Q6047 := hid q6047
  rw [q60, q62, q6047] at hs ⊢
  clear q60 q62 q6047
  obtain ⟨S1, s1⟩ : ∃ S, B60 ++ nm = S := ⟨_, rfl⟩
  obtain ⟨S2, s2⟩ : ∃ S, S1 ++ T1 = S := ⟨_, rfl⟩
  obtain ⟨S3, s3⟩ : ∃ S, S2 ++ T2 = S := ⟨_, rfl⟩
  obtain ⟨S4, s4⟩ : ∃ S, S3 ++ B62 = S := ⟨_, rfl⟩
  obtain ⟨S5, s5⟩ : ∃ S, S4 ++ T3 = S := ⟨_, rfl⟩
  obtain ⟨S6, s6⟩ : ∃ S, S5 ++ B6047 = S := ⟨_, rfl⟩
  obtain ⟨S7, s7⟩ : ∃ S, S6 ++ nm = S := ⟨_, rfl⟩
  obtain ⟨S8, s8⟩ : ∃ S, S7 ++ B62 = S := ⟨_, rfl⟩
  rw [s1, s2, s3, s4, s5, s6, s7, s8] at hs ⊢
  have z1 := of_size s1
  have z2 := of_size s2
  have z3 := of_size s3
  have z4 := of_size s4
  have z5 := of_size s5
  have z6 := of_size s6
  have z7 := of_size s7
  have z8 := of_size s8
  have f1 : ¬ 9223372036854775807 < B60.size + nm.size := by omega
  have f2 : ¬ 9223372036854775807 < S1.size + T1.size := by omega
  have f3 : ¬ 9223372036854775807 < S2.size + T2.size := by omega
  have f4 : ¬ 9223372036854775807 < S3.size + B62.size := by omega
  have f5 : ¬ 9223372036854775807 < S4.size + T3.size := by omega
  have f6 : ¬ 9223372036854775807 < S5.size + B6047.size := by omega
  have f7 : ¬ 9223372036854775807 < S6.size + nm.size := by omega
  have f8 : ¬ 9223372036854775807 < S7.size + B62.size := by omega
  clear z1 z2 z3 z4 z5 z6 z7 z8 hs
  go_enter Tryz.func74, Tryz.ntmps74
  go_wp2_with fail
  simp only [HW.out, Hg.out, Q60.out, Q62.out, Q6047.out]
  haveI := HNB.out
  refine wp_region_below (by kernel_rfl) (by kernel_rfl) (Below.refl W.heap.size W) ?_
  repeat (go_big_quiet_step ((first | (go_at_call 87; first | (with_reducible exact calls_bw _ (CA.out _)) | (with_reducible exact calls_bw _ (CB.out _))) | (go_at_call 119; exact calls_bw _ (CC.out _)))))
  refine wpQuiet_nil ?_
  intro _ hw'
  obtain ⟨⟨wq, hwq⟩, hw''⟩ := hw'
  subst hw''
  have HWQ := hid (bb HB.out hwq)
  clear hwq k0 k1 k2 k3
  go_wp2_with fail
  go_ret
  exact ⟨rfl, HWQ.out⟩

theorem cWritten (X : Nat → Prop) : ∀ (f : Nat) (v : Value) (s : ByteArray) (w : World), ShAt X w f v s → Calls Tryz.prog 74 #[v] w fun e w' => e = .returned (.string s) ∧ Below w.heap.size w w'
  | 0, v, s, w, h => h.elim
  | f + 1, v, s, w, h => by
    obtain ⟨h0, ⟨t, rfl, ht, rfl⟩ | ⟨nm, a1, c1, ds, a2, c2, os, a3, c3, ss, rfl, e2, e3, e4, e5, e6, e7, e8, e9, e10, rfl⟩⟩ := h
    · exact cWritText t w ht
    · exact cWritEl f X (cWritten X f) nm a1 c1 ds a2 c2 os a3 c3 ss w h0 e3 e4 e5 e6 e7 e8 e9 e10

end Go.Proofs.YteninofjeidljaaGreat

namespace Go.Proofs.YteninofjeidljaaGreat

open Go.RowKit

set_option linter.unusedVariables false

set_option linter.unusedSimpArgs false

theorem cNodeAll (ts : List Tk) (a : Option Addr) (cap : Nat) (but : Int) (hN : NamesP ts) (hz : TksSz 1048576 ts) : ∀ f, NodeC ts a cap but f
  | 0 => fun k sd l2 pl F F2 C C2 w hR hk hf => absurd hf (by omega)
  | f + 1 => cNode1 ts a cap but f (cNodeAll ts a cap but hN hz f) hN hz

theorem cLookupP (a : Option Addr) (cap : Nat) (ts : List Tk) (k : Nat) (w : World) (hR : TkRow w a ts) (hT : TreeP ts) (hk : k < ts.length) (hn : ts.length ≤ 1048576) (hz : TksSz 1048576 ts) (hr : (outAts ts k).all rightB = true) :
    ∃ pl, outAts ts k = (nodeAt ts k).attrs ++ pl ∧ Calls Tryz.prog 73 #[.slice a ts.length cap, .int .i64 (nodeAt ts k).kind] w fun e w' =>
      ∃ F C, e = .returned (.tuple #[.func (.func F) #[] C, .bool true]) ∧ Asks F C w' pl ∧ Below w.heap.size w w' := by
  obtain ⟨h1, h2⟩ := chain_at hT hk
  obtain ⟨r, hc⟩ := chain_head ts k
  have hl : 0 < (chainF ts (k + 1)).length := by rw [hc]; exact Nat.succ_pos _
  have h3 := (h1 0 hl).2.1
  have e0 : (chainF ts (k + 1))[0] = k := by simp [hc]
  rw [e0] at h3
  have ek : (nodeAt ts k).kind = kAt (chainF ts (k + 1)) 1 := by
    rw [← h3, nodeAt_at hk]
    unfold parI
    rw [List.getElem?_eq_getElem hk]
  have h := cLookupC a cap ts _ h1 hn hz ((chainF ts (k + 1)).length - 1) 1 (by omega) w hR
  have eo : outAts ts k = (nodeAt ts k).attrs ++ upAts ts ((chainF ts (k + 1)).drop 1) := by
    unfold outAts
    rw [hc, nodeAt_at hk]
    unfold upAts
    rw [List.flatMap_cons, List.getElem?_eq_getElem hk]
    rfl
  refine ⟨_, eo, ?_⟩
  rw [ek]
  have hr2 : (upAts ts ((chainF ts (k + 1)).drop 1)).all rightB = true := by
    rw [eo, List.all_append, Bool.and_eq_true] at hr
    exact hr.2
  refine h.mono fun e w' ⟨v, he, hv, hb⟩ => ?_
  rw [hr2] at he
  obtain ⟨F, C, rfl, hA⟩ := hv hr2
  exact ⟨F, C, he, hA, hb⟩

set_option maxRecDepth 8000 in
set_option maxHeartbeats 4000000 in
theorem cCanonJ (a : Option Addr) (cap : Nat) (ts : List Tk) (x y : Int) (w : World) (hR : TkRow w a ts) (hn : ts.length ≤ 1048576) (hz : TksSz 1048576 ts) :
    Calls Tryz.prog 22 #[.slice a ts.length cap, .int .i64 x, .int .i64 y] w fun e w' => e = .returned (.string (canonI ts x y)) ∧ Below w.heap.size w w' := by
  have CN := hid (cNamesOkI a cap ts w hR hn hz)
  have CE := hid (fun wx (hb : Below w.heap.size w wx) => cElementThere a cap ts x wx (hR.below hb) hn hz)
  have CH := hid (fun wx (hb : Below w.heap.size w wx) => cThere a cap ts y wx (hR.below hb) hn hz)
  cases h1 : namesB ts with
  | false =>
    rw [canonI_no (by unfold canB; rw [h1]; rfl)]
    rw [h1] at CN
    clear hR hz h1 CE CH
    generalize ts.length = n at *
    go_enter Tryz.func22, Tryz.ntmps22
    go_wp2_with fail
    refine CN.out.mono ?_
    rintro e w1 ⟨rfl, hb1⟩
    have HB1 := hid hb1
    clear hb1 CN
    go_wp2_with fail
    go_ret
    exact ⟨rfl, HB1.out⟩
  | true =>
    rw [h1] at CN
    cases h2 : elemB ts x with
    | false =>
      rw [canonI_no (by unfold canB; rw [h1, h2]; rfl)]
      rw [h2] at CE
      clear hR hz h1 h2 CH
      generalize ts.length = n at *
      go_enter Tryz.func22, Tryz.ntmps22
      go_wp2_with fail
      refine CN.out.mono ?_
      rintro e w1 ⟨rfl, hb1⟩
      have HB1 := hid hb1
      clear hb1 CN
      go_wp2_with fail
      refine (CE.out _ HB1.out).mono ?_
      rintro e w2 ⟨rfl, hb2⟩
      have HB2 := hid (bb HB1.out hb2)
      clear hb2 CE
      go_wp2_with fail
      go_ret
      exact ⟨rfl, HB2.out⟩
    | true =>
      rw [h2] at CE
      by_cases h4 : y = x
      · rw [canonI_no (by unfold canB; rw [h1, h2, decide_eq_true h4]; simp)]
        subst h4
        have hyy : (y == y) = true := by simp
        clear hR hz h1 h2 CH
        generalize ts.length = n at *
        go_enter Tryz.func22, Tryz.ntmps22
        go_wp2_with fail
        refine CN.out.mono ?_
        rintro e w1 ⟨rfl, hb1⟩
        have HB1 := hid hb1
        clear hb1 CN
        go_wp2_with fail
        refine (CE.out _ HB1.out).mono ?_
        rintro e w2 ⟨rfl, hb2⟩
        have HB2 := hid (bb HB1.out hb2)
        clear hb2 CE
        go_wp2_with fail
        go_ret
        exact ⟨rfl, HB2.out⟩
      · have hyx : (y == x) = false := by simpa using h4
        have hN : NamesP ts := by
          unfold namesB at h1
          simpa using h1
        obtain ⟨hT, k, rfl, hk⟩ := elemB_t h2
        have hne : ¬ (nodeAt ts k).name.size = 0 := by
          intro q
          unfold elemB at h2
          rw [Bool.and_eq_true] at h2
          have h5 := h2.2
          rw [show ((k : Int).toNat) = k from rfl, nameI_at hk, ← nodeAt_at hk, decide_eq_true q] at h5
          cases h5
        have hr := right_of hN hk hne
        obtain ⟨pl, hpl, _⟩ := cLookupP a cap ts k w hR hT hk hn hz hr
        have hpl2 : ∀ wx, Below w.heap.size w wx → Calls Tryz.prog 73 #[.slice a ts.length cap, .int .i64 (nodeAt ts k).kind] wx fun e w' => ∃ F C, e = .returned (.tuple #[.func (.func F) #[] C, .bool true]) ∧ Asks F C w' pl ∧ Below wx.heap.size wx w' := fun wx hb => by
          obtain ⟨pl', hpl', h⟩ := cLookupP a cap ts k wx (hR.below hb) hT hk hn hz hr
          have e : pl' = pl := by
            rw [hpl] at hpl'
            exact (List.append_cancel_left hpl').symm
          subst e
          exact h
        have CL := hid hpl2
        have hky : ¬ (k : Int) = y := fun e => h4 e.symm
        have CC := hid (fun (F : FuncId) (C : Array Value) wx (hb : Below w.heap.size w wx) (hA : Asks F C wx pl) => cNodeAll ts a cap y hN hz ts.length k [] [] pl F 76 C #[] wx (hR.below hb) hk (by omega) hky hpl saidR_nil hA (cAround wx))
        have CW := hid (fun (X : Nat → Prop) (v : Value) (s : ByteArray) (wx : World) (h : ShAt X wx ts.length v s) => cWritten X ts.length v s wx h)
        obtain ⟨gb, go, aa, ca, rfl, hgb, q0, q1, q2, q3, hra⟩ := hR k hk
        rw [← nodeAt_at hk] at q0
        have hkn : (k : Int) < (ts.length : Int) := by omega
        have HGB := hid hgb
        have HQ0 := hid q0
        by_cases h5 : y = -1
        · rw [canonI_yes (by unfold canB; rw [h1, h2, decide_eq_false h4, decide_eq_true (show -1 ≤ y ∧ y ≤ (ts.length : Int) - 1 by omega)]; rfl), show ((k : Int).toNat) = k from rfl]
          have hd : (y != -1) = false := by simp [h5]
          clear hR hz h1 h2 h4 h5 hT hk hN hne hr hpl hpl2 hky hgb q0 q1 q2 q3 hra CH
          generalize canonN ts y ts.length k [] = R at *
          generalize ts.length = n at *
          generalize (nodeAt ts k).kind = tk at *
          go_enter Tryz.func22, Tryz.ntmps22
          go_wp2_with fail
          refine CN.out.mono ?_
          rintro e w1 ⟨rfl, hb1⟩
          have HB1 := hid hb1
          clear hb1 CN
          go_wp2_with fail
          refine (CE.out _ HB1.out).mono ?_
          rintro e w2 ⟨rfl, hb2⟩
          have HB2 := hid (bb HB1.out hb2)
          have q0 := (HB2.out.cell (p := ⟨gb, go + k * 4, none⟩) HGB.out).trans HQ0.out
          clear hb2 CE HB1
          go_wp2_with fail
          refine (CL.out _ HB2.out).mono ?_
          rintro e w3 ⟨F, C, rfl, hA, hb3⟩
          have HB3 := hid (bb HB2.out hb3)
          have HA := hid hA
          clear hb3 hA HB2 q0 CL
          go_wp2_with fail
          refine (CC.out F C _ HB3.out HA.out).mono ?_
          rintro e w4 ⟨v, rfl, hv, hb4⟩
          have HB4 := hid (bb HB3.out hb4)
          have HV := hid (CW.out _ v R w4 hv)
          clear hb4 hv CC CW
          go_wp2_with fail
          refine HV.out.mono ?_
          rintro e w5 ⟨rfl, hb5⟩
          have HB5 := hid (bb HB4.out hb5)
          clear hb5 HV
          go_wp2_with fail
          go_ret
          exact ⟨rfl, HB5.out⟩
        · have hd : (y != -1) = true := by simp [h5]
          cases h6 : hasB ts y with
          | false =>
            have h7 : decide (-1 ≤ y ∧ y ≤ (ts.length : Int) - 1) = false := by
              refine decide_eq_false fun q => ?_
              obtain ⟨m, rfl⟩ : ∃ m : Nat, y = m := ⟨y.toNat, by omega⟩
              rw [has_of hT (by omega)] at h6
              cases h6
            rw [canonI_no (by unfold canB; rw [h1, h2, h7]; rfl)]
            rw [h6] at CH
            clear hR hz h1 h2 h4 h5 h6 h7 hT hk hN hne hr hpl hpl2 hky hgb q0 q1 q2 q3 hra CC CW CL
            generalize ts.length = n at *
            go_enter Tryz.func22, Tryz.ntmps22
            go_wp2_with fail
            refine CN.out.mono ?_
            rintro e w1 ⟨rfl, hb1⟩
            have HB1 := hid hb1
            clear hb1 CN
            go_wp2_with fail
            refine (CE.out _ HB1.out).mono ?_
            rintro e w2 ⟨rfl, hb2⟩
            have HB2 := hid (bb HB1.out hb2)
            clear hb2 CE
            go_wp2_with fail
            refine (CH.out _ HB2.out).mono ?_
            rintro e w3 ⟨rfl, hb3⟩
            have HB3 := hid (bb HB2.out hb3)
            clear hb3 CH
            go_wp2_with fail
            go_ret
            exact ⟨rfl, HB3.out⟩
          | true =>
            obtain ⟨_, m, hm, hml⟩ := hasB_t h6
            rw [canonI_yes (by unfold canB; rw [h1, h2, decide_eq_false h4, decide_eq_true (show -1 ≤ y ∧ y ≤ (ts.length : Int) - 1 by omega)]; rfl), show ((k : Int).toNat) = k from rfl]
            rw [h6] at CH
            clear hR hz h1 h2 h4 h5 h6 hm hml hT hk hN hne hr hpl hpl2 hky hgb q0 q1 q2 q3 hra
            generalize canonN ts y ts.length k [] = R at *
            generalize ts.length = n at *
            generalize (nodeAt ts k).kind = tk at *
            go_enter Tryz.func22, Tryz.ntmps22
            go_wp2_with fail
            refine CN.out.mono ?_
            rintro e w1 ⟨rfl, hb1⟩
            have HB1 := hid hb1
            clear hb1 CN
            go_wp2_with fail
            refine (CE.out _ HB1.out).mono ?_
            rintro e w2 ⟨rfl, hb2⟩
            have HB2 := hid (bb HB1.out hb2)
            clear hb2 CE HB1
            go_wp2_with fail
            refine (CH.out _ HB2.out).mono ?_
            rintro e w6 ⟨rfl, hb6⟩
            have HB6 := hid (bb HB2.out hb6)
            have q0 := (HB6.out.cell (p := ⟨gb, go + k * 4, none⟩) HGB.out).trans HQ0.out
            clear hb6 CH HB2
            go_wp2_with fail
            refine (CL.out _ HB6.out).mono ?_
            rintro e w3 ⟨F, C, rfl, hA, hb3⟩
            have HB3 := hid (bb HB6.out hb3)
            have HA := hid hA
            clear hb3 hA HB6 q0 CL
            go_wp2_with fail
            refine (CC.out F C _ HB3.out HA.out).mono ?_
            rintro e w4 ⟨v, rfl, hv, hb4⟩
            have HB4 := hid (bb HB3.out hb4)
            have HV := hid (CW.out _ v R w4 hv)
            clear hb4 hv CC CW
            go_wp2_with fail
            refine HV.out.mono ?_
            rintro e w5 ⟨rfl, hb5⟩
            have HB5 := hid (bb HB4.out hb5)
            clear hb5 HV
            go_wp2_with fail
            go_ret
            exact ⟨rfl, HB5.out⟩

set_option maxHeartbeats 2000000 in
theorem cCanonAllJ (a : Option Addr) (cap : Nat) (ts : List Tk) (w : World) (hR : TkRow w a ts) (hn : ts.length ≤ 1048576) (hz : TksSz 1048576 ts) :
    Calls Tryz.prog 25 #[.slice a ts.length cap] w fun e w' => e = .returned (.string (canonI ts 0 (-1))) ∧ Below w.heap.size w w' := by
  have C := hid (cCanonJ a cap ts 0 (-1) w hR hn hz)
  clear hR hz
  generalize canonI ts 0 (-1) = R at *
  generalize ts.length = n at *
  go_enter Tryz.func25, Tryz.ntmps25
  go_wp2_with fail
  refine C.out.mono ?_
  rintro e w1 ⟨rfl, hb1⟩
  have HB1 := hid hb1
  clear hb1 C
  go_wp2_with fail
  go_ret
  exact ⟨rfl, HB1.out⟩

end Go.Proofs.YteninofjeidljaaGreat
