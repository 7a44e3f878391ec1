/-  -/
import Derived.Test.YtlpbbkaelbafdaaGreatDoorRows
import Derived.Test.YtlpbbkaelbafdaaGreatDoorM1
import Derived.Test.YtlpbbkaelbafdaaGreatDoorM34
import Derived.Test.YtlpbbkaelbafdaaGreatDoorM28
import Derived.Test.YtlpbbkaelbafdaaGreatDoorM30
import Derived.Test.YtlpbbkaelbafdaaGreatDoorM26
import Derived.OpenShut
import Derived.WalkKit
import Derived.Deep.RegionHeld3
import Derived.OwnWalk
import Derived.Laws.IdiomStrings
import Derived.Deep.RegionLaw
import Derived.Deep.QuietTactic
import Derived.BigQuiet
set_option linter.unusedVariables false
set_option linter.unusedSimpArgs false
namespace Go.Proofs.YtlpbbkaelbafdaaGreatDoor
open Go.RowKit

theorem code_of {w : World} {a : Option Addr} {len cap : Nat} {zs : List Int}
  (h : (a = none /\ len = 0 /\ cap = 0 /\ zs = []) \/ ∃ x, a = some x /\ len <= cap /\ cap <= maxLen /\ zs.length = cap /\ (∀ i, i < zs.length -> w.cell? (x.add i) = some (.int .u8 (zs.getD i 0))) /\ ∀ n ∈ zs, (Lit.int .u8 n).wf = true) : CodeRow w a len := by
 rcases h with ⟨_, h, _⟩ | ⟨x, rfl, hl, _, hz, hc, _⟩
 ·exact .inl h
 ·by_cases h0 : len = 0
  ·exact .inl h0
  ·obtain ⟨cb, co, rfl, hcells⟩ := ints_at hc (by omega)
   refine .inr ⟨cb, co, fun j => zs.getD j 0, rfl, ?_, fun j hj => hcells j (by omega)⟩
   have h1 := hcells 0 (by omega)
   rcases Nat.lt_or_ge cb w.heap.size with h' | h'
   ·exact h'
   ·simp [World.cell?, Array.getElem?_eq_none h'] at h1

theorem code_below {w w2 : World} {a : Option Addr} {len : Nat} (h : CodeRow w a len) (hb : Below w.heap.size w w2) : CodeRow w2 a len := by
 rcases h with h | ⟨cb, co, z, h1, h2, h3⟩
 ·exact .inl h
 ·exact .inr ⟨cb, co, z, h1, Nat.lt_of_lt_of_le h2 hb.size, fun j hj => (hb.cell (p := ⟨cb, co + j, none⟩) h2).trans (h3 j hj)⟩

theorem bt {w a b : World} (h : Below w.heap.size w a) (k : Below a.heap.size a b) : Below w.heap.size w b := h.trans (k.mono h.size)

theorem cBig_no (a : Option Addr) (len cap : Nat) (w : World) (h : len <= 4096) : Calls Tryz.prog 4 #[.slice a len cap] w fun e w' => e = .returned (.bool false) /\ w' = w := by
 have h1 : decide ((4096 : Int) < (len : Int)) = false := by simp; omega
 go_enter Tryz.func4, Tryz.ntmps4
 go_wp2
 go_ret
 exact ⟨rfl, rfl⟩

theorem cBig_yes (a : Option Addr) (len cap : Nat) (w : World) (h : ¬ len <= 4096) : Calls Tryz.prog 4 #[.slice a len cap] w fun e w' => e = .returned (.bool true) /\ w' = w := by
 have h1 : decide ((4096 : Int) < (len : Int)) = true := by simp; omega
 go_enter Tryz.func4, Tryz.ntmps4
 go_wp2
 go_ret
 exact ⟨rfl, rfl⟩

theorem four_wrap (x y z u : Int) (hx : 0 <= x /\ x <= 255) (hy : 0 <= y /\ y <= 255) (hz : 0 <= z /\ z <= 255) (hu : 0 <= u /\ u <= 255) :
  IntKind.i64.wrap (x * 16777216) = x * 16777216 /\ IntKind.i64.wrap (y * 65536) = y * 65536 /\ IntKind.i64.wrap (x * 16777216 + y * 65536) = x * 16777216 + y * 65536 /\ IntKind.i64.wrap (z * 256) = z * 256
  /\ IntKind.i64.wrap (x * 16777216 + y * 65536 + z * 256) = x * 16777216 + y * 65536 + z * 256 /\ IntKind.i64.wrap (x * 16777216 + y * 65536 + z * 256 + u) = x * 16777216 + y * 65536 + z * 256 + u := by
 refine ⟨?_, ?_, ?_, ?_, ?_, ?_⟩ <;> exact IntWalk.i64_in _ (by omega)

theorem mod_nat (s : Int) (n : Nat) (h0 : 0 <= s) (hn : 1 <= n) : s.tmod (n : Int) = ((s.toNat % n : Nat) : Int) /\ s % (n : Int) = ((s.toNat % n : Nat) : Int) := by
 obtain ⟨k, rfl⟩ : ∃ k : Nat, s = k := ⟨s.toNat, by omega⟩
 refine ⟨?_, ?_⟩
 ·rw [Int.tmod_eq_emod_of_nonneg h0]; simp
 ·simp

set_option maxHeartbeats 2000000 in
theorem cBelowBig (n : Nat) (w0 : World) (a : Option Addr) (len cap b : Nat) (w : World) (hlen : len <= 4096) (hcr : CodeRow w0 a len) (hC : Cur w0 a len cap b w) (hn0 : 257 <= n) (hn1 : n <= 4294967296) :
  Calls Tryz.prog 28 #[.pointer (some ⟨b, 0, none⟩), .int .i64 n] w fun e w' => ∃ x : Nat, e = .returned (.int .i64 x) /\ x < n /\ Cur w0 a len cap b w' /\ w.grownBy w' (some b) := by
 have HR : Hid (CodeRow w0 a len) := hcr
 have HC : Hid (Cur w0 a len cap b w) := hC
 clear hC hcr
 have hz : ¬ (n : Int) = 0 := by omega
 have d1 : decide ((n : Int) <= 0) = false := by simp; omega
 have d2 : decide ((n : Int) <= 256) = false := by simp; omega
 go_enter Tryz.func28, Tryz.ntmps28
 go_wp2_with fail
 refine (cByte w0 a len cap b _ hlen HR.out HC.out).mono ?_
 rintro e w1 ⟨x, rfl, hx0, hx1, hC1, hg1⟩
 have HC1 : Hid (Cur w0 a len cap b w1) := hC1
 have HG : Hid (w.grownBy w1 (some b)) := hg1
 clear hC1 hg1
 go_wp2_with fail
 refine (cByte w0 a len cap b _ hlen HR.out HC1.out).mono ?_
 rintro e w2 ⟨y, rfl, hy0, hy1, hC2, hg2⟩
 have HC2 : Hid (Cur w0 a len cap b w2) := hC2
 have HG2 : Hid (w.grownBy w2 (some b)) := gtrans HG.out hg2
 clear hC2 hg2
 go_wp2_with fail
 refine (cByte w0 a len cap b _ hlen HR.out HC2.out).mono ?_
 rintro e w3 ⟨z, rfl, hz0, hz1, hC3, hg3⟩
 have HC3 : Hid (Cur w0 a len cap b w3) := hC3
 have HG3 : Hid (w.grownBy w3 (some b)) := gtrans HG2.out hg3
 clear hC3 hg3
 go_wp2_with fail
 refine (cByte w0 a len cap b _ hlen HR.out HC3.out).mono ?_
 rintro e w4 ⟨u, rfl, hu0, hu1, hC4, hg4⟩
 have HC4 : Hid (Cur w0 a len cap b w4) := hC4
 have HG4 : Hid (w.grownBy w4 (some b)) := gtrans HG3.out hg4
 clear hC4 hg4
 obtain ⟨k1, k2, k3, k4, k5, k6⟩ := four_wrap x y z u ⟨hx0, hx1⟩ ⟨hy0, hy1⟩ ⟨hz0, hz1⟩ ⟨hu0, hu1⟩
 obtain ⟨s, hs⟩ : ∃ s : Int, x * 16777216 + y * 65536 + z * 256 + u = s := ⟨_, rfl⟩
 have hs0 : 0 <= s := by omega
 rw [hs] at k6
 obtain ⟨m1, m2⟩ := mod_nat s n hs0 (by omega)
 have hlt : s.toNat % n < n := Nat.mod_lt _ (by omega)
 obtain ⟨r, hr⟩ : ∃ r : Nat, s.toNat % n = r := ⟨_, rfl⟩
 rw [hr] at m1 m2 hlt
 clear hx0 hx1 hy0 hy1 hz0 hz1 hu0 hu1 hr
 go_wp2_with fail
 go_ret
 refine ⟨r, ?_, hlt, HC4.out, HG4.out⟩
 first | rfl | (rw [<- m2]; rfl) | (rw [<- m1]; rfl) | simp [m1, m2]

def timesObj : Obj := .cells #[.int .i64 0, .int .i64 86399, .int .i64 86400, .int .i64 31622399, .int .i64 31622400, .int .i64 5097600, .int .i64 5184000, .int .i64 3155759999] 2 (0, 0)

theorem times_at (w : World) (B x : Nat) (hx : x < 8) (h : w.heap[B]? = some timesObj) : ∃ t : Nat, w.cell? ⟨B, x, none⟩ = some (.int .i64 t) /\ t <= 3155759999 := by
 rw [Lib.cell_of_heap h]
 rcases (show x = 0 \/ x = 1 \/ x = 2 \/ x = 3 \/ x = 4 \/ x = 5 \/ x = 6 \/ x = 7 from by omega) with rfl | rfl | rfl | rfl | rfl | rfl | rfl | rfl
 ·exact ⟨0, rfl, by decide⟩
 ·exact ⟨86399, rfl, by decide⟩
 ·exact ⟨86400, rfl, by decide⟩
 ·exact ⟨31622399, rfl, by decide⟩
 ·exact ⟨31622400, rfl, by decide⟩
 ·exact ⟨5097600, rfl, by decide⟩
 ·exact ⟨5184000, rfl, by decide⟩
 ·exact ⟨3155759999, rfl, by decide⟩

end Go.Proofs.YtlpbbkaelbafdaaGreatDoor

namespace Go.Proofs.YtlpbbkaelbafdaaGreatDoor
open Go.RowKit

set_option maxHeartbeats 4000000 in
theorem cLikeClaim (c : Cm) (a b : Option Addr) (ca cb : Nat) (w : World) (hR : AtRow w a c.facts) (hS : AtRow w b c.facts) (hn : c.facts.length <= 1048576) :
  Calls Tryz.prog 10 #[cmV c a ca, cmV c b cb] w fun e w' => e = .returned (.bool true) /\ Below w.heap.size w w' := by
 have CE := hid (fun wx (h : Below w.heap.size w wx) => cLikeAttrsG a b ca cb c.facts wx (hR.below h) (hS.below h) hn)
 obtain ⟨s1, s2, s3, x4, x5, s6, s7, l⟩ := c
 simp only at CE hn
 simp only [cmV]
 clear hR hS
 generalize l.length = n at *
 have HB0 := hid (((Below.refl w.heap.size w).alloc (Nat.le_refl _) (.cells #[.string s1, .string s2, .string s3, .int .i64 x4, .int .i64 x5, .string s6, .string s7, .slice a n ca] 26)).alloc (by simp) (.cells #[.string s1, .string s2, .string s3, .int .i64 x4, .int .i64 x5, .string s6, .string s7, .slice b n cb] 26))
 have e1 : (s1.toList == s1.toList) = true := by simp
 have e2 : (s2.toList == s2.toList) = true := by simp
 have e3 : (s3.toList == s3.toList) = true := by simp
 have e4 : (x4 == x4) = true := by simp
 have e5 : (x5 == x5) = true := by simp
 have e6 : (s6.toList == s6.toList) = true := by simp
 have e7 : (s7.toList == s7.toList) = true := by simp
 go_enter Tryz.func10, Tryz.ntmps10
 go_wp2_with fail
 refine (CE.out _ HB0.out).mono ?_
 rintro e w1 ⟨rfl, hb1⟩
 have HB1 := hid (bb HB0.out hb1)
 clear hb1 CE HB0
 go_wp2_with fail
 go_ret
 exact ⟨rfl, HB1.out⟩

theorem RowOf.capR {w wr : World} {v : Value} {L : List Tk} (h : RowOf w wr v L) : ∃ a c, v = .slice a L.length c /\ TkRow wr a L /\ L.length <= c /\ c <= maxLen := by
 obtain ⟨es, a, c, rfl, hr, hm, hl⟩ := h.open
 obtain ⟨a2, c2, e, ht⟩ := hr.tkRow
 cases e
 rw [hm] at ht
 refine ⟨a, c, by rw [hl], ht, ?_⟩
 rcases hr.own.2 with ⟨e, h0⟩ | ⟨g, cap, cur, e, _, _, hn, hc, _⟩
 ·injection e with e1 e2 e3
  rw [<- hl, e2, e3]
  exact ⟨Nat.le_refl _, Nat.zero_le _⟩
 ·injection e with e1 e2 e3
  rw [<- hl, e3]
  exact ⟨hn, hc⟩

theorem qdV_szR {ts : List Tk} {x : Int} (hz : TksSz 1048576 ts) : CmSz 1048576 (qdV ts x) := by
 unfold qdV
 split
 ·rename_i h
  have hT : TreeP ts := by
   unfold qdI at h
   simp only [Bool.and_eq_true] at h
   have h2 := (idsB_t h.1.1.2).2
   unfold treeB at h2
   simpa using h2
  exact qdC_sz hT hz _
 ·exact ⟨by decide, by decide, by decide, by decide, by decide, by decide, fun x hx => by cases hx⟩

theorem qd_right {ts : List Tk} {x : Int} (h : qdI ts x = true) : claimB (qdV ts x) = true := by
 unfold qdV
 rw [if_pos h]
 unfold qdI at h
 simp only [Bool.and_eq_true] at h
 have h2 := h.2
 unfold qdB at h2
 simp only [Bool.and_eq_true, decide_eq_true_eq] at h2
 exact h2.2.2.2.2.2.2.2.2.2.2

def DrawnC (w : World) (e : Ending) (w' : World) : Prop := ∃ c a' cap', e = .returned (cmV c a' cap') /\ AtRow w' a' c.facts /\ CmSz 1048576 c /\ Below w.heap.size w w'

def DrawnD (w : World) (e : Ending) (w' : World) : Prop := ∃ a' cap' ts x, e = .returned (.tuple #[.slice a' (ts : List Tk).length cap', .int .i64 x]) /\ TkRow w' a' ts /\ ts.length <= 1048576 /\ TksSz 1048576 ts /\ Below w.heap.size w w'

theorem more_sz {c : Cm} (hc : claimB c = true) (hz : CmSz 1048576 c) : TksSz 1048576 (flatE (headT c) (entTo c (qTx c.frm) (qTx c.til) 6 ++ [otherE])) /\ (flatE (headT c) (entTo c (qTx c.frm) (qTx c.til) 6 ++ [otherE])).length <= 1048576 := by
 have h1 := (claimT_ok hz).1
 rw [like_claimT hc] at h1
 have hl := flatE_len (headT c) (entTo c (qTx c.frm) (qTx c.til) 6 ++ [otherE])
 have h9 := entTo_len (u := qTx c.frm) (v := qTx c.til) (claim_parts hc).2.2.2.2
 rw [List.length_append, show [otherE].length = 1 from rfl] at hl
 refine ⟨?_, by omega⟩
 rw [flatE_snoc, addE_is]
 intro t ht
 rcases List.mem_append.1 ht with h | h
 ·exact h1 t h
 ·have h' : t ∈ ([⟨0, otherS, [⟨nsS, wS⟩], nE⟩, ⟨((flatE (headT c) (entTo c (qTx c.frm) (qTx c.til) 6)).length : Int), nE, [], xS⟩] : List Tk) := h
  rcases List.mem_cons.1 h' with rfl | h'
  ·exact ⟨show otherS.size <= 1048576 by decide, show 1 <= 1048576 by decide, fun x (hx : x ∈ [(⟨nsS, wS⟩ : At)]) => by rw [List.mem_singleton.1 hx]; exact ⟨show nsS.size <= 1048576 by decide, show wS.size <= 1048576 by decide⟩, show nE.size <= 1048576 by decide⟩
  ·rw [List.mem_singleton.1 h']
   exact ⟨show nE.size <= 1048576 by decide, show 0 <= 1048576 by decide, fun x (hx : x ∈ ([] : List At)) => absurd hx List.not_mem_nil, show xS.size <= 1048576 by decide⟩

theorem br_row {w : World} {g ga : Nat} (hg : w.heap[g]? = some (.cells #[.int .i64 (-1), .string otherS, .slice (some ⟨ga, 0, none⟩) 1 1, .string ⟨#[]⟩, .int .i64 0, .string ⟨#[]⟩, .slice none 0 0, .string xS] 42 (0, 0))) (ha : w.heap[ga]? = some (.cells #[.string nsS, .string wS] 40 (0, 0))) : TkRow w (some ⟨g, 0, none⟩) brL := by
 have t := fun j => Lib.cell_of_heap hg j
 have u := fun j => Lib.cell_of_heap ha j
 intro j hj
 match j, hj with
 | 0, _ => exact ⟨g, 0, some ⟨ga, 0, none⟩, 1, rfl, lt_of_heap hg, (t 0).trans rfl, (t 1).trans rfl, (t 2).trans rfl, (t 3).trans rfl, fun i hi => by
   have hi' : i < 1 := hi
   obtain rfl : i = 0 := by omega
   exact ⟨ga, 0, rfl, lt_of_heap ha, (u 0).trans rfl, (u 1).trans rfl⟩⟩
 | 1, _ => exact ⟨g, 0, none, 0, rfl, lt_of_heap hg, (t 4).trans rfl, (t 5).trans rfl, (t 6).trans rfl, (t 7).trans rfl, fun i (hi : i < 0) => absurd hi (Nat.not_lt_zero _)⟩

theorem like_treeT {c : Cm} (hc : claimB c = true) : claimT c (qTx c.frm) (qTx c.til) = treeTo c (qTx c.frm) (qTx c.til) 6 := if_pos hc

set_option maxRecDepth 16000 in
set_option maxHeartbeats 16000000 in
theorem law_claims (a : Option Addr) (len cap : Nat) (w : World) (hM : Laid w) (hcr : CodeRow w a len)
  (hD1 : len <= 4096 -> ∀ wx, Below w.heap.size w wx -> Calls Tryz.prog 5 #[.slice a len cap] wx (DrawnC wx))
  (hD2 : len <= 4096 -> ∀ wx, Below w.heap.size w wx -> Calls Tryz.prog 7 #[.slice a len cap] wx (DrawnD wx)) :
  Calls Tryz.prog 3 #[.slice a len cap] w fun e w' => e = .returned (.bool true) /\ Below w.heap.size w w' := by
 have HM := hid hM
 clear hcr hM
 by_cases hbig : len <= 4096
 case neg =>
  clear hD1 hD2
  go_enter Tryz.func3, Tryz.ntmps3
  go_wp2_with fail
  refine (cBig_yes a len cap _ hbig).mono ?_
  rintro e0 w' ⟨rfl, rfl⟩
  go_wp2_with fail
  go_ret
  exact ⟨rfl, Below.refl _ _⟩
 have D1 := hid (hD1 hbig)
 have D2 := hid (hD2 hbig)
 clear hD1 hD2
 go_enter Tryz.func3, Tryz.ntmps3
 go_wp2_with fail
 refine (cBig_no a len cap _ hbig).mono ?_
 rintro e0 w' ⟨rfl, rfl⟩
 go_wp2_with fail
 refine (D1.out _ (Below.refl _ _)).mono ?_
 rintro e0 w1 ⟨c, a1, c1, rfl, hR1, hz1, hb1⟩
 have HZ := hid hz1
 have HBx := hid ((Below.refl w1.heap.size w1).alloc (Nat.le_refl _) (.cells #[.string c.id, .string c.iss, .string c.sub, .int .i64 c.frm, .int .i64 c.til, .string c.whom, .string c.ans, .slice a1 c.facts.length c1] 26))
 have M3 := hid (heap_alloc_new w1 (.cells #[.string c.id, .string c.iss, .string c.sub, .int .i64 c.frm, .int .i64 c.til, .string c.whom, .string c.ans, .slice a1 c.facts.length c1] 26))
 obtain ⟨wa, hwa⟩ : ∃ wa, w1.alloc (.cells #[.string c.id, .string c.iss, .string c.sub, .int .i64 c.frm, .int .i64 c.til, .string c.whom, .string c.ans, .slice a1 c.facts.length c1] 26) = wa := ⟨_, rfl⟩
 rw [hwa] at HBx M3
 have HR1 := hid (hR1.below HBx.out)
 have HBa := hid (bb hb1 HBx.out)
 have CT := hid (fun wx (h : Below wa.heap.size wa wx) => cClaimTreeI c a1 c1 wx (HR1.out.below h) HZ.out (HM.out.below (bb HBa.out h)) (qTx_sz _) (qTx_sz _))
 have CTS := hid (fun wx (h : Below wa.heap.size wa wx) => cClaimTreeS c a1 c1 wx (HR1.out.below h) HZ.out)
 have COI := hid (fun wx (h : Below wa.heap.size wa wx) => cClaimOkI c a1 c1 wx (HR1.out.below h) HZ.out)
 have COS := hid (fun wx (h : Below wa.heap.size wa wx) => cClaimOkS c a1 c1 wx (HR1.out.below h) HZ.out)
 clear hR1 hz1 hb1 HBx
 obtain ⟨⟨y0, y1, y2, y3, y4, y5, y6, y7⟩, _⟩ := box8 M3.out
 unfold cmV at CT CTS COI COS
 unfold cmV
 go_wp2_with fail
 refine (CT.out _ (Below.refl _ _)).mono ?_
 rintro e0 w2 ⟨v2, rfl, hr2⟩
 obtain ⟨a2, c2, hv2, ht2, hc2, hm2⟩ := RowOf.capR hr2
 have HT2 := hid ht2
 have HC2 := hid (And.intro hc2 hm2)
 have E2 := hid hr2.bel
 subst hv2
 clear hr2 ht2 hc2 hm2 CT hwa y0 y1 y2 y3 y4 y5 y6 y7
 go_wp2_with fail
 refine (D2.out _ (bb HBa.out E2.out)).mono ?_
 rintro e0 w3 ⟨a3, c3, ts, x, rfl, hR3, hn3, hz3, hb3⟩
 have E3 := hid (bb E2.out hb3)
 have HT3 := hid (HT2.out.below hb3)
 have CDI := hid (fun wx (h : Below w3.heap.size w3 wx) => cDecodedI a3 c3 ts x wx (hR3.below h) hn3 hz3 (HM.out.below (bb (bb HBa.out E3.out) h)))
 have CDS := hid (fun wx (h : Below w3.heap.size w3 wx) => cDecodedS a3 c3 ts x wx (hR3.below h) hn3 hz3)
 have HQZ := hid (qdV_szR (x := x) hz3)
 have HQC := hid (show qdI ts x = true -> claimB (qdV ts x) = true from qd_right)
 clear hR3 hn3 hz3 hb3
 generalize qdV ts x = q at *
 generalize qdI ts x = V at *
 generalize ts.length = n3 at *
 have hVV : (V != V) = false := by cases V <;> rfl
 go_wp2_with fail
 refine (CDI.out _ (Below.refl _ _)).mono ?_
 rintro e0 w4 ⟨a4, c4, rfl, ho4, hb4⟩
 have HBx := hid ((Below.refl w4.heap.size w4).alloc (Nat.le_refl _) (.cells #[.string q.id, .string q.iss, .string q.sub, .int .i64 q.frm, .int .i64 q.til, .string q.whom, .string q.ans, .slice a4 q.facts.length c4] 26))
 have M7 := hid (heap_alloc_new w4 (.cells #[.string q.id, .string q.iss, .string q.sub, .int .i64 q.frm, .int .i64 q.til, .string q.whom, .string q.ans, .slice a4 q.facts.length c4] 26))
 obtain ⟨wd, hwd⟩ : ∃ wd, w4.alloc (.cells #[.string q.id, .string q.iss, .string q.sub, .int .i64 q.frm, .int .i64 q.til, .string q.whom, .string q.ans, .slice a4 q.facts.length c4] 26) = wd := ⟨_, rfl⟩
 rw [hwd] at HBx M7
 have HO4 := hid (AtRow.below (OwnAts.rd ho4) HBx.out)
 have F4 := hid (bb hb4 HBx.out)
 clear ho4 hb4 HBx CDI
 unfold cmV
 go_wp2_with fail
 refine (CDS.out _ F4.out).mono ?_
 rintro e0 w5 ⟨a5, c5, rfl, ho5, hb5⟩
 have HBx := hid ((Below.refl w5.heap.size w5).alloc (Nat.le_refl _) (.cells #[.string q.id, .string q.iss, .string q.sub, .int .i64 q.frm, .int .i64 q.til, .string q.whom, .string q.ans, .slice a5 q.facts.length c5] 26))
 have M9 := hid (heap_alloc_new w5 (.cells #[.string q.id, .string q.iss, .string q.sub, .int .i64 q.frm, .int .i64 q.til, .string q.whom, .string q.ans, .slice a5 q.facts.length c5] 26))
 obtain ⟨we, hwe⟩ : ∃ we, w5.alloc (.cells #[.string q.id, .string q.iss, .string q.sub, .int .i64 q.frm, .int .i64 q.til, .string q.whom, .string q.ans, .slice a5 q.facts.length c5] 26) = we := ⟨_, rfl⟩
 rw [hwe] at HBx M9
 have HO5 := hid (AtRow.below (OwnAts.rd ho5) HBx.out)
 have G5 := hid (bb hb5 HBx.out)
 have F5 := hid (bb F4.out G5.out)
 have E5 := hid (bb E3.out F5.out)
 have HO45 := hid (HO4.out.below G5.out)
 have M75 := hid (blk_below M7.out G5.out)
 have M35 := hid (blk_below M3.out E5.out)
 clear ho5 hb5 HBx CDS hwd
 unfold cmV
 go_wp2_with fail
 have HTE := hid (HT3.out.below F5.out)
 have HCO := hid (fun (h : claimB c = false) => show claimT c (qTx c.frm) (qTx c.til) = [] from by unfold claimT; rw [h]; rfl)
 have HCK := hid (claimT_ok HZ.out)
 have HBK := hid (fun (h : claimB c = true) => (claim_back h _ (.inl rfl)))
 have HBM := hid (fun (h : claimB c = true) => (claim_back h _ (.inr rfl)))
 have HLT := hid (fun (h : claimB c = true) => like_claimT h)
 obtain ⟨L, hL⟩ : ∃ L, claimT c (qTx c.frm) (qTx c.til) = L := ⟨_, rfl⟩
 have HLE := hid hL
 rw [hL] at CTS HTE HCO HCK HLT HT2 HC2 HT3
 simp only [hL]
 clear hL HT2 HT3
 obtain ⟨K, hK⟩ : ∃ K, claimB c = K := ⟨_, rfl⟩
 have HK := hid hK
 rw [hK] at COI COS
 clear hK
 have hKK : (K != K) = false := by cases K <;> rfl
 have CL1 := hid (fun wx (h : Below we.heap.size we wx) => cLikeClaim q a4 a5 c4 c5 wx (HO45.out.below h) (HO5.out.below h) HQZ.out.2.2.2.2.2.1)
 have CLT := hid (fun wx (a7 : Option Addr) (c7 : Nat) (h : TkRow wx a2 L) (h2 : TkRow wx a7 L) => cLikeTree a2 a7 c2 c7 L wx h h2 HCK.out.1 (by have := HCK.out.2.2; omega))
 have CQ1 := hid (fun wx (h : Below we.heap.size we wx) => cClaimOkI q a4 c4 wx (HO45.out.below h) HQZ.out)
 have HSX := hid (show ∀ W', Below we.heap.size we W' -> W'.cell? ⟨w1.heap.size, 0, none⟩ = some (.string c.id) /\ W'.cell? ⟨w1.heap.size, 1, none⟩ = some (.string c.iss) /\ W'.cell? ⟨w1.heap.size, 2, none⟩ = some (.string c.sub) /\ W'.cell? ⟨w1.heap.size, 3, none⟩ = some (.int .i64 c.frm) /\ W'.cell? ⟨w1.heap.size, 4, none⟩ = some (.int .i64 c.til) /\ W'.cell? ⟨w1.heap.size, 5, none⟩ = some (.string c.whom) /\ W'.cell? ⟨w1.heap.size, 6, none⟩ = some (.string c.ans) /\ W'.cell? ⟨w1.heap.size, 7, none⟩ = some (.slice a1 c.facts.length c1) /\ W'.cell? ⟨w4.heap.size, 0, none⟩ = some (.string q.id) /\ W'.cell? ⟨w4.heap.size, 1, none⟩ = some (.string q.iss) /\ W'.cell? ⟨w4.heap.size, 2, none⟩ = some (.string q.sub) /\ W'.cell? ⟨w4.heap.size, 3, none⟩ = some (.int .i64 q.frm) /\ W'.cell? ⟨w4.heap.size, 4, none⟩ = some (.int .i64 q.til) /\ W'.cell? ⟨w4.heap.size, 5, none⟩ = some (.string q.whom) /\ W'.cell? ⟨w4.heap.size, 6, none⟩ = some (.string q.ans) /\ W'.cell? ⟨w4.heap.size, 7, none⟩ = some (.slice a4 q.facts.length c4) /\ W'.cell? ⟨w5.heap.size, 0, none⟩ = some (.string q.id) /\ W'.cell? ⟨w5.heap.size, 1, none⟩ = some (.string q.iss) /\ W'.cell? ⟨w5.heap.size, 2, none⟩ = some (.string q.sub) /\ W'.cell? ⟨w5.heap.size, 3, none⟩ = some (.int .i64 q.frm) /\ W'.cell? ⟨w5.heap.size, 4, none⟩ = some (.int .i64 q.til) /\ W'.cell? ⟨w5.heap.size, 5, none⟩ = some (.string q.whom) /\ W'.cell? ⟨w5.heap.size, 6, none⟩ = some (.string q.ans) /\ W'.cell? ⟨w5.heap.size, 7, none⟩ = some (.slice a5 q.facts.length c5) from fun W' h => by
  obtain ⟨⟨r0, r1, r2, r3, r4, r5, r6, r7⟩, _⟩ := box8 (blk_below M35.out h)
  obtain ⟨⟨s0, s1, s2, s3, s4, s5, s6, s7⟩, _⟩ := box8 (blk_below M75.out h)
  obtain ⟨⟨t0, t1, t2, t3, t4, t5, t6, t7⟩, _⟩ := box8 (blk_below M9.out h)
  exact ⟨r0, r1, r2, r3, r4, r5, r6, r7, s0, s1, s2, s3, s4, s5, s6, s7, t0, t1, t2, t3, t4, t5, t6, t7⟩)
 have HEC := hid (fun wx (h : Below we.heap.size we wx) => bb E5.out h)
 unfold cmV at CL1 CQ1
 clear hwe
 go_cut [62] from 40 to 62 (fun v wv => v = .bool false /\ Hid (Below we.heap.size we wv))
 case first =>
  have HBc := hid ((Below.refl we.heap.size we).drew)
  go_region_held3 (fun W' => W'.cell? ⟨w1.heap.size, 0, none⟩ = some (.string c.id) /\ W'.cell? ⟨w1.heap.size, 1, none⟩ = some (.string c.iss) /\ W'.cell? ⟨w1.heap.size, 2, none⟩ = some (.string c.sub) /\ W'.cell? ⟨w1.heap.size, 3, none⟩ = some (.int .i64 c.frm) /\ W'.cell? ⟨w1.heap.size, 4, none⟩ = some (.int .i64 c.til) /\ W'.cell? ⟨w1.heap.size, 5, none⟩ = some (.string c.whom) /\ W'.cell? ⟨w1.heap.size, 6, none⟩ = some (.string c.ans) /\ W'.cell? ⟨w1.heap.size, 7, none⟩ = some (.slice a1 c.facts.length c1) /\ W'.cell? ⟨w4.heap.size, 0, none⟩ = some (.string q.id) /\ W'.cell? ⟨w4.heap.size, 1, none⟩ = some (.string q.iss) /\ W'.cell? ⟨w4.heap.size, 2, none⟩ = some (.string q.sub) /\ W'.cell? ⟨w4.heap.size, 3, none⟩ = some (.int .i64 q.frm) /\ W'.cell? ⟨w4.heap.size, 4, none⟩ = some (.int .i64 q.til) /\ W'.cell? ⟨w4.heap.size, 5, none⟩ = some (.string q.whom) /\ W'.cell? ⟨w4.heap.size, 6, none⟩ = some (.string q.ans) /\ W'.cell? ⟨w4.heap.size, 7, none⟩ = some (.slice a4 q.facts.length c4) /\ W'.cell? ⟨w5.heap.size, 0, none⟩ = some (.string q.id) /\ W'.cell? ⟨w5.heap.size, 1, none⟩ = some (.string q.iss) /\ W'.cell? ⟨w5.heap.size, 2, none⟩ = some (.string q.sub) /\ W'.cell? ⟨w5.heap.size, 3, none⟩ = some (.int .i64 q.frm) /\ W'.cell? ⟨w5.heap.size, 4, none⟩ = some (.int .i64 q.til) /\ W'.cell? ⟨w5.heap.size, 5, none⟩ = some (.string q.whom) /\ W'.cell? ⟨w5.heap.size, 6, none⟩ = some (.string q.ans) /\ W'.cell? ⟨w5.heap.size, 7, none⟩ = some (.slice a5 q.facts.length c5)) (first | exact HSX.out _ HBc.out)
   (first
    | (go_at_call 10; refine (CL1.out _ HBc.out).mono ?_; rintro e w6 ⟨rfl, hb6⟩; replace HBc := hid (bb HBc.out hb6); clear hb6)
    | (go_at_call 12; refine (CTS.out _ (HEC.out _ HBc.out)).mono ?_; rintro e w7 ⟨v7, rfl, hr7⟩; obtain ⟨a7, c7, hv7, ht7⟩ := hr7.tk; replace HBc := hid (bb HBc.out hr7.bel); have HT7 := hid ht7; subst hv7; clear hr7 ht7)
    | (go_at_call 11; refine (CLT.out _ _ _ (HTE.out.below HBc.out) HT7.out).mono ?_; rintro e w8 ⟨rfl, hb8⟩; replace HBc := hid (bb HBc.out hb8); clear hb8)
    | (go_at_call 13; refine (COI.out _ (HEC.out _ HBc.out)).mono ?_; rintro e w9 ⟨rfl, hb9⟩; replace HBc := hid (bb HBc.out hb9); clear hb9)
    | (go_at_call 14; refine (COS.out _ (HEC.out _ HBc.out)).mono ?_; rintro e w10 ⟨rfl, hb10⟩; replace HBc := hid (bb HBc.out hb10); clear hb10))
  all_goals
   go_wp2_with fail
   go_meet
   exact ⟨rfl, HBc.out⟩
 case rest =>
  obtain ⟨rfl, HBr⟩ := hcut
  clear CL1 CLT HSX CTS
  go_upto_region 10 with fail
  go_cut [68] from 63 to 68 (fun v wv => v = .bool false /\ Hid (Below we.heap.size we wv))
  case first =>
   cases V with
   | false =>
    go_wp2_with fail
    go_meet
    exact ⟨rfl, HBr.out⟩
   | true =>
    have CQ2 := hid (CQ1.out _ HBr.out)
    rw [HQC.out rfl] at CQ2
    obtain ⟨⟨s0, s1, s2, s3, s4, s5, s6, s7⟩, _⟩ := box8 (blk_below M75.out HBr.out)
    go_wp2_with fail
    refine CQ2.out.mono ?_
    rintro e w6 ⟨rfl, hb6⟩
    have HB6 := hid (bb HBr.out hb6)
    clear hb6 CQ2 s0 s1 s2 s3 s4 s5 s6 s7
    go_wp2_with fail
    go_meet
    exact ⟨rfl, HB6.out⟩
  case rest =>
   obtain ⟨rfl, HBs⟩ := hcut
   clear CQ1 HBr HQC HQZ COI M75 M9 HO45 HO5
   have HE := hid (HEC.out _ HBs.out)
   have HTZ := hid (HTE.out.below HBs.out)
   have MZ := hid (blk_below M35.out HBs.out)
   obtain ⟨⟨y0, y1, y2, y3, y4, y5, y6, y7⟩, _⟩ := box8 MZ.out
   go_wp2_with fail
   refine (COS.out _ HE.out).mono ?_
   rintro e w6 ⟨rfl, hb6⟩
   have E6 := hid (bb HE.out hb6)
   have T6 := hid (HTZ.out.below hb6)
   have M6 := hid (blk_below MZ.out hb6)
   clear hb6 COS HE HTZ MZ y0 y1 y2 y3 y4 y5 y6 y7 HBs HEC HTE M35 E5 F5 G5 F4
   cases K with
   | false =>
    have hl : (((L.length : Nat) : Int) == 0) = true := by rw [HCO.out HK.out]; rfl
    clear HCO HCK HBK HBM HLT
    go_wp2_with fail
    go_ret
    exact ⟨rfl, bb HBa.out E6.out⟩
   | true =>
    have hbk := HBK.out HK.out
    rw [<- HLT.out HK.out] at hbk
    have hbm := HBM.out HK.out
    have hgr := graft_is HK.out
    rw [<- like_treeT HK.out, HLE.out] at hgr
    have hms := more_sz HK.out HZ.out
    obtain ⟨M, hM⟩ : ∃ M, flatE (headT c) (entTo c (qTx c.frm) (qTx c.til) 6 ++ [otherE]) = M := ⟨_, rfl⟩
    rw [hM] at hbm hgr hms
    clear hM HCO HBK HBM HLT HLE
    have CD := hid (fun wx (h : TkRow wx a2 L) (hl : Laid wx) => cDecodedI a2 c2 L 0 wx h (by have := HCK.out.2.2; omega) HCK.out.1 hl)
    rw [hbk.2.2.1, hbk.2.2.2] at CD
    have CDM := hid (fun wx (x : Option Addr) (cx : Nat) (h : TkRow wx x M) (hl : Laid wx) => cDecodedI x cx M 0 wx h hms.2 hms.1 hl)
    rw [hbm.2.2.1, hbm.2.2.2] at CDM
    have CG := hid (fun wx (g : Nat) (h : TkRow wx a2 L) (h2 : TkRow wx (some ⟨g, 0, none⟩) brL) => cGraftedS a2 (some ⟨g, 0, none⟩) c2 2 L brL 0 wx h h2 HC2.out.1 HC2.out.2 (by have := HCK.out.2.2; omega) (by decide) HCK.out.1 br_sz)
    rw [hgr.1, hgr.2] at CG
    have CNN := hid (fun wx (h : TkRow wx a2 L) => cNamesOkS a2 c2 L wx h (by have := HCK.out.2.2; omega) HCK.out.1)
    have CII := hid (fun wx (h : TkRow wx a2 L) => cIdsOkS a2 c2 L wx h (by have := HCK.out.2.2; omega) HCK.out.1)
    rw [hbk.1] at CNN
    rw [hbk.2.1] at CII
    have CLC := hid (fun wx (x : Option Addr) (cx : Nat) (h : AtRow wx x c.facts) (h2 : AtRow wx a1 c.facts) => cLikeClaim c x a1 cx c1 wx h h2 HZ.out.2.2.2.2.2.1)
    unfold cmV at CLC
    clear hbk hbm hgr hms HCK HC2 HK hKK hVV
    go_wp2_with fail
    refine (CD.out _ T6.out (HM.out.below (bb HBa.out E6.out))).mono ?_
    rintro e w11 ⟨a11, c11, rfl, ho11, hb11⟩
    have HBx := hid ((Below.refl w11.heap.size w11).alloc (Nat.le_refl _) (.cells #[.string c.id, .string c.iss, .string c.sub, .int .i64 c.frm, .int .i64 c.til, .string c.whom, .string c.ans, .slice a11 c.facts.length c11] 26))
    have M11 := hid (heap_alloc_new w11 (.cells #[.string c.id, .string c.iss, .string c.sub, .int .i64 c.frm, .int .i64 c.til, .string c.whom, .string c.ans, .slice a11 c.facts.length c11] 26))
    obtain ⟨wk, hwk⟩ : ∃ wk, w11.alloc (.cells #[.string c.id, .string c.iss, .string c.sub, .int .i64 c.frm, .int .i64 c.til, .string c.whom, .string c.ans, .slice a11 c.facts.length c11] 26) = wk := ⟨_, rfl⟩
    rw [hwk] at HBx M11
    have O11 := hid (AtRow.below (OwnAts.rd ho11) HBx.out)
    have G11 := hid (bb hb11 HBx.out)
    clear ho11 hb11 HBx CD
    have HBl := hid ((Below.refl wk.heap.size wk).alloc (Nat.le_refl _) (.cells #[.string nsS, .string wS] 40))
    have Ml := hid (heap_alloc_new wk (.cells #[.string nsS, .string wS] 40))
    obtain ⟨wl, hwl⟩ : ∃ wl, wk.alloc (.cells #[.string nsS, .string wS] 40) = wl := ⟨_, rfl⟩
    rw [hwl] at HBl Ml
    have HBm := hid ((Below.refl wl.heap.size wl).alloc (Nat.le_refl _) (.cells #[.int .i64 (-1), .string otherS, .slice (some ⟨wk.heap.size, 0, none⟩) 1 1, .string ⟨#[]⟩, .int .i64 0, .string ⟨#[]⟩, .slice none 0 0, .string xS] 42))
    have Mm := hid (heap_alloc_new wl (.cells #[.int .i64 (-1), .string otherS, .slice (some ⟨wk.heap.size, 0, none⟩) 1 1, .string ⟨#[]⟩, .int .i64 0, .string ⟨#[]⟩, .slice none 0 0, .string xS] 42))
    obtain ⟨wm, hwm⟩ : ∃ wm, wl.alloc (.cells #[.int .i64 (-1), .string otherS, .slice (some ⟨wk.heap.size, 0, none⟩) 1 1, .string ⟨#[]⟩, .int .i64 0, .string ⟨#[]⟩, .slice none 0 0, .string xS] 42) = wm := ⟨_, rfl⟩
    rw [hwm] at HBm Mm
    have HBR := hid (br_row Mm.out (blk_below Ml.out HBm.out))
    have Gkm := hid (bb HBl.out HBm.out)
    unfold nsS wS at hwl
    unfold otherS xS at hwm
    unfold cmV
    clear HBl HBm Ml Mm
    go_wp2_with fail
    refine (CG.out _ _ ((T6.out.below G11.out).below Gkm.out) HBR.out).mono ?_
    rintro e w12 ⟨v12, rfl, hr12⟩
    obtain ⟨a12, c12, hv12, ht12, _, _⟩ := RowOf.capR hr12
    have T12 := hid ht12
    have G12 := hid (bb (bb G11.out Gkm.out) hr12.bel)
    have O12 := hid ((O11.out.below Gkm.out).below hr12.bel)
    have M12 := hid (blk_below (blk_below M11.out Gkm.out) hr12.bel)
    subst hv12
    clear hr12 ht12 CG HBR Gkm O11 M11 hwk hwl hwm G11
    go_wp2_with fail
    refine (CDM.out _ a12 c12 T12.out (HM.out.below (bb (bb HBa.out E6.out) G12.out))).mono ?_
    rintro e w15 ⟨a15, c15, rfl, ho15, hb15⟩
    have HBx := hid ((Below.refl w15.heap.size w15).alloc (Nat.le_refl _) (.cells #[.string c.id, .string c.iss, .string c.sub, .int .i64 c.frm, .int .i64 c.til, .string c.whom, .string c.ans, .slice a15 c.facts.length c15] 26))
    have M15 := hid (heap_alloc_new w15 (.cells #[.string c.id, .string c.iss, .string c.sub, .int .i64 c.frm, .int .i64 c.til, .string c.whom, .string c.ans, .slice a15 c.facts.length c15] 26))
    obtain ⟨wo, hwo⟩ : ∃ wo, w15.alloc (.cells #[.string c.id, .string c.iss, .string c.sub, .int .i64 c.frm, .int .i64 c.til, .string c.whom, .string c.ans, .slice a15 c.facts.length c15] 26) = wo := ⟨_, rfl⟩
    rw [hwo] at HBx M15
    have O15 := hid (AtRow.below (OwnAts.rd ho15) HBx.out)
    have G15 := hid (bb (bb G12.out hb15) HBx.out)
    have O12b := hid ((O12.out.below hb15).below HBx.out)
    have M12b := hid (blk_below (blk_below M12.out hb15) HBx.out)
    clear ho15 hb15 HBx CDM O12 M12 G12 T12
    have R15 := hid (HR1.out.below (bb E6.out G15.out))
    obtain ⟨⟨y0, y1, y2, y3, y4, y5, y6, y7⟩, _⟩ := box8 (blk_below M6.out G15.out)
    obtain ⟨⟨z0, z1, z2, z3, z4, z5, z6, z7⟩, _⟩ := box8 M12b.out
    unfold cmV
    go_wp2_with fail
    refine (CLC.out _ a11 c11 O12b.out R15.out).mono ?_
    rintro e w16 ⟨rfl, hb16⟩
    have O16 := hid (O15.out.below hb16)
    have R16 := hid (R15.out.below hb16)
    have G16 := hid (bb G15.out hb16)
    have M16 := hid (blk_below M15.out hb16)
    clear hb16 O15 R15 G15 M15 O12b M12b hwo y0 y1 y2 y3 y4 y5 y6 y7 z0 z1 z2 z3 z4 z5 z6 z7
    obtain ⟨⟨y0, y1, y2, y3, y4, y5, y6, y7⟩, _⟩ := box8 (blk_below M6.out G16.out)
    obtain ⟨⟨z0, z1, z2, z3, z4, z5, z6, z7⟩, _⟩ := box8 M16.out
    go_wp2_with fail
    refine (CLC.out _ a15 c15 O16.out R16.out).mono ?_
    rintro e w17 ⟨rfl, hb17⟩
    have G17 := hid (bb G16.out hb17)
    clear hb17 O16 R16 G16 M16 y0 y1 y2 y3 y4 y5 y6 y7 z0 z1 z2 z3 z4 z5 z6 z7
    go_wp2_with fail
    refine (CNN.out _ (T6.out.below G17.out)).mono ?_
    rintro e w18 ⟨rfl, hb18⟩
    have G18 := hid (bb G17.out hb18)
    clear hb18
    go_wp2_with fail
    refine (CII.out _ (T6.out.below G18.out)).mono ?_
    rintro e w19 ⟨rfl, hb19⟩
    have G19 := hid (bb G18.out hb19)
    clear hb19
    go_wp2_with fail
    go_ret
    exact ⟨rfl, bb (bb HBa.out E6.out) G19.out⟩

end Go.Proofs.YtlpbbkaelbafdaaGreatDoor

namespace Go.Proofs.YtlpbbkaelbafdaaGreatDoor
open Go.RowKit

theorem step_append_own {P : Program} {ops : Array Oper} {o : Oper} {a : Act} {w : World} {K : Act -> World -> Prop} {Q : Exit -> Act -> World -> Prop} {E : Prop}
  (hg : o.guard = none) (s x : Operand) (t : TypeId) (hop : o.op = Op.call { callee := Callee.builtin Builtin.append, args := #[s, x], argTypes := #[t, t] })
  (base : Nat) (e : TypeId) (i : TypeInfo) (z : Value) (size bytes : Nat) (h1 : P.underlying t = some (.slice e)) (h2 : P.info? e = some i) (h3 : i.zero = some z) (h4 : i.size = size) (h5 : i.bytes = bytes) (h6 : z.cells.size = size) (h7 : 0 < size)
  (v : Value) (n : Nat) (xs : List Value) (hs : a.eval s = v) (hown : w.ownsRow base e size v n xs)
  (ad : Addr) (m c : Nat) (news : List Value) (hx : a.eval x = .slice (some ad) m c) (hn : news.length = m * size) (hc : ∀ j u, news[j]? = some u -> w.cell? (ad.add j) = some u) (h1c : ∀ u ∈ news, u.oneCell' = true)
  (b1 : n + m <= maxLen) (b2 : (n + m) * bytes <= 140737488355328) (b3 : base <= w.heap.size)
  (hK : ∀ v' w', w'.ownsRow base e size v' (n + m) (xs ++ news) -> w.grownBy w' v.ownBlock -> (v' = .slice none 0 0 ↔ v = .slice none 0 0 /\ m = 0) -> K (a.put o.dst v') w') :
  if Region.wanted o (yielded ops a.tmps) = true then Oper.wp P o a w K Q else E := by
 have hw : Region.wanted o (yielded ops a.tmps) = true := by simp [Region.wanted, hg]
 rw [if_pos hw]
 obtain ⟨v', w', hrun, r1, r2, r3⟩ := run_append_own (P := P) w base t o.type e i z size bytes h1 h2 h3 h4 h5 h6 h7 v n xs hown ad m c news hn hc h1c b1 b2 b3
 unfold Oper.wp
 simp [execOp, hop, resolve, invoke, builtin, hs, hx, hrun, Result.andThen]
 exact hK v' w' r1 r2 r3

def Row (B b : Nat) (w : World) (v : Value) (n : Nat) : Prop :=
 ∃ g cap, ∃ xs : List Int, v = .slice (some ⟨g, 0, none⟩) n cap /\ B <= g /\ g < w.heap.size /\ g ≠ b /\ n <= cap /\ cap <= maxLen /\ xs.length = n /\
  (∀ j, j < n -> w.cell? ⟨g, j, none⟩ = some (.int .u8 (xs.getD j 0))) /\ ∀ j, j < n -> w.frozen? ⟨g, j, none⟩ = false

theorem Row.kept {B b : Nat} {w w1 : World} {v : Value} {n : Nat} (h : Row B b w v n) (g1 : w.grownBy w1 (some b)) : Row B b w1 v n := by
 obtain ⟨g, cap, xs, hv, hB, hlt, hne, hn, hm, hx, hc, hf⟩ := h
 have hb := g1.block g hlt (by simpa using hne)
 exact ⟨g, cap, xs, hv, hB, Nat.lt_of_lt_of_le hlt g1.size, hne, hn, hm, hx, fun j hj => (World.cell?_of_block (a := ⟨g, j, none⟩) hb).trans (hc j hj), fun j hj => (World.frozen?_of_block (a := ⟨g, j, none⟩) hb).trans (hf j hj)⟩

theorem Row.of_own {B b : Nat} {w : World} {v : Value} {n : Nat} {zs : List Int} (h : w.ownsRow B 5 1 v n (zs.map (Value.int .u8))) (hnn : v ≠ .slice none 0 0) (hb : v.ownBlock ≠ some b) : Row B b w v n := by
 have hl := h.1
 rcases h.2 with ⟨h0, _⟩ | ⟨g, cap, cur, hv, hB, hh, hn, hm, hcs, ht⟩
 ·exact absurd h0 hnn
 ·have hb' : g ≠ b := by
   intro e
   rw [hv] at hb
   exact hb (by simp [Value.ownBlock, e])
  have hl' : zs.length = n := by simpa using hl
  refine ⟨g, cap, zs, hv, hB, lt_of_heap hh, hb', hn, hm, hl', fun j hj => ?_, fun j hj => Lib.frozen_of_heap hh j⟩
  have := h.cells (g := g) (by rw [hv]; rfl) j (.int .u8 (zs.getD j 0)) (by
   have hj' : j < zs.length := by omega
   simp [List.getD, hj'])
  have hplain : (⟨g, 0, none⟩ : Addr).add j = ⟨g, j, none⟩ := by unfold Addr.add; split <;> simp_all
  rw [hplain] at this
  exact this

theorem ints_one (zs : List Int) : ∀ u ∈ zs.map (Value.int .u8), u.oneCell' = true := by
 intro u hu
 obtain ⟨x, _, rfl⟩ := List.mem_map.1 hu
 rfl

theorem add_at (g o j : Nat) : (⟨g, o, none⟩ : Addr).add j = ⟨g, o + j, none⟩ := by unfold Addr.add; split <;> simp_all

theorem info5d : (Tryz.prog.info? 5).map (fun i => (i.zero, i.size, i.bytes)) = some (some (.int .u8 0), 1, 1) := by kernel_rfl

theorem g_row {w w1 w2 : World} {b : Nat} {row : Option Nat} (h : w.grownBy w1 (some b)) (k : w1.grownBy w2 row) (hr : ∀ x, row = some x -> w.heap.size <= x) : w.grownBy w2 (some b) :=
 ⟨k.os.trans h.os, k.tape.trans h.tape, k.output.trans h.output, Nat.le_trans h.size k.size, fun i hi hb => (k.block i (Nat.lt_of_lt_of_le hi h.size) (fun e => by have := hr i e.symm; omega)).trans (h.block i hi hb)⟩

theorem Row.set {B b g cap n : Nat} {w : World} {xs : List Int} (hB : B <= g) (hlt : g < w.heap.size) (hne : g ≠ b) (hn : n <= cap) (hm : cap <= maxLen) (hx : xs.length = n)
  (hc : ∀ j, j < n -> w.cell? ⟨g, j, none⟩ = some (.int .u8 (xs.getD j 0))) (hf : ∀ j, j < n -> w.frozen? ⟨g, j, none⟩ = false) (k : Nat) (hk : k < n) (c : Int) :
  Row B b (w.setCell ⟨g, k, none⟩ (.int .u8 c)) (.slice (some ⟨g, 0, none⟩) n cap) n := by
 refine ⟨g, cap, xs.set k c, rfl, hB, by simpa [World.setCell] using hlt, hne, hn, hm, by simpa using hx, fun j hj => ?_, fun j hj => ?_⟩
 ·by_cases h : j = k
  ·subst h
   rw [World.cell?_setCell_same _ _ _ (by rw [hc j hj])]
   simp [List.getD, List.getElem?_set, hx, hk]
  ·rw [World.cell?_setCell_other _ _ _ _ (by simp [Ne.symm h]), hc j hj]
   simp [List.getD, List.getElem?_set, Ne.symm h]
 ·rw [World.frozen?_setCell]
  exact hf j hj

theorem Row.cut {B b : Nat} {w : World} {n g cap : Nat} (h : Row B b w (.slice (some ⟨g, 0, none⟩) n cap) n) (k : Nat) (hk : k <= n) : Row B b w (.slice (some ⟨g, 0, none⟩) k cap) k := by
 obtain ⟨g', cap', xs, hv, hB, hlt, hne, hn, hm, hx, hc, hf⟩ := h
 injection hv with e1 e2 e3
 injection e1 with e1
 injection e1 with e1
 subst e1 e3
 refine ⟨g, cap, xs.take k, rfl, hB, hlt, hne, by omega, hm, by simp; omega, fun j hj => ?_, fun j hj => hf j (by omega)⟩
 rw [hc j (by omega)]
 simp [List.getD, List.getElem?_take, hj]

theorem sl_pre (g L cap k : Nat) (h : k <= cap) (hc : ¬ cap = 0) (W : World) : (Instr.slice 22 (.slice (some ⟨g, 0, none⟩) L cap) none (some (.int .i64 k)) none).run Tryz.prog W = .ok (.slice (some ⟨g, 0, none⟩) k cap) W := by
 have h' : (k : Int) <= cap := by omega
 go_simp

theorem sl_suf (g L cap k : Nat) (h : k <= L) (hL : L <= cap) (W : World) : (Instr.slice 22 (.slice (some ⟨g, 0, none⟩) L cap) (some (.int .i64 k)) none none).run Tryz.prog W = .ok (.slice (some (if cap = k then ⟨g, 0, none⟩ else ⟨g, k, none⟩)) (L - k) (cap - k)) W := by
 have h' : (k : Int) <= L := by omega
 have h2 : (L : Int) <= cap := by omega
 go_simp
 by_cases e : cap = k <;> simp [e, Addr.add]

theorem suf_addr (g L cap k : Nat) (hL : L <= cap) : ∃ A : Addr, (if cap = k then (⟨g, 0, none⟩ : Addr) else ⟨g, k, none⟩) = A /\ ∀ j, j < L - k -> A.add j = ⟨g, k + j, none⟩ := by
 refine ⟨_, rfl, fun j hj => ?_⟩
 rw [if_neg (by omega), add_at]

def bare (w : World) : World := w.drew.alloc (.cells #[] 5)

theorem own_bare (w : World) (B : Nat) (hB : B <= w.heap.size) : (bare w).ownsRow B 5 1 (.slice (some ⟨w.heap.size, 0, none⟩) 0 0) 0 [] :=
 World.ownsRow_made w.drew #[] 0 hB (by decide) rfl

theorem cell_bare (w : World) (g j : Nat) (h : g < w.heap.size) : (bare w).cell? ⟨g, j, none⟩ = w.cell? ⟨g, j, none⟩ :=
 World.cell?_of_block (a := ⟨g, j, none⟩) (Lib.alloc_old w.drew _ g h)

theorem grown_bare (w : World) (row : Option Nat) : w.grownBy (bare w) row := by
 have gg := World.grownBy_alloc w.drew (.cells #[] 5) row
 exact ⟨gg.os, gg.tape, gg.output, gg.size, gg.block⟩

theorem src_pre {w : World} {g L k : Nat} {xs : List Int} (hx : xs.length = L) (hk : k <= L) (hc : ∀ j, j < L -> w.cell? ⟨g, j, none⟩ = some (.int .u8 (xs.getD j 0))) :
  ∀ j u, ((xs.take k).map (Value.int .u8))[j]? = some u -> w.cell? ((⟨g, 0, none⟩ : Addr).add j) = some u := by
 intro j u hj
 have hjk : j < k := by
  rcases Nat.lt_or_ge j k with h | h
  ·exact h
  ·rw [List.getElem?_eq_none (by simp; omega)] at hj; simp at hj
 rw [add_at, Nat.zero_add, hc j (by omega)]
 have hjl : j < xs.length := by omega
 simp [List.getElem?_take, hjk, hjl] at hj
 simp [List.getD, hjl, hj]

theorem src_suf {w : World} {g L k : Nat} {xs : List Int} {A : Addr} (hx : xs.length = L) (hA : ∀ j, j < L - k -> A.add j = ⟨g, k + j, none⟩) (hc : ∀ j, j < L -> w.cell? ⟨g, j, none⟩ = some (.int .u8 (xs.getD j 0))) :
  ∀ j u, ((xs.drop k).map (Value.int .u8))[j]? = some u -> w.cell? (A.add j) = some u := by
 intro j u hj
 have hjk : j < L - k := by
  rcases Nat.lt_or_ge j (L - k) with h | h
  ·exact h
  ·rw [List.getElem?_eq_none (by simp; omega)] at hj; simp at hj
 have hjl : k + j < xs.length := by omega
 rw [hA j hjk, hc (k + j) (by omega)]
 simp [List.getElem?_drop, hjl] at hj
 simp [List.getD, hjl, hj]

theorem cell_grown {w w1 : World} {v : Value} {B n : Nat} {ys : List Value} (ho : w.ownsRow B 5 1 v n ys) (hg : w.grownBy w1 v.ownBlock) {g L : Nat} {xs : List Int} (hgl : g < w.heap.size) (hne : some g ≠ v.ownBlock)
  (hc : ∀ j, j < L -> w.cell? ⟨g, j, none⟩ = some (.int .u8 (xs.getD j 0))) : ∀ j, j < L -> w1.cell? ⟨g, j, none⟩ = some (.int .u8 (xs.getD j 0)) := fun j hj =>
 (World.cell?_of_block (a := ⟨g, j, none⟩) (hg.block g hgl hne)).trans (hc j hj)

theorem one_cell5 (w : World) (v : Value) : ∀ j u, [v][j]? = some u -> (w.alloc (.cells #[v] 5)).cell? ((⟨w.heap.size, 0, none⟩ : Addr).add j) = some u := by
 intro j u hj
 match j, hj with
 | 0, hj => simp at hj; subst hj; simp [Addr.add]

theorem Row.mono {B B1 b : Nat} {w : World} {v : Value} {n : Nat} (h : Row B b w v n) (hB : B1 <= B) : Row B1 b w v n := by
 obtain ⟨g, cap, xs, hv, hg, r⟩ := h
 exact ⟨g, cap, xs, hv, Nat.le_trans hB hg, r⟩

theorem cells3 {w4 W1 W2 W3 : World} {b g L : Nat} {xs : List Int} {v1 : Value} {n : Nat} {ys : List Value} {o : Obj} (hg4 : g < w4.heap.size) (hgb : g ≠ b) (hs : w4.heap.size <= W1.heap.size)
  (hc : ∀ j, j < L -> W1.cell? ⟨g, j, none⟩ = some (.int .u8 (xs.getD j 0))) (hG : W1.grownBy W2 (some b)) (hown1 : W1.ownsRow w4.heap.size 5 1 v1 n ys) (h3 : (W2.alloc o).grownBy W3 v1.ownBlock) :
  ∀ j, j < L -> W3.cell? ⟨g, j, none⟩ = some (.int .u8 (xs.getD j 0)) := fun j hj => by
 have h2 : g < W2.heap.size := by have := hG.size; omega
 have e3 := h3.block g (by simp; omega) (fun e => by have := (hown1.lt g e.symm).1; omega)
 have e2 := Lib.alloc_old W2 o g h2
 have e1 := hG.block g (by omega) (by simpa using hgb)
 exact (World.cell?_of_block (a := ⟨g, j, none⟩) (e3.trans (e2.trans e1))).trans (hc j hj)

theorem Cur.bare {w0 : World} {a : Option Addr} {len cap b : Nat} {w : World} (h : Cur w0 a len cap b w) : Cur w0 a len cap b (bare w) := h.grown (grown_bare w none) (by simp) (by simp)

theorem own_ge {w w1 : World} {B B0 : Nat} {v : Value} {n : Nat} {xs : List Value} (h : w.ownsRow B 5 1 v n xs) (hB : B0 <= B) : ∀ k, v.ownBlock = some k -> B0 <= k := fun k hk => Nat.le_trans hB (h.lt k hk).1

set_option maxRecDepth 8000 in
set_option maxHeartbeats 4000000 in
theorem cBend (s signs : ByteArray) (w0 : World) (a : Option Addr) (len cap b : Nat) (w : World) (hs : s.size <= 250) (hg0 : 1 <= signs.size) (hg1 : signs.size <= 256) (hlen : len <= 4096) (hcr : CodeRow w0 a len) (hC : Cur w0 a len cap b w) :
  Calls Tryz.prog 32 #[.pointer (some ⟨b, 0, none⟩), .string s, .string signs] w fun e w' => ∃ t : ByteArray, e = .returned (.string t) /\ t.size <= s.size + 2 /\ Cur w0 a len cap b w' /\ w.grownBy w' (some b) := by
 obtain ⟨i0, hi, hz0, hz1, hz2⟩ := info_parts info5d
 have HR : Hid (CodeRow w0 a len) := hcr
 have HC : Hid (Cur w0 a len cap b w) := hC
 clear hC hcr
 have hconv := run_bytes_of_string (P := Tryz.prog) w 9 22 5 s Tryz.underlying9 Tryz.underlying22 Tryz.underlying5
 obtain ⟨w1, hw1⟩ : ∃ w1, w1 = (w.drew.alloc (.cells (bytesRow s (grownCap w s.size 0 5)) 5 ((bytesRow s (grownCap w s.size 0 5)).size, (bytesRow s (grownCap w s.size 0 5)).size + 1))) := ⟨_, rfl⟩
 obtain ⟨cp, hcp⟩ : ∃ cp, cp = grownCap w s.size 0 5 := ⟨_, rfl⟩
 rw [<- hw1, <- hcp] at hconv
 have hcl : s.size <= cp := by rw [hcp]; exact grownCap_ge _ _ _ _
 have hcm : cp <= maxLen := by rw [hcp]; exact grownCap_le_maxLen _ _ _ _ (by unfold maxLen; omega)
 have HRow : Hid (Row w.heap.size b w1 (.slice (some ⟨w.heap.size, 0, none⟩) s.size cp) s.size) := by
  have hh : w1.heap[w.heap.size]? = some (.cells (bytesRow s cp) 5 ((bytesRow s cp).size, (bytesRow s cp).size + 1)) := by rw [hw1, <- hcp]; exact heap_alloc_new w.drew _
  have hbl : b < w.heap.size := HC.out.lt
  have hbs : (bytesRow s cp).size = cp := by
   have : s.data.size = s.size := rfl
   simp [bytesRow]; omega
  refine ⟨w.heap.size, cp, s.data.toList.map fun x => (x.toNat : Int), rfl, Nat.le_refl _, lt_of_heap hh, by omega, hcl, hcm, by simp, fun j hj => ?_, fun j hj => ?_⟩
  ·have hj' : j < s.data.size := hj
   rw [Lib.cell_of_heap hh]
   simp [bytesRow, List.getD, hj', hj, Array.getElem?_append]
  ·have : ¬ (bytesRow s cp).size <= j := by omega
   simp [World.frozen?, hh, this]
 have HC1 : Hid (Cur w0 a len cap b w1) := by rw [hw1]; exact Cur.alloc (w := w.drew) (HC.out.drewN 1) _
 have HG1 : Hid (w.grownBy w1 (some b)) := by
  rw [hw1]
  have gg := World.grownBy_alloc w.drew (.cells (bytesRow s (grownCap w s.size 0 5)) 5 ((bytesRow s (grownCap w s.size 0 5)).size, (bytesRow s (grownCap w s.size 0 5)).size + 1)) (some b)
  exact ⟨gg.os, gg.tape, gg.output, gg.size, gg.block⟩
 clear hw1 hcp hcl hcm
 go_enter Tryz.func32, Tryz.ntmps32
 go_wp2_with (go_at_call 28; refine (cBelow 3 w0 a len cap b _ hlen HR.out HC1.out (by decide) (by decide)).mono ?_; rintro e w2 ⟨x0, rfl, hx0, hC2, hG2⟩)
 have HC2 : Hid (Cur w0 a len cap b w2) := hC2
 have HG2 : Hid (w.grownBy w2 (some b)) := gtrans HG1.out hG2
 have HR2 : Hid (Row w.heap.size b w2 (.slice (some ⟨w.heap.size, 0, none⟩) s.size cp) s.size) := HRow.out.kept hG2
 clear hC2 hG2 hconv HRow HC1 HG1
 go_loopw [7, 8] (fun v n wr => ∃ m L : Nat, n = .int .i64 m /\ m <= 2 /\ L + m <= s.size + 2 /\ Row w.heap.size b wr v L /\ Cur w0 a len cap b wr /\ w.grownBy wr (some b)) (fun _ n _ => (intOf n).toNat)
 case atStart => exact ⟨x0, s.size, rfl, by omega, by omega, HR2.out, HC2.out, HG2.out⟩
 case round =>
  obtain ⟨m, L, rfl, hm, hL, hRow, hCr, hGr⟩ := hrel
  have HRr : Hid (Row w.heap.size b wr u7 L) := hRow
  obtain ⟨g, cap', xs, rfl, hgB, hgl, hgb, hLc, hcm, hxl, hcell, hfr⟩ := hRow
  have HCr : Hid (Cur w0 a len cap b wr) := hCr
  have HGr : Hid (w.grownBy wr (some b)) := hGr
  clear hCr hGr
  by_cases hgo : 0 < m /\ 0 < L
  ·obtain ⟨hm0, hL0⟩ := hgo
   have hLb : decide ((0 : Int) < (L : Int)) = true := by simp; omega
   have hmb : decide ((0 : Int) < (m : Int)) = true := by simp; omega
   go_wp2_with fail
   refine (cBelow L w0 a len cap b _ hlen HR.out HCr.out (by omega) (by omega)).mono ?_
   rintro e w3 ⟨k, rfl, hk, hC3, hG3⟩
   go_wp2_with fail
   refine (cBelow 4 w0 a len cap b _ hlen HR.out hC3 (by decide) (by decide)).mono ?_
   rintro e w4 ⟨q, rfl, hq, hC4, hG4⟩
   have HC4 : Hid (Cur w0 a len cap b w4) := hC4
   have HG4 : Hid (wr.grownBy w4 (some b)) := gtrans hG3 hG4
   clear hC3 hG3 hC4 hG4 hLb hmb
   rcases (show q = 0 \/ q = 1 \/ q = 2 \/ q = 3 from by omega) with rfl | rfl | rfl | rfl
   ·go_wp2_with fail
    refine (cBelow signs.size w0 a len cap b _ hlen HR.out HC4.out hg0 hg1).mono ?_
    rintro e w5 ⟨y, rfl, hy, hC5, hG5⟩
    have hblk := (gtrans HG4.out hG5).block g hgl (by simpa using hgb)
    have hG : w.grownBy w5 (some b) := gtrans HGr.out (gtrans HG4.out hG5)
    have hc5 : ∀ j, j < L -> w5.cell? ⟨g, j, none⟩ = some (.int .u8 (xs.getD j 0)) := fun j hj => (World.cell?_of_block (a := ⟨g, j, none⟩) hblk).trans (hcell j hj)
    have hf5 : ∀ j, j < L -> w5.frozen? ⟨g, j, none⟩ = false := fun j hj => (World.frozen?_of_block (a := ⟨g, j, none⟩) hblk).trans (hfr j hj)
    have hg5 : g < w5.heap.size := Nat.lt_of_lt_of_le hgl (Nat.le_trans HG4.out.size hG5.size)
    have R := Row.set (B := w.heap.size) (b := b) (w := w5) hgB hg5 hgb hLc hcm hxl hc5 hf5 k hk
    have HRn : Hid (∀ c, Row w.heap.size b (w5.setCell ⟨g, k, none⟩ (.int .u8 c)) (.slice (some ⟨g, 0, none⟩) L cap') L) := R
    have HCn : Hid (∀ c : Int, Cur w0 a len cap b (w5.setCell ⟨g, k, none⟩ (.int .u8 c))) := fun c => hC5.grown (Lib.grownBy_setCell w5 g k _) (by simpa using fun e : b = g => hgb e.symm) (fun x hx => by have := HCr.out.size; have := HGr.out.size; have := HC.out.size; simp at hx; omega)
    have HGn : Hid (∀ c : Int, w.grownBy (w5.setCell ⟨g, k, none⟩ (.int .u8 c)) (some b)) := fun c => g_row hG (Lib.grownBy_setCell w5 g k _) (fun x hx => by simp at hx; omega)
    have ck := hc5 k hk
    have fk := hf5 k hk
    clear hblk hG hc5 hf5 R hC5 hG5 hcell hfr
    go_wp2
    go_roundw
    case rel => exact ⟨m - 1, L, by go_num, by omega, by omega, HRn.out _, HCn.out _, HGn.out _⟩
    case measure => simp [intOf]; omega
   ·have HRn : Hid (Row w.heap.size b w4 (.slice (some ⟨g, 0, none⟩) k cap') k) := (HRr.out.kept HG4.out).cut k (by omega)
    have HGn : Hid (w.grownBy w4 (some b)) := gtrans HGr.out HG4.out
    have hcz : ¬ cap' = 0 := by omega
    have hkc : (k : Int) <= (cap' : Int) := by omega
    clear hcell hfr
    go_wp2
    go_roundw
    case rel => exact ⟨m - 1, k, by go_num, by omega, by omega, HRn.out, HC4.out, HGn.out⟩
    case measure => simp [intOf]; omega
   ·have hcz : ¬ cap' = 0 := by omega
    have hwr : IntKind.i64.wrap ((k : Int) + 1) = (k : Int) + 1 := IntWalk.i64_in _ (by omega)
    have hs3 := sl_pre g L cap' k (by omega) hcz
    obtain ⟨A, hA, hAj⟩ := suf_addr g L cap' (k + 1) hLc
    have hs8 : ∀ W, (Instr.slice 22 (.slice (some ⟨g, 0, none⟩) L cap') (some (.int .i64 ((k : Int) + 1))) none none).run Tryz.prog W = .ok (.slice (some A) (L - (k + 1)) (cap' - (k + 1))) W := fun W => by
     have := sl_suf g L cap' (k + 1) (by omega) hLc W
     rw [hA] at this
     exact this
    have hblk := HG4.out.block g hgl (by simpa using hgb)
    have hg4 : g < w4.heap.size := Nat.lt_of_lt_of_le hgl HG4.out.size
    have hw4 : w.heap.size <= w4.heap.size := Nat.le_trans HGr.out.size HG4.out.size
    have hcb : ∀ j, j < L -> (bare w4).cell? ⟨g, j, none⟩ = some (.int .u8 (xs.getD j 0)) := fun j hj => by
     rw [cell_bare w4 g j hg4]; exact (World.cell?_of_block (a := ⟨g, j, none⟩) hblk).trans (hcell j hj)
    have HO0 : Hid ((bare w4).ownsRow w.heap.size 5 1 (.slice (some ⟨w4.heap.size, 0, none⟩) 0 0) 0 []) := own_bare w4 _ hw4
    have HS1 : Hid (∀ j u, ((xs.take k).map (Value.int .u8))[j]? = some u -> (bare w4).cell? ((⟨g, 0, none⟩ : Addr).add j) = some u) := src_pre hxl (by omega) hcb
    have HCB : Hid (∀ j, j < L -> (bare w4).cell? ⟨g, j, none⟩ = some (.int .u8 (xs.getD j 0))) := hcb
    have HAj : Hid (∀ j, j < L - (k + 1) -> A.add j = ⟨g, (k + 1) + j, none⟩) := hAj
    have hl1 : ((xs.take k).map (Value.int .u8)).length = k * 1 := by simp; omega
    have hl2 : ((xs.drop (k + 1)).map (Value.int .u8)).length = (L - (k + 1)) * 1 := by simp; omega
    clear hcell hfr hblk hcb hAj hA
    go_wp2
    go_region_law (first
     | (refine step_append_own rfl (.tmp 47) (.tmp 50) 22 rfl w.heap.size 5 i0 (.int .u8 0) 1 1 Tryz.underlying22 hi hz0 hz1 hz2 rfl (by decide) (.slice (some ⟨w4.heap.size, 0, none⟩) 0 0) 0 [] (by simp [Act.eval, Act.put]) HO0.out ⟨g, 0, none⟩ k cap' ((xs.take k).map (Value.int .u8)) (by simp [Act.eval, Act.put]) hl1 HS1.out (ints_one _) (by unfold maxLen; omega) (by omega) (by simp [bare]; omega) ?_; intro v1 W1 hown1 hgrow1 hnil1)
     | (refine step_append_own rfl (.tmp 51) (.tmp 55) 22 rfl w.heap.size 5 i0 (.int .u8 0) 1 1 Tryz.underlying22 hi hz0 hz1 hz2 rfl (by decide) v1 (0 + k) ([] ++ (xs.take k).map (Value.int .u8)) (by simp [Act.eval, Act.put]) hown1 A (L - (k + 1)) (cap' - (k + 1)) ((xs.drop (k + 1)).map (Value.int .u8)) (by simp [Act.eval, Act.put]) hl2 (src_suf hxl HAj.out (cell_grown HO0.out hgrow1 (by simp [bare]; omega) (by simp [Value.ownBlock]; omega) HCB.out)) (ints_one _) (by unfold maxLen; omega) (by omega) (Nat.le_trans (show w.heap.size <= (bare w4).heap.size by simp [bare]; omega) hgrow1.size) ?_; intro v2 W2 hown2 hgrow2 hnil2))
    have hw0 : w0.heap.size <= w.heap.size := HC.out.size
    have hbl : b < w4.heap.size := HC4.out.lt
    have C1 := HC4.out.bare.grown hgrow1 (by simp [Value.ownBlock]; omega) (own_ge (w1 := W1) HO0.out hw0)
    have C2 := C1.grown hgrow2 (fun e => (C1.ne hown1) e.symm) (own_ge (w1 := W2) hown1 hw0)
    have G1 := g_row (gtrans HGr.out HG4.out) (grown_bare w4 none) (by simp)
    have G2 := g_row (g_row G1 hgrow1 (own_ge (w1 := W1) HO0.out (Nat.le_refl _))) hgrow2 (own_ge (w1 := W2) hown1 (Nat.le_refl _))
    have nn1 : v1 ≠ .slice none 0 0 := fun e => by simpa using (hnil1.1 e).1
    have nn2 : v2 ≠ .slice none 0 0 := fun e => nn1 (hnil2.1 e).1
    have R : Row w.heap.size b W2 v2 (L - 1) := by
     refine Row.of_own (zs := xs.take k ++ xs.drop (k + 1)) ?_ nn2 (C2.ne hown2)
     have e1 : 0 + k + (L - (k + 1)) = L - 1 := by omega
     rw [<- e1, List.map_append]
     exact hown2
    have HRn : Hid (Row w.heap.size b W2 v2 (L - 1)) := R
    have HCn : Hid (Cur w0 a len cap b W2) := C2
    have HGn : Hid (w.grownBy W2 (some b)) := G2
    clear R C1 C2 G1 G2 nn1 nn2 hown1 hown2 hgrow1 hgrow2 hnil1 hnil2 hs3 hs8 hwr HO0 HS1 HCB HAj hl1 hl2
    go_wp2
    go_roundw
    case rel => exact ⟨m - 1, L - 1, by go_num, by omega, by omega, HRn.out, HCn.out, HGn.out⟩
    case measure => simp [intOf]; omega
   ·have hcz : ¬ cap' = 0 := by omega
    have hs3 := sl_pre g L cap' k (by omega) hcz
    obtain ⟨A, hA, hAj⟩ := suf_addr g L cap' k hLc
    have hs8 : ∀ W, (Instr.slice 22 (.slice (some ⟨g, 0, none⟩) L cap') (some (.int .i64 (k : Int))) none none).run Tryz.prog W = .ok (.slice (some A) (L - k) (cap' - k)) W := fun W => by
     have := sl_suf g L cap' k (by omega) hLc W
     rw [hA] at this
     exact this
    have hblk := HG4.out.block g hgl (by simpa using hgb)
    have hg4 : g < w4.heap.size := Nat.lt_of_lt_of_le hgl HG4.out.size
    have hw4 : w.heap.size <= w4.heap.size := Nat.le_trans HGr.out.size HG4.out.size
    have hw0 : w0.heap.size <= w.heap.size := HC.out.size
    have hbl : b < w4.heap.size := HC4.out.lt
    have hcb : ∀ j, j < L -> (bare w4).cell? ⟨g, j, none⟩ = some (.int .u8 (xs.getD j 0)) := fun j hj => by
     rw [cell_bare w4 g j hg4]; exact (World.cell?_of_block (a := ⟨g, j, none⟩) hblk).trans (hcell j hj)
    have HO0 : Hid ((bare w4).ownsRow w4.heap.size 5 1 (.slice (some ⟨w4.heap.size, 0, none⟩) 0 0) 0 []) := own_bare w4 _ (Nat.le_refl _)
    have HS1 : Hid (∀ j u, ((xs.take k).map (Value.int .u8))[j]? = some u -> (bare w4).cell? ((⟨g, 0, none⟩ : Addr).add j) = some u) := src_pre hxl (by omega) hcb
    have HCB : Hid (∀ j, j < L -> (bare w4).cell? ⟨g, j, none⟩ = some (.int .u8 (xs.getD j 0))) := hcb
    have HAj : Hid (∀ j, j < L - k -> A.add j = ⟨g, k + j, none⟩) := hAj
    have hl1 : ((xs.take k).map (Value.int .u8)).length = k * 1 := by simp; omega
    have hl2 : ((xs.drop k).map (Value.int .u8)).length = (L - k) * 1 := by simp; omega
    have HCbare : Hid (Cur w0 a len cap b (bare w4)) := HC4.out.bare
    clear hcell hfr hblk hcb hAj hA
    go_wp2
    go_region_law (first
     | (refine step_append_own rfl (.tmp 59) (.tmp 62) 22 rfl w4.heap.size 5 i0 (.int .u8 0) 1 1 Tryz.underlying22 hi hz0 hz1 hz2 rfl (by decide) (.slice (some ⟨w4.heap.size, 0, none⟩) 0 0) 0 [] (by simp [Act.eval, Act.put]) HO0.out ⟨g, 0, none⟩ k cap' ((xs.take k).map (Value.int .u8)) (by simp [Act.eval, Act.put]) hl1 HS1.out (ints_one _) (by unfold maxLen; omega) (by omega) (by simp [bare]) ?_; intro v1 W1 hown1 hgrow1 hnil1; have hC1 := HCbare.out.grown hgrow1 (by simp [Value.ownBlock]; omega) (own_ge (w1 := W1) HO0.out (Nat.le_trans hw0 hw4)); have hcW1 := cell_grown HO0.out hgrow1 (by simp [bare]; omega) (by simp [Value.ownBlock]; omega) HCB.out; have hsW1 : w4.heap.size <= W1.heap.size := Nat.le_trans (show w4.heap.size <= (bare w4).heap.size by simp [bare]) hgrow1.size; have HW1 : Hid (∀ j, j < L -> W1.cell? ⟨g, j, none⟩ = some (.int .u8 (xs.getD j 0))) := hcW1; clear hcW1)
     | (refine step_append_own rfl (.tmp 63) (.tmp 70) 22 rfl w4.heap.size 5 i0 (.int .u8 0) 1 1 Tryz.underlying22 hi hz0 hz1 hz2 rfl (by decide) v1 (0 + k) ([] ++ (xs.take k).map (Value.int .u8)) (by simp [Act.eval, Act.put]) ((own_kept hC1 hown1 hG5).alloc _) ⟨W2.heap.size, 0, none⟩ 1 1 [.int .u8 (signs[y].toNat : Int)] (by simp [Act.eval, Act.put]) rfl (one_cell5 _ _) (ints_one [(signs[y].toNat : Int)]) (by unfold maxLen; omega) (by omega) (by simp; have := hG5.size; omega) ?_; intro v3 W3 hown3 hgrow3 hnil3)
     | (refine step_append_own rfl (.tmp 71) (.tmp 74) 22 rfl w4.heap.size 5 i0 (.int .u8 0) 1 1 Tryz.underlying22 hi hz0 hz1 hz2 rfl (by decide) v3 (0 + k + 1) (([] ++ (xs.take k).map (Value.int .u8)) ++ [.int .u8 (signs[y].toNat : Int)]) (by simp [Act.eval, Act.put]) hown3 A (L - k) (cap' - k) ((xs.drop k).map (Value.int .u8)) (by simp [Act.eval, Act.put]) hl2 (src_suf hxl HAj.out (cells3 hg4 hgb hsW1 HW1.out hG5 hown1 hgrow3)) (ints_one _) (by unfold maxLen; omega) (by omega) (Nat.le_trans hsW1 (Nat.le_trans hG5.size (Nat.le_trans (by simp) hgrow3.size))) ?_; intro v4 W4 hown4 hgrow4 hnil4)
     | (go_simp; go_at_call 28; refine (cBelow signs.size w0 a len cap b _ hlen HR.out hC1 hg0 hg1).mono ?_; rintro e W2 ⟨y, rfl, hy, hC5, hG5⟩))
    have O2 := own_kept hC1 hown1 hG5
    have C3 := (hC5.alloc (.cells #[.int .u8 (signs[y].toNat : Int)] 5)).grown hgrow3 (fun e => (hC5.ne O2) e.symm) (own_ge (w1 := W3) O2 (Nat.le_trans hw0 hw4))
    have C4 := C3.grown hgrow4 (fun e => (C3.ne hown3) e.symm) (own_ge (w1 := W4) hown3 (Nat.le_trans hw0 hw4))
    have G1 := g_row (gtrans HGr.out HG4.out) (grown_bare w4 none) (by simp)
    have G2 := gtrans (g_row G1 hgrow1 (own_ge (w1 := W1) HO0.out hw4)) hG5
    have G3 := g_row (g_row G2 (World.grownBy_alloc W2 (.cells #[.int .u8 (signs[y].toNat : Int)] 5) none) (by simp)) hgrow3 (own_ge (w1 := W3) O2 hw4)
    have G4 := g_row G3 hgrow4 (own_ge (w1 := W4) hown3 hw4)
    have nn1 : v1 ≠ .slice none 0 0 := fun e => by simpa using (hnil1.1 e).1
    have nn3 : v3 ≠ .slice none 0 0 := fun e => nn1 (hnil3.1 e).1
    have nn4 : v4 ≠ .slice none 0 0 := fun e => nn3 (hnil4.1 e).1
    have R : Row w4.heap.size b W4 v4 (L + 1) := by
     refine Row.of_own (zs := xs.take k ++ [(signs[y].toNat : Int)] ++ xs.drop k) ?_ nn4 (C4.ne hown4)
     have e1 : 0 + k + 1 + (L - k) = L + 1 := by omega
     rw [<- e1, List.map_append, List.map_append]
     exact hown4
    have HRn : Hid (Row w.heap.size b W4 v4 (L + 1)) := R.mono hw4
    have HCn : Hid (Cur w0 a len cap b W4) := C4
    have HGn : Hid (w.grownBy W4 (some b)) := G4
    clear R O2 C3 C4 G1 G2 G3 G4 nn1 nn3 nn4 hown1 hown3 hown4 hgrow1 hgrow3 hgrow4 hnil1 hnil3 hnil4 hs3 hs8 HO0 HS1 HCB HAj hl1 hl2 hC1 hC5 hG5 HW1
    go_wp2
    go_roundw
    case rel => exact ⟨m - 1, L + 1, by go_num, by omega, by omega, HRn.out, HCn.out, HGn.out⟩
    case measure => simp [intOf]; omega
  ·have hrow : ∀ W, (∀ j, j < L -> W.cell? ⟨g, j, none⟩ = some (.int .u8 (xs.getD j 0))) -> (convert 22 9 (.slice (some ⟨g, 0, none⟩) L cap')).run Tryz.prog W = .ok (.string (strOfNums xs)) W := fun W hW => run_convert_bytes_arg (P := Tryz.prog) W 22 5 Tryz.underlying22 Tryz.underlying5 g 0 L cap' xs hxl (fun i hi => by rw [Nat.zero_add]; exact hW i hi) 9 Tryz.underlying9
   have hr := hrow wr hcell
   have hsz : (strOfNums xs).size = L := by rw [strOfNums_size]; exact hxl
   clear hrow hcell hfr
   by_cases hm0 : 0 < m
   ·have hmb : decide ((0 : Int) < (m : Int)) = true := by simp; omega
    have hLb : decide ((0 : Int) < (L : Int)) = false := by simp; omega
    go_wp2
    go_ret
    exact ⟨_, rfl, by rw [hsz]; omega, HCr.out, HGr.out⟩
   ·have hmb : decide ((0 : Int) < (m : Int)) = false := by simp; omega
    go_wp2
    go_ret
    exact ⟨_, rfl, by rw [hsz]; omega, HCr.out, HGr.out⟩

end Go.Proofs.YtlpbbkaelbafdaaGreatDoor

namespace Go.Proofs.YtlpbbkaelbafdaaGreatDoor
open Go.RowKit

theorem Cur.below {w0 : World} {a : Option Addr} {len cap b : Nat} {w w1 : World} (h : Cur w0 a len cap b w) (k : Below w.heap.size w w1) : Cur w0 a len cap b w1 := by
 have hlt := h.lt
 obtain ⟨hb, h2, i, x, h0, h1, hh⟩ := h
 exact ⟨hb, h2.trans (k.mono h2.size), i, x, h0, h1, (k.block b hlt).trans hh⟩

theorem snoc_byteT (acc : List UInt8) (x : UInt8) : Lib.byteCells acc ++ [.int .u8 x.toNat] = Lib.byteCells (acc ++ [x]) := by simp [Lib.byteCells]

theorem own_snocT {w : World} {B : Nat} {v : Value} {acc : List UInt8} {x : UInt8} (h : w.ownsRow B 5 1 v (acc.length + 1) (Lib.byteCells acc ++ [.int .u8 x.toNat])) : w.ownsRow B 5 1 v (acc ++ [x]).length (Lib.byteCells (acc ++ [x])) := by
 rw [<- snoc_byteT, List.length_append]
 exact h

set_option maxHeartbeats 2000000 in
theorem cText (signs : ByteArray) (most : Nat) (w0 : World) (a : Option Addr) (len cap b : Nat) (w : World) (hm0 : 1 <= most) (hm1 : most <= 256) (hg0 : 1 <= signs.size) (hg1 : signs.size <= 256) (hlen : len <= 4096) (hcr : CodeRow w0 a len) (hC : Cur w0 a len cap b w) :
  Calls Tryz.prog 75 #[.pointer (some ⟨b, 0, none⟩), .string signs, .int .i64 most] w fun e w' => ∃ t : ByteArray, e = .returned (.string t) /\ t.size < most /\ Cur w0 a len cap b w' /\ w.grownBy w' (some b) := by
 obtain ⟨i0, hi, hz0, hz1, hz2⟩ := info_parts info5d
 have HR : Hid (CodeRow w0 a len) := hcr
 have HC1 : Hid (Cur w0 a len cap b (w.alloc (.cells #[] 5))) := hC.alloc _
 have hw0 : w0.heap.size <= w.heap.size := hC.size
 have HO : Hid ((w.alloc (.cells #[] 5)).ownsRow w.heap.size 5 1 (.slice (some ⟨w.heap.size, 0, none⟩) 0 0) 0 []) := World.ownsRow_made w #[] 0 (Nat.le_refl _) (by decide) rfl
 have HG : Hid (w.grownBy (w.alloc (.cells #[] 5)) (some b)) := World.grownBy_alloc w _ _
 clear hC hcr
 go_enter Tryz.func75, Tryz.ntmps75
 go_wp2_with fail
 refine (cBelow most w0 a len cap b _ hlen HR.out HC1.out hm0 hm1).mono ?_
 rintro e w2 ⟨x0, rfl, hx0, hC2, hG2⟩
 have O2 := own_kept HC1.out HO.out hG2
 have HC2 : Hid (Cur w0 a len cap b w2) := hC2
 have HG2 : Hid (w.grownBy w2 (some b)) := gtrans HG.out hG2
 have HO2 : Hid (w2.ownsRow w.heap.size 5 1 (.slice (some ⟨w.heap.size, 0, none⟩) 0 0) 0 []) := O2
 clear O2 hC2 hG2 HC1 HG HO
 go_wp2_with fail
 go_loopw [7, 8] (fun v n wr => ∃ (m : Nat) (acc : List UInt8), n = .int .i64 m /\ acc.length + m < most /\ wr.ownsRow w.heap.size 5 1 v acc.length (Lib.byteCells acc) /\ Cur w0 a len cap b wr /\ w.grownBy wr (some b)) (fun _ n _ => (intOf n).toNat)
 case atStart => exact ⟨x0, [], rfl, by simpa using hx0, HO2.out, HC2.out, HG2.out⟩
 case round =>
  obtain ⟨m, acc, rfl, hm, hown, hCr, hGr⟩ := hrel
  by_cases hmp : 0 < m
  ·have hmb : decide ((0 : Int) < (m : Int)) = true := by simp; omega
   have HOr : Hid (wr.ownsRow w.heap.size 5 1 u7 acc.length (Lib.byteCells acc)) := hown
   have HCr : Hid (Cur w0 a len cap b wr) := hCr
   have HGr : Hid (w.grownBy wr (some b)) := hGr
   clear hown hCr hGr
   go_wp2_with fail
   refine (cBelow signs.size w0 a len cap b _ hlen HR.out HCr.out hg0 hg1).mono ?_
   rintro e w3 ⟨y, rfl, hy, hC3, hG3⟩
   have O3 := own_kept HCr.out HOr.out hG3
   have hs3 : w.heap.size <= w3.heap.size := Nat.le_trans HGr.out.size hG3.size
   go_wp2_with (at_builtin; refine wpList_append_own _ rfl _ _ 22 rfl w.heap.size 5 i0 (.int .u8 0) 1 1 Tryz.underlying22 hi hz0 hz1 hz2 rfl (by decide) _ _ _ rfl (O3.alloc _) ⟨w3.heap.size, 0, none⟩ 1 1 [.int .u8 (signs[y].toNat : Int)] rfl rfl (one_cell5 _ _) (ints_one [(signs[y].toNat : Int)]) (by unfold maxLen; omega) (by omega) (by simp; omega) ?_)
   intro v' w4 hown' hgrow _
   have R := own_snocT hown'
   have C4 := (hC3.alloc (.cells #[.int .u8 (signs[y].toNat : Int)] 5)).grown hgrow (fun e => (hC3.ne O3) e.symm) (own_ge (w1 := w4) O3 hw0)
   have G4 := g_row (g_row (gtrans HGr.out hG3) (World.grownBy_alloc w3 (.cells #[.int .u8 (signs[y].toNat : Int)] 5) none) (by simp)) hgrow (own_ge (w1 := w4) O3 (Nat.le_refl _))
   clear hown' hgrow O3 hC3 hG3
   go_wp2
   go_roundw
   case rel => exact ⟨m - 1, acc ++ [signs[y]], by go_num, by simp; omega, R, C4, G4⟩
   case measure => simp [intOf]; omega
  ·have hmb : decide ((0 : Int) < (m : Int)) = false := by simp; omega
   have hr := run_str_own (P := Tryz.prog) (src := 22) (dst := 9) Tryz.underlying22 Tryz.underlying5 Tryz.underlying9 hown
   clear hown
   go_wp2
   go_ret
   exact ⟨_, rfl, by show acc.toArray.size < most; simp; omega, hCr, hGr⟩

theorem byte_of (x : Int) (h0 : 0 <= x) (h1 : x <= 255) : ((UInt8.ofNat x.toNat).toNat : Int) = x := by
 have : x.toNat < 256 := by omega
 rw [UInt8.toNat_ofNat_of_lt' (by exact this)]
 omega

end Go.Proofs.YtlpbbkaelbafdaaGreatDoor
