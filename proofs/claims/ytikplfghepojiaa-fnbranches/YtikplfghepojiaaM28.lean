/- What the exact laws of branches ask of what is answered: a tree, or nothing; few nodes, of few attrs. Contracts of the draws of a great number below another; the bytes that a draw is made of. The road of FnBranches. -/
import Derived.Test.YtikplfghepojiaaM20
import Derived.Test.YtikplfghepojiaaM25
import Derived.Test.YtikplfghepojiaaM19
import Derived.Test.YtikplfghepojiaaM27
import Derived.Test.YtikplfghepojiaaRows
import Derived.Test.YtikplfghepojiaaM1
import Derived.Test.YtikplfghepojiaaM4
import Derived.Test.YtikplfghepojiaaM16
import Derived.Test.YtikplfghepojiaaM21
import Derived.Test.YtikplfghepojiaaM26
import Derived.Test.YtikplfghepojiaaM11
import Derived.OpenShut
import Derived.WalkKit
namespace Go.Proofs.Ytikplfghepojiaa
open Go.RowKit
set_option linter.unusedVariables false

theorem Nd.Row.rdG {w : World} {B c : Nat} {a : Option Addr} {es : List Nd.E} {L : List Tk} (h : Nd.Row w B (.slice a es.length c) es) (hm : es.map (·.t) = L) : es.length = L.length ∧ TkRow w a L := by
  have hl : es.length = L.length := by rw [← hm, List.length_map]
  obtain ⟨a2, c2, e, ht⟩ := h.tkRow
  obtain ⟨rfl, rfl⟩ : a = a2 ∧ c = c2 := by cases e; exact ⟨rfl, rfl⟩
  rw [hm] at ht
  exact ⟨hl, ht⟩

/-- The blocks of a copy: from its own on, and there. -/
theorem Nd.Laid.hasG {ts : List Tk} {g : Nat} {G : Nat → Nat} {cur : Array Value} {w : World} (h : Nd.Laid ts g ts.length G cur w) (hh : w.heap[g]? = some (.cells cur 34 (0, 0))) : ∀ b, (Nd.shL g G ts).Has b → g ≤ b ∧ b < w.heap.size := by
  rintro b (rfl | ⟨j, hj, _, rfl⟩)
  · exact ⟨Nat.le_refl _, lt_of_heap hh⟩
  · obtain ⟨h1, cu, h2, _⟩ := h.row j hj hj
    have h3 := lt_of_heap h2
    exact ⟨Nat.le_of_lt h1, h3⟩

theorem sumG {L : List Tk} (h : ∀ t ∈ L, t.attrs.length ≤ 6) : Nd.sumA L ≤ 6 * L.length := by
  unfold Nd.sumA
  induction L with
  | nil => simp
  | cons t L ih =>
    have := ih (fun x hx => h x (List.mem_cons_of_mem _ hx))
    have h2 := h t (List.mem_cons_self ..)
    simp only [List.map_cons, List.sum_cons, List.length_cons]
    omega

theorem treeG {ts : List Tk} (h : treeB ts = true) : TreeP ts := by unfold treeB at h; simpa using h

/-- A tree, or nothing. -/
def AnsT (R : List Tk) : Prop := R = [] ∨ TreeP R

theorem AnsT.len {R : List Tk} (h : AnsT R) : R.length ≤ 50 := by
  rcases h with h | h
  · rw [h]; exact Nat.zero_le _
  · exact h.2.1

theorem AnsT.six {R : List Tk} (h : AnsT R) : ∀ t ∈ R, t.attrs.length ≤ 6 := by
  rcases h with h | h
  · rw [h]; exact fun t ht => absurd ht List.not_mem_nil
  · intro t ht
    obtain ⟨k, hk, rfl⟩ := List.getElem_of_mem ht
    obtain ⟨⟨_, hb⟩, _⟩ := h.2.2.2.2 k hk
    by_cases e : R[k].name.size = 0
    · rw [nodeB_tx e] at hb
      simp only [Bool.and_eq_true, decide_eq_true_eq] at hb
      omega
    · rw [nodeB_el e] at hb
      simp only [Bool.and_eq_true] at hb
      have h2 := hb.2.1
      unfold attrsB at h2
      have h3 : AttrsOk R[k].attrs := by simpa using h2
      exact h3.1

theorem ans_branch (ts : List Tk) (x : Int) : AnsT (branchI ts x) := by
  unfold branchI
  split
  · rename_i h
    obtain ⟨hT, k, rfl, hk⟩ := elemB_t h
    refine .inr (branch_tree hT hk ⟨hk, ?_⟩)
    unfold elemB at h
    rw [Bool.and_eq_true] at h
    have h2 := h.2
    rw [show (k : Int).toNat = k from rfl, nameI_at hk] at h2
    simpa using h2
  · exact .inl rfl

theorem sz_branch {ts : List Tk} {x : Int} (hz : TksSz 1048576 ts) : TksSz 1048576 (branchI ts x) := by
  unfold branchI
  split
  · exact segN_sz hz _
  · exact fun t ht => absurd ht List.not_mem_nil

theorem ans_prune (ts : List Tk) (x : Int) : AnsT (pruneT ts x) := by
  unfold pruneT
  split
  · rename_i h
    split
    · rename_i h2
      unfold pruneB at h2
      simp only [Bool.and_eq_true] at h2
      exact .inr (treeG h2.2.2)
    · exact .inr (treeG h)
  · exact .inl rfl

theorem sz_prune {ts : List Tk} {x : Int} (hz : TksSz 1048576 ts) : TksSz 1048576 (pruneT ts x) := by
  unfold pruneT
  split
  · rename_i h
    split
    · exact cutL_sz (treeG h) hz
    · exact hz
  · exact fun t ht => absurd ht List.not_mem_nil

theorem ans_graft (ts br : List Tk) (x : Int) : AnsT (graftL ts br x) := by
  unfold graftL
  split
  · rename_i h
    split
    · rename_i h2
      unfold graftB at h2
      simp only [Bool.and_eq_true] at h2
      exact .inr (treeG h2.2.2)
    · exact .inr (treeG h)
  · exact .inl rfl

theorem sz_graft {ts br : List Tk} {x : Int} (hz : TksSz 1048576 ts) (hz2 : TksSz 1048576 br) : TksSz 1048576 (graftL ts br x) := by
  unfold graftL
  split
  · split
    · exact put_sz hz hz2
    · exact hz
  · exact fun t ht => absurd ht List.not_mem_nil

theorem ans_wrap (ts : List Tk) (x : Int) (name : ByteArray) : AnsT (wrapT ts x name) := by
  unfold wrapT
  split
  · rename_i h
    split
    · rename_i h2
      unfold wrapB at h2
      simp only [Bool.and_eq_true] at h2
      exact .inr (treeG h2.2.2.2)
    · exact .inr (treeG h)
  · exact .inl rfl

theorem sz_wrap {ts : List Tk} {x : Int} {name : ByteArray} (hz : TksSz 1048576 ts) (hn : name.size ≤ 1048576) : TksSz 1048576 (wrapT ts x name) := by
  unfold wrapT
  split
  · split
    · rename_i h2
      unfold wrapB at h2
      simp only [Bool.and_eq_true] at h2
      obtain ⟨_, k, rfl, hk⟩ := elemB_t h2.2.1
      exact wrapL_sz hk hz hn
    · exact hz
  · exact fun t ht => absurd ht List.not_mem_nil

end Go.Proofs.Ytikplfghepojiaa

namespace Go.Proofs.Ytikplfghepojiaa
open Go.RowKit
set_option linter.unusedVariables false
set_option linter.unusedSimpArgs false

theorem code_of {w : World} {a : Option Addr} {len cap : Nat} {zs : List Int}
    (h : (a = none ∧ len = 0 ∧ cap = 0 ∧ zs = []) ∨ ∃ x, a = some x ∧ len ≤ cap ∧ cap ≤ maxLen ∧ zs.length = cap ∧ (∀ i, i < zs.length → w.cell? (x.add i) = some (.int .u8 (zs.getD i 0))) ∧ ∀ n ∈ zs, (Lit.int .u8 n).wf = true) : CodeRow w a len := by
  rcases h with ⟨_, h, _⟩ | ⟨x, rfl, hl, _, hz, hc, _⟩
  · exact .inl h
  · by_cases h0 : len = 0
    · exact .inl h0
    · obtain ⟨cb, co, rfl, hcells⟩ := ints_at hc (by omega)
      refine .inr ⟨cb, co, fun j => zs.getD j 0, rfl, ?_, fun j hj => hcells j (by omega)⟩
      have h1 := hcells 0 (by omega)
      rcases Nat.lt_or_ge cb w.heap.size with h' | h'
      · exact h'
      · simp [World.cell?, Array.getElem?_eq_none h'] at h1

theorem code_below {w w2 : World} {a : Option Addr} {len : Nat} (h : CodeRow w a len) (hb : Below w.heap.size w w2) : CodeRow w2 a len := by
  rcases h with h | ⟨cb, co, z, h1, h2, h3⟩
  · exact .inl h
  · exact .inr ⟨cb, co, z, h1, Nat.lt_of_lt_of_le h2 hb.size, fun j hj => (hb.cell (p := ⟨cb, co + j, none⟩) h2).trans (h3 j hj)⟩

theorem bt {w a b : World} (h : Below w.heap.size w a) (k : Below a.heap.size a b) : Below w.heap.size w b := h.trans (k.mono h.size)

theorem cBig_no (a : Option Addr) (len cap : Nat) (w : World) (h : len ≤ 4096) : Calls Try.prog 9 #[.slice a len cap] w fun e w' => e = .returned (.bool false) ∧ w' = w := by
  have h1 : decide ((4096 : Int) < (len : Int)) = false := by simp; omega
  go_enter Try.func9, Try.ntmps9
  go_wp2
  go_ret
  exact ⟨rfl, rfl⟩

theorem cBig_yes (a : Option Addr) (len cap : Nat) (w : World) (h : ¬ len ≤ 4096) : Calls Try.prog 9 #[.slice a len cap] w fun e w' => e = .returned (.bool true) ∧ w' = w := by
  have h1 : decide ((4096 : Int) < (len : Int)) = true := by simp; omega
  go_enter Try.func9, Try.ntmps9
  go_wp2
  go_ret
  exact ⟨rfl, rfl⟩

theorem four_wrap (x y z u : Int) (hx : 0 ≤ x ∧ x ≤ 255) (hy : 0 ≤ y ∧ y ≤ 255) (hz : 0 ≤ z ∧ z ≤ 255) (hu : 0 ≤ u ∧ u ≤ 255) :
    IntKind.i64.wrap (x * 16777216) = x * 16777216 ∧ IntKind.i64.wrap (y * 65536) = y * 65536 ∧ IntKind.i64.wrap (x * 16777216 + y * 65536) = x * 16777216 + y * 65536 ∧ IntKind.i64.wrap (z * 256) = z * 256
    ∧ IntKind.i64.wrap (x * 16777216 + y * 65536 + z * 256) = x * 16777216 + y * 65536 + z * 256 ∧ IntKind.i64.wrap (x * 16777216 + y * 65536 + z * 256 + u) = x * 16777216 + y * 65536 + z * 256 + u := by
  refine ⟨?_, ?_, ?_, ?_, ?_, ?_⟩ <;> exact IntWalk.i64_in _ (by omega)

theorem mod_nat (s : Int) (n : Nat) (h0 : 0 ≤ s) (hn : 1 ≤ n) : s.tmod (n : Int) = ((s.toNat % n : Nat) : Int) ∧ s % (n : Int) = ((s.toNat % n : Nat) : Int) := by
  obtain ⟨k, rfl⟩ : ∃ k : Nat, s = k := ⟨s.toNat, by omega⟩
  refine ⟨?_, ?_⟩
  · rw [Int.tmod_eq_emod_of_nonneg h0]; simp
  · simp

set_option maxHeartbeats 2000000 in
/-- A number below n, which is greater than 256. -/
theorem cBelowBig (n : Nat) (w0 : World) (a : Option Addr) (len cap b : Nat) (w : World) (hlen : len ≤ 4096) (hcr : CodeRow w0 a len) (hC : Cur w0 a len cap b w) (hn0 : 257 ≤ n) (hn1 : n ≤ 4294967296) :
    Calls Try.prog 82 #[.pointer (some ⟨b, 0, none⟩), .int .i64 n] w fun e w' => ∃ x : Nat, e = .returned (.int .i64 x) ∧ x < n ∧ Cur w0 a len cap b w' ∧ w.grownBy w' (some b) := by
  have HR : Hid (CodeRow w0 a len) := hcr
  have HC : Hid (Cur w0 a len cap b w) := hC
  clear hC hcr
  have hz : ¬ (n : Int) = 0 := by omega
  have d1 : decide ((n : Int) ≤ 0) = false := by simp; omega
  have d2 : decide ((n : Int) ≤ 256) = false := by simp; omega
  go_enter Try.func82, Try.ntmps82
  go_wp2_with fail
  refine (cByte w0 a len cap b _ hlen HR.out HC.out).mono ?_
  rintro e w1 ⟨x, rfl, hx0, hx1, hC1, hg1⟩
  have HC1 : Hid (Cur w0 a len cap b w1) := hC1
  have HG : Hid (w.grownBy w1 (some b)) := hg1
  clear hC1 hg1
  go_wp2_with fail
  refine (cByte w0 a len cap b _ hlen HR.out HC1.out).mono ?_
  rintro e w2 ⟨y, rfl, hy0, hy1, hC2, hg2⟩
  have HC2 : Hid (Cur w0 a len cap b w2) := hC2
  have HG2 : Hid (w.grownBy w2 (some b)) := gtrans HG.out hg2
  clear hC2 hg2
  go_wp2_with fail
  refine (cByte w0 a len cap b _ hlen HR.out HC2.out).mono ?_
  rintro e w3 ⟨z, rfl, hz0, hz1, hC3, hg3⟩
  have HC3 : Hid (Cur w0 a len cap b w3) := hC3
  have HG3 : Hid (w.grownBy w3 (some b)) := gtrans HG2.out hg3
  clear hC3 hg3
  go_wp2_with fail
  refine (cByte w0 a len cap b _ hlen HR.out HC3.out).mono ?_
  rintro e w4 ⟨u, rfl, hu0, hu1, hC4, hg4⟩
  have HC4 : Hid (Cur w0 a len cap b w4) := hC4
  have HG4 : Hid (w.grownBy w4 (some b)) := gtrans HG3.out hg4
  clear hC4 hg4
  obtain ⟨k1, k2, k3, k4, k5, k6⟩ := four_wrap x y z u ⟨hx0, hx1⟩ ⟨hy0, hy1⟩ ⟨hz0, hz1⟩ ⟨hu0, hu1⟩
  obtain ⟨s, hs⟩ : ∃ s : Int, x * 16777216 + y * 65536 + z * 256 + u = s := ⟨_, rfl⟩
  have hs0 : 0 ≤ s := by omega
  rw [hs] at k6
  obtain ⟨m1, m2⟩ := mod_nat s n hs0 (by omega)
  have hlt : s.toNat % n < n := Nat.mod_lt _ (by omega)
  obtain ⟨r, hr⟩ : ∃ r : Nat, s.toNat % n = r := ⟨_, rfl⟩
  rw [hr] at m1 m2 hlt
  clear hx0 hx1 hy0 hy1 hz0 hz1 hu0 hu1 hr
  go_wp2_with fail
  go_ret
  refine ⟨r, ?_, hlt, HC4.out, HG4.out⟩
  first | rfl | (rw [← m2]; rfl) | (rw [← m1]; rfl) | simp [m1, m2]

end Go.Proofs.Ytikplfghepojiaa

namespace Go.Proofs.Ytikplfghepojiaa
open Go.RowKit
set_option linter.unusedVariables false
set_option linter.unusedSimpArgs false

theorem RowOf.cap {w wr : World} {v : Value} {L : List Tk} (h : RowOf w wr v L) : ∃ a c, v = .slice a L.length c ∧ TkRow wr a L ∧ L.length ≤ c ∧ c ≤ maxLen := by
  obtain ⟨es, a, c, rfl, hr, hm, hl⟩ := h.open
  obtain ⟨a2, c2, e, ht⟩ := hr.tkRow
  cases e
  rw [hm] at ht
  refine ⟨a, c, by rw [hl], ht, ?_⟩
  rcases hr.own.2 with ⟨e, h0⟩ | ⟨g, cap, cur, e, _, _, hn, hc, _⟩
  · injection e with e1 e2 e3
    rw [← hl, e2, e3]
    exact ⟨Nat.le_refl _, Nat.zero_le _⟩
  · injection e with e1 e2 e3
    rw [← hl, e3]
    exact ⟨hn, hc⟩

theorem sz_big {ts : List Tk} (h : TksSz 40 ts) : TksSz 1048576 ts := fun t ht => by
  obtain ⟨g1, g2, g3, g4⟩ := h t ht
  exact ⟨by omega, by omega, fun x hx => by have := g3 x hx; omega, by omega⟩

theorem sl_upto (b o L cap k : Nat) (h : k ≤ cap) (W : World) : (Instr.slice 24 (.slice (some ⟨b, o, none⟩) L cap) none (some (.int .i64 k)) none).run Try.prog W = .ok (.slice (some ⟨b, o, none⟩) k cap) W := by
  have h' : (k : Int) ≤ cap := by omega
  go_simp

set_option maxRecDepth 8000 in
set_option maxHeartbeats 16000000 in
theorem law_branches (a : Option Addr) (len cap : Nat) (w : World) (hcr : CodeRow w a len) :
    Calls Try.prog 3 #[.slice a len cap] w fun e w' => e = .returned (.bool true) ∧ Below w.heap.size w w' := by
  by_cases hl : len ≤ 4096
  case neg =>
    have CB := hid (fun wx => cBig_yes a len cap wx hl)
    clear hcr
    go_enter Try.func3, Try.ntmps3
    go_wp2_with fail
    refine (CB.out _).mono ?_
    rintro e w1 ⟨rfl, rfl⟩
    go_wp2_with fail
    go_ret
    exact ⟨rfl, Below.refl _ _⟩
  have CB := hid (fun wx => cBig_no a len cap wx hl)
  have HCR := hid hcr
  clear hcr
  go_enter Try.func3, Try.ntmps3
  go_wp2_with fail
  refine (CB.out _).mono ?_
  rintro e w1 ⟨rfl, rfl⟩
  clear CB
  go_wp2_with fail
  refine (cDrawPrunedG a len cap _ hl HCR.out).mono ?_
  rintro e w2 ⟨a2, c2, ts, x, rfl, hr2, hn2, hz2, ⟨hx1, hx2⟩, ⟨hc2, hc2m⟩, hb2⟩
  have HZ := hid (sz_big hz2)
  have HR2 := hid hr2
  have HB2 := hid hb2
  have HCP := hid (And.intro hc2 hc2m)
  have CPI := hid (fun wx (h : TkRow wx a2 ts) => cPrunedI a2 c2 ts x wx h HCP.out.1 (by omega) HZ.out)
  have CPS := hid (fun wx (h : TkRow wx a2 ts) => cPrunedS a2 c2 ts x wx h HCP.out.1 HCP.out.2 (by omega) HZ.out)
  have CTS := hid (fun wx (h : TkRow wx a2 ts) => cTreeOkS a2 c2 ts wx h (by omega) HZ.out)
  have CES := hid (fun wx (h : TkRow wx a2 ts) => cEndOfS a2 c2 ts x wx h (by omega) HZ.out)
  have HPZ := hid (sz_prune (x := x) HZ.out)
  have hpl := (ans_prune ts x).len
  obtain ⟨PT, hPT⟩ : ∃ PT, pruneT ts x = PT := ⟨_, rfl⟩
  obtain ⟨PB, hPB⟩ : ∃ PB, pruneB ts x = PB := ⟨_, rfl⟩
  have HPT := hid (And.intro hPT hPB)
  rw [hPT, hPB] at CPI CPS
  rw [hPT] at HPZ hpl
  have CLP := hid (fun (p q : Option Addr) (cp cq : Nat) wx (h : TkRow wx p PT) (h2 : TkRow wx q PT) => cLikeTree p q cp cq PT wx h h2 HPZ.out (by omega))
  obtain ⟨n, hnn⟩ : ∃ n, ts.length = n := ⟨_, rfl⟩
  have HN := hid hnn
  rw [hnn] at CPI CPS CTS CES hn2 hc2 ⊢
  obtain ⟨pn, hpn⟩ : ∃ pn, PT.length = pn := ⟨_, rfl⟩
  have HPN := hid hpn
  rw [hpn] at CLP hpl
  clear hr2 hz2 hb2 hPT hPB hnn hpn
  go_wp2_with fail
  refine (CPI.out _ HR2.out).mono ?_
  rintro e w3 ⟨v3, rfl, hq3⟩
  obtain ⟨a3, c3, hv3, ht3, hc3, hc3m⟩ := hq3.cap
  have hb3 := hq3.bel
  subst hv3
  rw [HPN.out] at hc3 ⊢
  have HT3 := hid ht3
  have HR3 := hid (HR2.out.below hb3)
  have HB3 := hid (bb HB2.out hb3)
  have HCR3 := hid (code_below HCR.out HB3.out)
  clear hq3 ht3 hb3 HR2 HB2 CPI HCR
  go_wp2_with fail
  refine (cDrawBranchG a len cap _ hl HCR3.out).mono ?_
  rintro e w4 ⟨a4, c4, us, y, rfl, hr4, hn4, hz4, ⟨hy1, hy2⟩, ⟨hc4, hc4m⟩, hb4⟩
  have HZ4 := hid (sz_big hz4)
  have HU4 := hid hr4
  have HT4 := hid (HT3.out.below hb4)
  have HR4 := hid (HR3.out.below hb4)
  have HB4 := hid (bb HB3.out hb4)
  have CBI := hid (fun wx (h : TkRow wx a4 us) => cBranchI a4 c4 us y wx h hc4 (by omega) HZ4.out)
  clear hc4 hc4m
  have CBS := hid (fun wx (h : TkRow wx a4 us) => cBranchS a4 c4 us y wx h (by omega) HZ4.out)
  have CUE := hid (fun wx (h : TkRow wx a4 us) => cEndOfS a4 c4 us y wx h (by omega) HZ4.out)
  have CUT := hid (fun wx (h : TkRow wx a4 us) => cTextInS a4 c4 us y wx h (by omega) HZ4.out)
  have HBZ := hid (sz_branch (x := y) HZ4.out)
  have hbl := (ans_branch us y).len
  obtain ⟨BT, hBT⟩ : ∃ BT, branchI us y = BT := ⟨_, rfl⟩
  obtain ⟨EB, hEB⟩ : ∃ EB, elemB us y = EB := ⟨_, rfl⟩
  have HBT := hid (And.intro hBT hEB)
  rw [hBT, hEB] at CBI CBS
  rw [hBT] at HBZ hbl
  have CLB := hid (fun (p q : Option Addr) (cp cq : Nat) wx (h : TkRow wx p BT) (h2 : TkRow wx q BT) => cLikeTree p q cp cq BT wx h h2 HBZ.out (by omega))
  have CBT := hid (fun (p : Option Addr) (cp : Nat) wx (h : TkRow wx p BT) => cTreeOkS p cp BT wx h (by omega) HBZ.out)
  have CBX := hid (fun (p : Option Addr) (cp : Nat) wx (h : TkRow wx p BT) => cTextInS p cp BT 0 wx h (by omega) HBZ.out)
  obtain ⟨m, hmm⟩ : ∃ m, us.length = m := ⟨_, rfl⟩
  have HM := hid hmm
  rw [hmm] at CBI CBS CUE CUT hn4 ⊢
  obtain ⟨bn, hbn⟩ : ∃ bn, BT.length = bn := ⟨_, rfl⟩
  have HBN := hid hbn
  rw [hbn] at CLB CBT CBX hbl
  clear hr4 hz4 hb4 hBT hEB hmm hbn HT3 HR3 HB3 HCR3
  go_wp2_with fail
  refine (CBI.out _ HU4.out).mono ?_
  rintro e w5 ⟨v5, rfl, hq5⟩
  obtain ⟨a5, c5, hv5, ht5⟩ := hq5.tk
  have hb5 := hq5.bel
  subst hv5
  rw [HBN.out]
  have HBR5 := hid ht5
  have HU5 := hid (HU4.out.below hb5)
  have HT5 := hid (HT4.out.below hb5)
  have HR5 := hid (HR4.out.below hb5)
  have HB5 := hid (bb HB4.out hb5)
  clear hq5 ht5 hb5 HU4 HT4 HR4 HB4 CBI
  go_wp2_with fail
  refine (CPS.out _ HR5.out).mono ?_
  rintro e w6 ⟨v6, rfl, hq6⟩
  obtain ⟨a6, c6, hv6, ht6⟩ := hq6.tk
  have hb6 := hq6.bel
  subst hv6
  rw [HPN.out]
  have HBR6 := hid (HBR5.out.below hb6)
  have HU6 := hid (HU5.out.below hb6)
  have HT6 := hid (HT5.out.below hb6)
  have HR6 := hid (HR5.out.below hb6)
  have HB6 := hid (bb HB5.out hb6)
  have HY6 := hid ht6
  clear hq6 ht6 hb6 HBR5 HU5 HT5 HR5 HB5 CPS
  have hPP : (PB != PB) = false := by cases PB <;> rfl
  have hEE : (EB != EB) = false := by cases EB <;> rfl
  go_wp2_with fail
  refine (CLP.out _ _ _ _ _ HT6.out HY6.out).mono ?_
  rintro e w7 ⟨rfl, hb7⟩
  have HBR7 := hid (HBR6.out.below hb7)
  have HU7 := hid (HU6.out.below hb7)
  have HT7 := hid (HT6.out.below hb7)
  have HR7 := hid (HR6.out.below hb7)
  have HB7 := hid (bb HB6.out hb7)
  clear hb7 HBR6 HU6 HT6 HR6 HB6 HY6
  go_wp2_with fail
  refine (CBS.out _ HU7.out).mono ?_
  rintro e w8 ⟨v8, rfl, hq8⟩
  obtain ⟨a8, c8, hv8, ht8⟩ := hq8.tk
  have hb8 := hq8.bel
  subst hv8
  rw [HBN.out]
  have HBR8 := hid (HBR7.out.below hb8)
  have HU8 := hid (HU7.out.below hb8)
  have HT8 := hid (HT7.out.below hb8)
  have HR8 := hid (HR7.out.below hb8)
  have HB8 := hid (bb HB7.out hb8)
  have HY8 := hid ht8
  clear hq8 ht8 hb8 HBR7 HU7 HT7 HR7 HB7 CBS
  go_wp2_with fail
  refine (CLB.out _ _ _ _ _ HBR8.out HY8.out).mono ?_
  rintro e w9 ⟨rfl, hb9⟩
  have HBR9 := hid (HBR8.out.below hb9)
  have HU9 := hid (HU8.out.below hb9)
  have HT9 := hid (HT8.out.below hb9)
  have HR9 := hid (HR8.out.below hb9)
  have HB9 := hid (bb HB8.out hb9)
  clear hb9 HBR8 HU8 HT8 HR8 HB8 HY8 CLB
  go_upto_region 13 with fail
  go_cut [106] from 71 to 105 (fun v wv => v = .bool false ∧ Hid (Below w9.heap.size w9 wv))
  case first =>
    have HNB := hid (bw_any w9)
    cases EB with
    | false =>
      go_quiet (fail)
      go_wp2_with fail
      go_meet
      exact ⟨rfl, below_drewN (Below.refl _ _) _⟩
    | true =>
      obtain ⟨hUT, k, rfl, hk⟩ := elemB_t HBT.out.2
      have hel : elN us k := by
        refine ⟨hk, ?_⟩
        have h := HBT.out.2
        unfold elemB at h
        rw [Bool.and_eq_true] at h
        have h2 := h.2
        rw [show (k : Int).toNat = k from rfl, nameI_at hk] at h2
        simpa using h2
      have eB : BT = branchL us k := by
        rw [← HBT.out.1]
        unfold branchI
        rw [HBT.out.2]
        rfl
      have hTB : treeB BT = true := by rw [eB]; exact treeB_t (branch_tree hUT hk hel)
      have hle := endN_le hk
      have hbk : bn = endN us k - k := by rw [← HBN.out, eB]; exact branchL_len hk
      have hEI : endI us (k : Int) = (endN us k : Int) := by
        unfold endI
        rw [hasB_of hUT hk]
        rfl
      have hTX : textI BT 0 = textI us (k : Int) := by rw [eB]; exact branch_text hUT hk hel
      have hkm : (k : Int) < (m : Int) := by rw [← HM.out]; omega
      have hb0 : 0 < BT.length := by rw [eB, branchL_len hk]; omega
      obtain ⟨b5, o5, aa5, ca5, e5, hb5, -, p1, -⟩ := HBR9.out 0 hb0
      subst e5
      obtain ⟨b4, o4, aa4, ca4, e4, hb4, -, r1, -⟩ := HU9.out k hk
      subst e4
      have hnm : (BT[0]'hb0).name = us[k].name := by
        obtain ⟨g1, g2, g3⟩ := branch_get hk (j := 0) (by omega)
        have : BT[0]'hb0 = (branchL us k)[0] := by simp only [eB]
        rw [this, g3]
        rfl
      rw [hnm] at p1
      obtain ⟨NM, hNM⟩ : ∃ NM, us[k].name = NM := ⟨_, rfl⟩
      rw [hNM] at p1 r1
      have D1 : ∀ p : BW w9, p.w.cell? ⟨b5, o5 + 1, none⟩ = some (.string NM) := fun p => (p.h.cell (p := ⟨b5, o5 + 1, none⟩) hb5).trans (by simpa using p1)
      have D2 : ∀ p : BW w9, p.w.cell? ⟨b4, o4 + k * 4 + 1, none⟩ = some (.string NM) := fun p => (p.h.cell (p := ⟨b4, o4 + k * 4 + 1, none⟩) hb4).trans r1
      have Q1 := fun p : BW w9 => CBT.out (some ⟨b5, o5, none⟩) c5 p.w (HBR9.out.below p.h)
      have Q2 := fun p : BW w9 => CUE.out p.w (HU9.out.below p.h)
      have Q3 := fun p : BW w9 => CBX.out (some ⟨b5, o5, none⟩) c5 p.w (HBR9.out.below p.h)
      have Q4 := fun p : BW w9 => CUT.out p.w (HU9.out.below p.h)
      obtain ⟨X, hX⟩ : ∃ X, textI us (k : Int) = X := ⟨_, rfl⟩
      obtain ⟨EN, hEN⟩ : ∃ EN, endN us k = EN := ⟨_, rfl⟩
      rw [hTB] at Q1
      rw [hEI, hEN] at Q2
      rw [hTX, hX] at Q3
      rw [hX] at Q4
      rw [hEN] at hbk hle
      have q84 : ((bn : Int) != (EN : Int) - (k : Int)) = false := by simp; omega
      have qNM : (NM.toList != NM.toList) = false := by simp
      have qXX : (X.toList != X.toList) = false := by simp
      have hEN50 : (EN : Int) ≤ 1000 := by have := hUT.2.1; omega
      have hk0 : (k : Int) ≤ 1000 := by have := hUT.2.1; omega
      have hbn0 : (0 : Int) < (bn : Int) := by omega
      clear hUT hk hel eB hTB hbk hEI hTX hb0 hb5 p1 hb4 r1 hnm hNM hX hEN hle CBT CUE CBX CUT hy1 hy2
      haveI := HNB.out
      refine wp_region_below (by kernel_rfl) (by kernel_rfl) (Below.refl w9.heap.size w9) ?_
      repeat (go_big_quiet_step ((first | (go_at_call 17; exact calls_bw _ (Q1 _)) | (go_at_call 18; exact calls_bw _ (Q2 _)))))
      go_big_quiet_step ((go_at_call 19; exact calls_bw _ (Q3 _)))
      repeat (go_big_quiet_step (fail))
      go_big_quiet_step ((go_at_call 19; exact calls_bw _ (Q4 _)))
      repeat (go_big_quiet_step (fail))
      refine wpQuiet_nil ?_
      intro _ hw'
      obtain ⟨⟨wq, hwq⟩, hw''⟩ := hw'
      subst hw''
      have HWQ := hid hwq
      clear this hwq Q1 Q2 Q3 Q4 D1 D2
      go_wp2_with fail
      go_meet
      exact ⟨rfl, HWQ.out⟩
  obtain ⟨rfl, HBC⟩ := hcut
  have HT10 := hid (HT9.out.below HBC.out)
  have HR10 := hid (HR9.out.below HBC.out)
  have HB10 := hid (bb HB9.out HBC.out)
  clear HBC HT9 HR9 HB9 HBR9 HU9 CUE CUT CBT CBX HBT HBZ
  obtain ⟨TB, hTB⟩ : ∃ TB, treeB ts = TB := ⟨_, rfl⟩
  have HTB := hid hTB
  rw [hTB] at CTS
  clear hTB
  go_wp2_with fail
  refine (CTS.out _ HR10.out).mono ?_
  rintro e w11 ⟨rfl, hb11⟩
  have HT11 := hid (HT10.out.below hb11)
  have HR11 := hid (HR10.out.below hb11)
  have HB11 := hid (bb HB10.out hb11)
  clear hb11 HT10 HR10 HB10 CTS
  cases TB with
  | false =>
    have HF := hid (show PB = false ∧ pn = 0 by
      refine ⟨?_, ?_⟩
      · rw [← HPT.out.2]
        unfold pruneB
        rw [HTB.out, Bool.false_and, Bool.and_false]
      · rw [← HPN.out, ← HPT.out.1]
        unfold pruneT
        rw [HTB.out]
        rfl)
    obtain ⟨e1, e2⟩ := HF.out
    subst e1 e2
    go_wp2_with fail
    go_ret
    exact ⟨rfl, HB11.out⟩
  | true =>
    cases PB with
    | false =>
      have HEQ := hid (show PT = ts by
        rw [← HPT.out.1]
        unfold pruneT
        rw [HTB.out, HPT.out.2]
        rfl)
      have HPN2 := hid (show pn = n by rw [← HPN.out, HEQ.out]; exact HN.out)
      have HRQ := hid (show TkRow w11 a2 PT by rw [HEQ.out]; exact HR11.out)
      have epn := HPN2.out
      subst epn
      go_wp2_with fail
      refine (CLP.out _ _ _ _ _ HT11.out HRQ.out).mono ?_
      rintro e w12 ⟨rfl, hb12⟩
      have HB12 := hid (bb HB11.out hb12)
      clear hb12
      go_wp2_with fail
      go_ret
      exact ⟨rfl, HB12.out⟩
    | true =>
      have hpb := HPT.out.2
      unfold pruneB at hpb
      simp only [Bool.and_eq_true, decide_eq_true_eq] at hpb
      obtain ⟨⟨h1x, hxn⟩, _, hct⟩ := hpb
      obtain ⟨q, rfl⟩ : ∃ q : Nat, x = ((q + 1 : Nat) : Int) := ⟨x.toNat - 1, by omega⟩
      have hqn : q + 1 < ts.length := by omega
      have hTP := treeG HTB.out
      have eP : PT = cutL ts (q + 1) (endN ts (q + 1)) := by
        rw [← HPT.out.1]
        unfold pruneT
        rw [HTB.out, HPT.out.2]
        rfl
      have hle := endN_le hqn
      have hPTr : treeB PT = true := by rw [eP]; exact hct
      have htk := cut_take (ts := ts) (a := q + 1) (e := endN ts (q + 1)) (by omega) hle.2 (by omega)
      have hsz := cut_size (ts := ts) (a := q + 1) (e := endN ts (q + 1)) (by omega) hle.2 (by omega)
      rw [← eP, show q + 1 - 1 = q from rfl] at htk
      rw [← eP, HPN.out, HN.out] at hsz
      have hEI : endI ts ((q + 1 : Nat) : Int) = (endN ts (q + 1) : Int) := by
        unfold endI
        rw [hasB_of hTP hqn]
        rfl
      obtain ⟨EN, hEN⟩ : ∃ EN, endN ts (q + 1) = EN := ⟨_, rfl⟩
      rw [hEN] at hsz hEI hle
      rw [hEI] at CES
      have hEn : EN ≤ n := by rw [← HN.out]; exact hle.2
      have hqE : q + 1 < EN := hle.1
      have hqp : q ≤ pn := by omega
      have hqn2 : q ≤ n := by omega
      have hpp := (treeG hPTr).1
      obtain ⟨b3, o3, aa3, ca3, e3, -⟩ := HT11.out 0 (by omega)
      subst e3
      obtain ⟨b2, o2, aa2, ca2, e2, -⟩ := HR11.out 0 (by omega)
      subst e2
      have S1 := sl_upto b3 o3 pn c3 q (by omega)
      have S2 := sl_upto b2 o2 n c2 q (by omega)
      have hql : (ts.take q).length = q := by rw [List.length_take, HN.out]; omega
      have CTP := hid (fun (p : Option Addr) (cp : Nat) wx (h : TkRow wx p PT) => cTreeOkS p cp PT wx h (by rw [HPN.out]; omega) HPZ.out)
      rw [HPN.out, hPTr] at CTP
      have CLT := hid (fun wx (h : TkRow wx (some ⟨b3, o3, none⟩) PT) (h2 : TkRow wx (some ⟨b2, o2, none⟩) ts) => cLikeTree (some ⟨b3, o3, none⟩) (some ⟨b2, o2, none⟩) c3 c2 (ts.take q) wx (by rw [← htk]; exact tk_take h q) (tk_take h2 q) (sz_take HZ.out q) (by rw [hql]; omega))
      rw [hql] at CLT
      have HSZ := hid hsz
      have hE50 : (EN : Int) ≤ 1000 := by omega
      have hn50 : (n : Int) ≤ 1000 := by omega
      have hpn50 : (pn : Int) ≤ 1000 := by omega
      have hq50 : (q : Int) ≤ 1000 := by omega
      clear hTP eP hPTr htk hsz hEI hEN hle hct h1x hxn hpp hql
      go_wp2_with fail
      refine (CES.out _ HR11.out).mono ?_
      rintro e w12 ⟨rfl, hb12⟩
      have HT12 := hid (HT11.out.below hb12)
      have HR12 := hid (HR11.out.below hb12)
      have HB12 := hid (bb HB11.out hb12)
      clear hb12 HT11 HR11 HB11 CES
      have Q1 := fun p : BW w12 => CTP.out (some ⟨b3, o3, none⟩) c3 p.w (HT12.out.below p.h)
      have Q2 := fun p : BW w12 => CLT.out p.w (HT12.out.below p.h) (HR12.out.below p.h)
      have HNB := hid (bw_any w12)
      rcases HSZ.out with hs | hs
      · have q1 : ((n : Int) - (pn : Int) == (EN : Int) - ((q : Int) + 1)) = true := by simp; omega
        clear hs HSZ
        go_wp2_with fail
        haveI := HNB.out
        refine wp_region_below (by kernel_rfl) (by kernel_rfl) (Below.refl w12.heap.size w12) ?_
        repeat (go_big_quiet_step ((first | (go_at_call 17; exact calls_bw _ (Q1 _)) | (go_at_call 15; exact calls_bw _ (Q2 _)))))
        refine wpQuiet_nil ?_
        intro _ hw'
        obtain ⟨⟨wq, hwq⟩, hw''⟩ := hw'
        subst hw''
        have HWQ := hid (bb HB12.out hwq)
        clear this hwq Q1 Q2
        go_wp2_with fail
        go_ret
        exact ⟨rfl, HWQ.out⟩
      · have q1 : ((n : Int) - (pn : Int) == (EN : Int) - ((q : Int) + 1)) = false := by simp; omega
        have q2 : ((n : Int) - (pn : Int) == (EN : Int) - ((q : Int) + 1) + 1) = true := by simp; omega
        clear hs HSZ
        go_wp2_with fail
        haveI := HNB.out
        refine wp_region_below (by kernel_rfl) (by kernel_rfl) (Below.refl w12.heap.size w12) ?_
        repeat (go_big_quiet_step ((first | (go_at_call 17; exact calls_bw _ (Q1 _)) | (go_at_call 15; exact calls_bw _ (Q2 _)))))
        refine wpQuiet_nil ?_
        intro _ hw'
        obtain ⟨⟨wq, hwq⟩, hw''⟩ := hw'
        subst hw''
        have HWQ := hid (bb HB12.out hwq)
        clear this hwq Q1 Q2
        go_wp2_with fail
        go_ret
        exact ⟨rfl, HWQ.out⟩

end Go.Proofs.Ytikplfghepojiaa
