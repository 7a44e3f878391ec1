/- Contracts of the draws DrawGrafted, DrawWrapped. What was put in, pruned again; what was wrapped is within (mathematics alone). What was wrapped is within (mathematics alone). -/
import Derived.Test.YtikplfghepojiaaM16
import Derived.Test.YtikplfghepojiaaM25
import Derived.Test.YtikplfghepojiaaM20
namespace Go.Proofs.Ytikplfghepojiaa
open Go.RowKit
set_option linter.unusedVariables false
set_option linter.unusedSimpArgs false

/-- Two trees and a place. -/
def DrawnGG (w : World) (e : Ending) (w' : World) : Prop :=
  ∃ a' c' ts x a2 c2 br, e = .returned (.tuple #[.slice a' (ts : List Tk).length c', .int .i64 x, .slice a2 (br : List Tk).length c2]) ∧ TkRow w' a' ts ∧ TkRow w' a2 br ∧ ts.length ≤ 11 ∧ br.length ≤ 11 ∧ TksSz 40 ts ∧ TksSz 40 br ∧ (-1 ≤ x ∧ x ≤ 12) ∧ (ts.length ≤ c' ∧ c' ≤ maxLen) ∧ Below w.heap.size w w'

/-- A tree, a place and a name. -/
def DrawnGW (w : World) (e : Ending) (w' : World) : Prop :=
  ∃ a' c' ts x nm, e = .returned (.tuple #[.slice a' (ts : List Tk).length c', .int .i64 x, .string nm]) ∧ TkRow w' a' ts ∧ ts.length ≤ 11 ∧ TksSz 40 ts ∧ (-1 ≤ x ∧ x ≤ 12) ∧ nm.size ≤ 1048576 ∧ (ts.length ≤ c' ∧ c' ≤ maxLen) ∧ Below w.heap.size w w'

set_option maxHeartbeats 2000000 in
theorem cDrawGraftedG (a : Option Addr) (len cap : Nat) (w : World) (hlen : len ≤ 4096) (hcr : CodeRow w a len) :
    Calls Try.prog 20 #[.slice a len cap] w (DrawnGG w) := by
  have HR := hid hcr
  clear hcr
  go_enter Try.func20, Try.ntmps20
  go_wp2_with fail
  refine (cNew a len cap _ hlen HR.out).mono ?_
  rintro e w1 ⟨rfl, hC1⟩
  have HC1 := hid hC1
  clear hC1
  go_wp2_with fail
  refine (cDrawAny w a len cap _ _ hlen HR.out HC1.out).mono ?_
  rintro e w2 ⟨a', c', ts, rfl, hrow, hn, hz, hC2, _, hc1, hc2⟩
  have HC2 := hid hC2
  have HT := hid hrow
  have HN := hid hn
  have HZ := hid hz
  have HCP := hid (And.intro hc1 hc2)
  have CA := hid (cDrawAt a' ts.length c' hn w a len cap _ w2 hlen HR.out hC2)
  clear hrow hn hz hC2 hc1 hc2
  obtain ⟨LL, hLL⟩ : ∃ LL, ts.length = LL := ⟨_, rfl⟩
  have HLL := hid hLL
  rw [hLL] at CA HN ⊢
  clear hLL
  go_wp2_with fail
  refine CA.out.mono ?_
  rintro e w3 ⟨x, rfl, hx1, hx2, hC3, hG3⟩
  have HT3 := hid (tk_keep HT.out HC2.out hG3)
  have HC3 := hid hC3
  have HX := hid (And.intro hx1 hx2)
  clear hC3 hG3 CA HT HC2
  go_wp2_with fail
  refine (cDrawAny w a len cap _ _ hlen HR.out HC3.out).mono ?_
  rintro e w4 ⟨a2, c2, br, rfl, hrow, hn, hz, hC4, hG4, _, _⟩
  have HT4 := hid (tk_keep HT3.out HC3.out hG4)
  have HR4 := hid hrow
  have HN4 := hid hn
  have HZ4 := hid hz
  have HB := hid hC4.2.1
  clear hrow hn hz hC4 hG4 HT3 HC3
  obtain ⟨L2, hL2⟩ : ∃ L2, br.length = L2 := ⟨_, rfl⟩
  have HL2 := hid hL2
  rw [hL2] at HN4 ⊢
  clear hL2
  go_wp2_with fail
  go_ret3
  exact ⟨a', c', ts, x, a2, c2, br, by rw [HLL.out, HL2.out]; rfl, HT4.out, HR4.out, by rw [HLL.out]; exact HN.out, by rw [HL2.out]; exact HN4.out, HZ.out, HZ4.out, HX.out, HCP.out, HB.out⟩

set_option maxHeartbeats 2000000 in
theorem cDrawWrappedG (a : Option Addr) (len cap : Nat) (w : World) (hlen : len ≤ 4096) (hcr : CodeRow w a len) :
    Calls Try.prog 22 #[.slice a len cap] w (DrawnGW w) := by
  have HR := hid hcr
  clear hcr
  go_enter Try.func22, Try.ntmps22
  go_wp2_with fail
  refine (cNew a len cap _ hlen HR.out).mono ?_
  rintro e w1 ⟨rfl, hC1⟩
  have HC1 := hid hC1
  clear hC1
  go_wp2_with fail
  refine (cDrawAny w a len cap _ _ hlen HR.out HC1.out).mono ?_
  rintro e w2 ⟨a', c', ts, rfl, hrow, hn, hz, hC2, _, hc1, hc2⟩
  have HC2 := hid hC2
  have HT := hid hrow
  have HN := hid hn
  have HZ := hid hz
  have HCP := hid (And.intro hc1 hc2)
  have CA := hid (cDrawAt a' ts.length c' hn w a len cap _ w2 hlen HR.out hC2)
  clear hrow hn hz hC2 hc1 hc2
  obtain ⟨LL, hLL⟩ : ∃ LL, ts.length = LL := ⟨_, rfl⟩
  have HLL := hid hLL
  rw [hLL] at CA HN ⊢
  clear hLL
  go_wp2_with fail
  refine CA.out.mono ?_
  rintro e w3 ⟨x, rfl, hx1, hx2, hC3, hG3⟩
  have HT3 := hid (tk_keep HT.out HC2.out hG3)
  have HC3 := hid hC3
  have HX := hid (And.intro hx1 hx2)
  clear hC3 hG3 CA HT HC2
  go_wp2_with fail
  refine (cName w a len cap _ _ hlen HR.out HC3.out).mono ?_
  rintro e w4 ⟨tN, rfl, htN, hC4, hG4⟩
  have HT4 := hid (tk_keep HT3.out HC3.out hG4)
  have HC4 := hid hC4
  clear hC4 hG4 HT3 HC3
  go_wp2_with fail
  refine (cOnce 12 w a len cap _ _ hlen HR.out HC4.out (by omega) (by omega)).mono ?_
  rintro e w5 ⟨B5, rfl, hC5, hG5⟩
  have HT5 := hid (tk_keep HT4.out HC4.out hG5)
  have HB := hid hC5.2.1
  clear hC5 hG5 HT4 HC4
  cases B5
  · go_wp2_with fail
    go_ret3
    exact ⟨a', c', ts, x, tN, by rw [HLL.out]; rfl, HT5.out, by rw [HLL.out]; exact HN.out, HZ.out, HX.out, by omega, HCP.out, HB.out⟩
  · go_wp2_with fail
    go_ret3
    exact ⟨a', c', ts, x, ⟨#[]⟩, by rw [HLL.out]; rfl, HT5.out, by rw [HLL.out]; exact HN.out, HZ.out, HX.out, Nat.zero_le _, HCP.out, HB.out⟩

end Go.Proofs.Ytikplfghepojiaa

namespace Go.Proofs.Ytikplfghepojiaa
open Go.RowKit
set_option linter.unusedVariables false

section
variable {ts br : List Tk} {k : Nat}

/-- Pruned again all is as it was. -/
theorem put_cut (hT : TreeP ts) (hk : k < ts.length) (hB : TreeP br) : cutL (putL ts (endN ts k) (k : Int) br) (endN ts k) (endN ts k + br.length) = ts := by
  have hle := endN_le hk
  have hX : (putL ts (endN ts k) (k : Int) br).length = ts.length + br.length := putL_len hle.2
  have hstop : ∀ t, ts[endN ts k]? = some t → t.kind < (k : Int) := by
    intro t ht
    rcases endN_stop hk with h | h
    · rw [List.getElem?_eq_none (by omega)] at ht; cases ht
    · unfold parI at h
      rw [ht] at h
      exact h
  have hs : sideB (putL ts (endN ts k) (k : Int) br) (endN ts k) (endN ts k + br.length) = false := by
    unfold sideB
    have e1 : (putL ts (endN ts k) (k : Int) br)[endN ts k - 1]? = some ts[endN ts k - 1] := put_low hle.2 (by omega) (List.getElem?_eq_getElem (by omega))
    rw [e1]
    by_cases he : endN ts k < ts.length
    · have e2 := put_high (ts := ts) (br := br) (e := endN ts k) (par := (k : Int)) hle.2 (Nat.le_refl _) he (List.getElem?_eq_getElem he)
      rw [e2]
      simp only
      have h1 := hstop _ (List.getElem?_eq_getElem he)
      cases hc : (decide ((shK (outF (endN ts k) br.length ts[endN ts k]) ts[endN ts k]).name.size = 0) && (decide (ts[endN ts k - 1].name.size = 0) && decide (ts[endN ts k - 1].kind = cutF (endN ts k) (endN ts k + br.length) (shK (outF (endN ts k) br.length ts[endN ts k]) ts[endN ts k])))) with
      | false => rfl
      | true =>
        exfalso
        simp only [Bool.and_eq_true, decide_eq_true_eq] at hc
        obtain ⟨c1, c2, c3⟩ := hc
        have c1' : ts[endN ts k].name.size = 0 := c1
        refine (hT.2.2.2.2 (endN ts k) he).2.2.2 ⟨he, by omega, c1', c2, ?_⟩
        rw [c3]
        unfold cutF shK outF
        simp only
        rw [if_neg (by omega), if_neg (by omega)]
    · rw [List.getElem?_eq_none (by omega)]
  rw [cutL_no hs]
  apply List.ext_getElem?
  intro j
  unfold outC
  rw [hX, Nat.min_eq_right (by omega), show ts.length + br.length - (endN ts k + br.length) = ts.length - endN ts k by omega]
  have hta : ((putL ts (endN ts k) (k : Int) br).take (endN ts k)).length = endN ts k := by rw [List.length_take, hX]; omega
  have hsl : (segN (fun _ t => cutF (endN ts k) (endN ts k + br.length) t) (putL ts (endN ts k) (k : Int) br) (endN ts k + br.length) (ts.length - endN ts k)).length = ts.length - endN ts k := segN_len _ (by omega)
  by_cases hj : j < endN ts k
  · rw [List.getElem?_append_left (by omega), List.getElem?_take, if_pos hj]
    have ht := List.getElem?_eq_getElem (show j < ts.length by omega)
    rw [put_low hle.2 hj ht, ht]
  · by_cases hjn : j < ts.length
    · have ht := List.getElem?_eq_getElem hjn
      have hp := put_high (ts := ts) (br := br) (e := endN ts k) (par := (k : Int)) hle.2 (i := j) (by omega) hjn ht
      rw [List.getElem?_append_right (by omega), hta, segN_get _ (by omega) (j - endN ts k) (by omega) (shK (outF (endN ts k) br.length ts[j]) ts[j]) (by rw [show endN ts k + br.length + (j - endN ts k) = j + br.length by omega]; exact hp), ht]
      congr 1
      unfold shK
      simp only
      have : cutF (endN ts k) (endN ts k + br.length) ⟨outF (endN ts k) br.length ts[j], ts[j].name, ts[j].attrs, ts[j].text⟩ = ts[j].kind := by
        unfold cutF outF
        simp only
        by_cases hq : (endN ts k : Int) ≤ ts[j].kind
        · rw [if_pos hq, if_pos (by omega)]
          omega
        · rw [if_neg hq, if_neg (by omega)]
      rw [this]
    · rw [List.getElem?_eq_none (by rw [List.length_append]; omega), List.getElem?_eq_none (by omega)]

end

end Go.Proofs.Ytikplfghepojiaa

namespace Go.Proofs.Ytikplfghepojiaa
open Go.RowKit
set_option linter.unusedVariables false

section
variable {ts : List Tk} {k : Nat} {name : ByteArray}

theorem wrap_eq (hk : k < ts.length) : wrapL ts k name = (putL ts k ts[k].kind [wrapN name]).set (k + 1) (shK (k : Int) ts[k]) := by
  unfold wrapL
  rw [List.getElem?_eq_getElem hk]

theorem wrap_one (hk : k < ts.length) : (wrapL ts k name)[k]? = some (shK ts[k].kind (wrapN name)) := by
  rw [wrap_eq hk, List.getElem?_set, if_neg (by omega)]
  have h := put_mid (ts := ts) (br := [wrapN name]) (e := k) (par := ts[k].kind) (by omega) (i := 0) (by simp) (t := wrapN name) rfl
  exact h

theorem wrap_two (hk : k < ts.length) : (wrapL ts k name)[k + 1]? = some (shK (k : Int) ts[k]) := by
  rw [wrap_eq hk, List.getElem?_set]
  have : (putL ts k ts[k].kind [wrapN name]).length = ts.length + 1 := putL_len (by omega)
  rw [if_pos rfl, if_pos (by omega)]

theorem wrap_more (hk : k < ts.length) {j : Nat} (hj : k < j) (hn : j < ts.length) : (wrapL ts k name)[j + 1]? = some (shK (outF k 1 ts[j]) ts[j]) := by
  rw [wrap_eq hk, List.getElem?_set, if_neg (by omega)]
  exact put_high (ts := ts) (br := [wrapN name]) (e := k) (par := ts[k].kind) (by omega) (by omega) hn (List.getElem?_eq_getElem hn)

theorem wrap_end (hk : k < ts.length) : endN (wrapL ts k name) (k + 1) = endN ts k + 1 := by
  have hle := endN_le hk
  have hl := wrapL_len (name := name) hk
  refine endN_is (by omega) (by omega) (fun j h1 h2 => ?_) ?_
  · obtain ⟨i, rfl⟩ : ∃ i, j = i + 1 := ⟨j - 1, by omega⟩
    have hi : i < ts.length := by omega
    unfold parI
    rw [wrap_more hk (by omega) hi]
    have h3 := endN_in hk (e := i) (by omega) (by omega)
    rw [parI_at hi] at h3
    show ((k + 1 : Nat) : Int) ≤ outF k 1 ts[i]
    unfold outF
    rw [if_pos h3]
    omega
  · rcases endN_stop hk with h | h
    · left; omega
    · by_cases he : endN ts k < ts.length
      · right
        rw [parI_at he] at h
        unfold parI
        rw [wrap_more hk hle.1 he]
        show outF k 1 ts[endN ts k] < _
        unfold outF
        rw [if_neg (by omega)]
        omega
      · left; omega

/-- What was wrapped is within. -/
theorem wrap_branch (hk : k < ts.length) : branchL (wrapL ts k name) (k + 1) = branchL ts k := by
  have hle := endN_le hk
  have hl := wrapL_len (name := name) hk
  have hend := wrap_end (name := name) hk
  have h1 := branchL_len hk
  have h2 := branchL_len (ts := wrapL ts k name) (k := k + 1) (by omega)
  rw [hend] at h2
  apply List.ext_getElem?
  intro j
  by_cases hj : k + j < endN ts k
  · rw [branch_at hk hj (List.getElem?_eq_getElem (show k + j < ts.length by omega))]
    by_cases h0 : j = 0
    · subst h0
      rw [branch_at (ts := wrapL ts k name) (k := k + 1) (by omega) (j := 0) (by rw [hend]; omega) (wrap_two hk)]
      rfl
    · have hm := wrap_more (name := name) hk (j := k + j) (by omega) (by omega)
      rw [branch_at (ts := wrapL ts k name) (k := k + 1) (by omega) (j := j) (by rw [hend]; omega) (by rw [show k + 1 + j = k + j + 1 by omega]; exact hm)]
      have h3 := endN_in hk (e := k + j) (by omega) hj
      rw [parI_at (show k + j < ts.length by omega)] at h3
      congr 1
      unfold shK outF
      simp only
      rw [if_pos h3, if_neg h0, if_neg h0]
      congr 1
      omega
  · rw [List.getElem?_eq_none (by omega), List.getElem?_eq_none (by omega)]

end

end Go.Proofs.Ytikplfghepojiaa
