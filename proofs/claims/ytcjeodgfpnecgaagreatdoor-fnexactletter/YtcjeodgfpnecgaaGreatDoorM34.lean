/- Contracts of the specification's Grafted and Wrapped. Contract of the specification's Pruned. What was put in is there (mathematics alone). -/
import Derived.Test.YtcjeodgfpnecgaaGreatDoorM27
import Derived.Test.YtcjeodgfpnecgaaGreatDoorM5
import Derived.Test.YtcjeodgfpnecgaaGreatDoorM33
import Derived.Test.YtcjeodgfpnecgaaGreatDoorM15
import Derived.Test.YtcjeodgfpnecgaaGreatDoorM30
namespace Go.Proofs.YtcjeodgfpnecgaaGreatDoor
open Go.RowKit
set_option linter.unusedVariables false
set_option linter.unusedSimpArgs false

theorem put_sz {ts br : List Tk} {e : Nat} {par : Int} {b : Nat} (h : TksSz b ts) (h2 : TksSz b br) : TksSz b (putL ts e par br) := by
  intro t ht
  unfold putL at ht
  rcases List.mem_append.1 ht with h' | h'
  · rcases List.mem_append.1 h' with h'' | h''
    · exact segN_sz h _ t h''
    · exact segN_sz h2 _ t h''
  · exact segN_sz h _ t h'

/-- Grafted: the tree, and whether. -/
noncomputable def graftB (ts br : List Tk) (x : Int) : Bool := elemB ts x && (treeB br && treeB (putL ts (endN ts x.toNat) x br))

noncomputable def graftL (ts br : List Tk) (x : Int) : List Tk := if treeB ts then (if graftB ts br x then putL ts (endN ts x.toNat) x br else ts) else []

theorem elemB_tree {ts : List Tk} {x : Int} (h : treeB ts = false) : elemB ts x = false := by
  unfold elemB hasB
  rw [h]
  rfl

end Go.Proofs.YtcjeodgfpnecgaaGreatDoor

namespace Go.Proofs.YtcjeodgfpnecgaaGreatDoor
open Go.RowKit
set_option linter.unusedVariables false
set_option linter.unusedSimpArgs false

theorem outC_sz {ts : List Tk} {a e i b : Nat} (h : TksSz b ts) : TksSz b (outC ts a e i) := by
  intro t ht
  unfold outC at ht
  rcases List.mem_append.1 ht with h' | h'
  · exact h t (List.mem_of_mem_take h')
  · exact segN_sz h _ t h'

theorem text_of {ts : List Tk} (hT : TreeP ts) {k : Nat} {t : Tk} (h : ts[k]? = some t) : t.text.size ≤ 60 := by
  have := tree_text hT k
  unfold textAt at this
  rw [h] at this
  exact this

theorem cutL_sz {ts : List Tk} {a e : Nat} (hT : TreeP ts) (hz : TksSz 1048576 ts) : TksSz 1048576 (cutL ts a e) := by
  cases hs : sideB ts a e with
  | false => rw [cutL_no hs]; exact outC_sz hz
  | true =>
    have hs' := hs
    unfold sideB at hs'
    split at hs'
    · rename_i t u ht hu
      rw [cutL_yes hs ht hu]
      intro x hx
      unfold joinC at hx
      rcases List.mem_append.1 hx with h' | h'
      · rcases List.mem_or_eq_of_mem_set h' with h'' | h''
        · exact hz x (List.mem_of_mem_take h'')
        · subst h''
          obtain ⟨z1, z2, z3, z4⟩ := hz t (List.mem_of_getElem? ht)
          refine ⟨z1, z2, z3, ?_⟩
          have k1 := text_of hT ht
          have k2 := text_of hT hu
          show (t.text ++ u.text).size ≤ _
          rw [ByteArray.size_append]
          omega
      · exact segN_sz hz _ x h'
    · cases hs'

theorem cutL_len {ts : List Tk} {a e : Nat} (hae : a ≤ e) (he : e ≤ ts.length) : (cutL ts a e).length ≤ ts.length := by
  cases hs : sideB ts a e with
  | false =>
    rw [cutL_no hs, outC_len hae he (Nat.le_refl _)]
    omega
  | true =>
    have hs' := hs
    unfold sideB at hs'
    split at hs'
    · rename_i t u ht hu
      rw [cutL_yes hs ht hu]
      unfold joinC
      have hel : e < ts.length := by
        rcases Nat.lt_or_ge e ts.length with h' | h'
        · exact h'
        · rw [List.getElem?_eq_none h'] at hu; cases hu
      rw [List.length_append, List.length_set, List.length_take, segN_len _ (by omega)]
      omega
    · cases hs'

/-- Pruned: the tree, and whether. -/
noncomputable def pruneB (ts : List Tk) (x : Int) : Bool := (decide (1 ≤ x) && decide (x < (ts.length : Int))) && (treeB ts && treeB (cutL ts x.toNat (endN ts x.toNat)))

noncomputable def pruneT (ts : List Tk) (x : Int) : List Tk := if treeB ts then (if pruneB ts x then cutL ts x.toNat (endN ts x.toNat) else ts) else []

end Go.Proofs.YtcjeodgfpnecgaaGreatDoor

namespace Go.Proofs.YtcjeodgfpnecgaaGreatDoor
open Go.RowKit
set_option linter.unusedVariables false

section
variable {ts br : List Tk} {e : Nat} {par : Int}

/-- Who is whose parent, in what is put in. -/
def inF (e : Nat) (par : Int) (i : Nat) (t : Tk) : Int := if i = 0 then par else t.kind + (e : Int)

/-- .. and behind it. -/
def outF (e m : Nat) (t : Tk) : Int := if (e : Int) ≤ t.kind then t.kind + (m : Int) else t.kind

theorem put_low (he : e ≤ ts.length) {i : Nat} (hi : i < e) {t : Tk} (ht : ts[i]? = some t) : (putL ts e par br)[i]? = some t := by
  unfold putL
  have h1 : (segN (fun _ t => t.kind) ts 0 e).length = e := segN_len _ (by omega)
  rw [List.append_assoc, List.getElem?_append_left (by rw [h1]; exact hi), segN_get _ (by omega) i hi t (by rw [Nat.zero_add]; exact ht)]
  rfl

theorem put_mid (he : e ≤ ts.length) {i : Nat} (hi : i < br.length) {t : Tk} (ht : br[i]? = some t) : (putL ts e par br)[e + i]? = some (shK (inF e par i t) t) := by
  unfold putL
  have h1 : (segN (fun _ t => t.kind) ts 0 e).length = e := segN_len _ (by omega)
  have h2 : (segN (fun i t => if i = 0 then par else t.kind + (e : Int)) br 0 br.length).length = br.length := segN_len _ (by omega)
  rw [List.getElem?_append_left (by rw [List.length_append, h1, h2]; omega), List.getElem?_append_right (by rw [h1]; omega), h1, show e + i - e = i by omega, segN_get _ (by omega) i hi t (by rw [Nat.zero_add]; exact ht), Nat.zero_add]
  rfl

theorem put_high (he : e ≤ ts.length) {i : Nat} (hi : e ≤ i) (hn : i < ts.length) {t : Tk} (ht : ts[i]? = some t) : (putL ts e par br)[i + br.length]? = some (shK (outF e br.length t) t) := by
  unfold putL
  have h1 : (segN (fun _ t => t.kind) ts 0 e).length = e := segN_len _ (by omega)
  have h2 : (segN (fun i t => if i = 0 then par else t.kind + (e : Int)) br 0 br.length).length = br.length := segN_len _ (by omega)
  rw [List.getElem?_append_right (by rw [List.length_append, h1, h2]; omega), List.length_append, h1, h2, show i + br.length - (e + br.length) = i - e by omega, segN_get _ (by omega) (i - e) (by omega) t (by rw [show e + (i - e) = i by omega]; exact ht)]
  rfl

/-- What was put in ends where it ended. -/
theorem put_end (he : e ≤ ts.length) (hB : TreeP br) (hn : ∀ t, ts[e]? = some t → t.kind < (e : Int)) : endN (putL ts e par br) e = e + br.length := by
  have hl : (putL ts e par br).length = ts.length + br.length := putL_len he
  have hb1 := hB.1
  refine endN_is (by omega) (by omega) (fun j h1 h2 => ?_) ?_
  · obtain ⟨i, rfl⟩ : ∃ i, j = e + i := ⟨j - e, by omega⟩
    have hi : i < br.length := by omega
    have ht := List.getElem?_eq_getElem hi
    unfold parI
    rw [put_mid he hi ht]
    show (e : Int) ≤ inF e par i br[i]
    unfold inF
    rw [if_neg (by omega)]
    rcases (hB.2.2.2.2 i hi).2.1 with h0 | ⟨p, _, hp, _⟩
    · omega
    · rw [parI_at hi] at hp
      omega
  · by_cases h : e = ts.length
    · left; omega
    · right
      have ht := List.getElem?_eq_getElem (show e < ts.length by omega)
      unfold parI
      rw [put_high he (Nat.le_refl _) (by omega) ht]
      have := hn _ ht
      show outF e br.length ts[e] < (e : Int)
      unfold outF
      rw [if_neg (by omega)]
      exact this

/-- What was put in is there. -/
theorem put_branch (he : e ≤ ts.length) (hB : TreeP br) (hn : ∀ t, ts[e]? = some t → t.kind < (e : Int)) : branchL (putL ts e par br) e = br := by
  have hl : (putL ts e par br).length = ts.length + br.length := putL_len he
  have hb1 := hB.1
  have hek : e < (putL ts e par br).length := by omega
  have hend := put_end (par := par) he hB hn
  have hlen := branchL_len hek
  rw [hend] at hlen
  apply List.ext_getElem?
  intro j
  by_cases hj : j < br.length
  · have ht := List.getElem?_eq_getElem hj
    rw [branch_at hek (j := j) (by rw [hend]; omega) (put_mid he hj ht), ht]
    congr 1
    unfold shK inF
    by_cases h0 : j = 0
    · subst h0
      rw [if_pos rfl]
      have := hB.2.2.1
      rw [parI_at hj] at this
      rw [← this]
    · rw [if_neg h0, if_neg h0]
      have e1 : br[j].kind + (e : Int) - (e : Int) = br[j].kind := by omega
      show (⟨br[j].kind + (e : Int) - (e : Int), br[j].name, br[j].attrs, br[j].text⟩ : Tk) = br[j]
      rw [e1]
  · rw [List.getElem?_eq_none (by omega), List.getElem?_eq_none (by omega)]

end

end Go.Proofs.YtcjeodgfpnecgaaGreatDoor
