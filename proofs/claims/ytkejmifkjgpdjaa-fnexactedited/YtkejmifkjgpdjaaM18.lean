/- What edits make of a tree: mathematics. The document's Edited. A pile: what is open, in a row of its own; contracts of the pile of numbers. -/
import Derived.Test.YtkejmifkjgpdjaaM17
import Derived.Test.YtkejmifkjgpdjaaM13
import Derived.Deep.QuietTactic
import Derived.BigQuiet
namespace Go.Proofs.Ytkejmifkjgpdjaa
open Go.RowKit
set_option linter.unusedVariables false
set_option linter.unusedSimpArgs false

theorem nameL_lenE {l : List UInt8} (h : nameL l = true) : l.length ≤ 21 := by
  unfold nameL at h
  split at h
  · unfold lettersL at h
    simp only [Bool.and_eq_true, decide_eq_true_eq] at h
    omega
  · rename_i a ha
    rw [Bool.and_eq_true] at h
    obtain ⟨h1, h2⟩ := h
    unfold lettersL at h1 h2
    simp only [Bool.and_eq_true, decide_eq_true_eq] at h1 h2
    have e1 : (preL l).length = min a l.length := by unfold preL; rw [ha]; simp
    have e2 : (locL l).length = l.length - (a + 1) := by unfold locL; rw [ha]; simp
    have : a < l.length := by
      unfold colonAt at ha
      rw [List.findIdx?_eq_some_iff_getElem] at ha
      exact ha.1
    omega

theorem tree_smallE {ts : List Tk} (hT : TreeP ts) : TksSz 1048576 ts := by
  intro t ht
  obtain ⟨k, hk, rfl⟩ := List.getElem_of_mem ht
  have ht := tree_text hT k
  rw [textAt_at hk] at ht
  have hb := (hT.2.2.2.2 k hk).1.2
  by_cases h0 : ts[k].name.size = 0
  · rw [nodeB_tx h0, Bool.and_eq_true] at hb
    have hl := of_decide_eq_true hb.1
    exact ⟨by omega, by omega, fun x hx => by rw [List.eq_nil_of_length_eq_zero hl] at hx; exact absurd hx List.not_mem_nil, by omega⟩
  · rw [nodeB_el h0, Bool.and_eq_true, Bool.and_eq_true] at hb
    have ho : AttrsOk ts[k].attrs := by
      by_cases q : AttrsOk ts[k].attrs
      · exact q
      · rw [attrsB_f q] at hb; cases hb.2.1
    have hnm := nameL_lenE hb.1
    rw [← sz] at hnm
    refine ⟨by omega, by have := ho.1; omega, fun x hx => ?_, by omega⟩
    obtain ⟨j, hj, rfl⟩ := List.getElem_of_mem hx
    obtain ⟨z1, z2, z3⟩ := ho.2.1 j hj hj
    have := nameL_lenE z1
    rw [← sz] at this
    exact ⟨by omega, by omega⟩

theorem RowOf.tkc {w wr : World} {v : Value} {L : List Tk} (h : RowOf w wr v L) : ∃ a c, v = .slice a L.length c ∧ TkRow wr a L ∧ L.length ≤ c ∧ c ≤ maxLen := by
  obtain ⟨es, a, c, rfl, hr, hm, hl⟩ := h.open
  obtain ⟨a2, c2, e, ht⟩ := hr.tkRow
  cases e
  rw [hm] at ht
  refine ⟨a, c, by rw [hl], ht, ?_⟩
  rcases hr.own.2 with ⟨h1, h2⟩ | ⟨g, cap, cur, h1, _, _, h4, h5, _⟩
  · simp only [Value.slice.injEq] at h1
    obtain ⟨_, _, rfl⟩ := h1
    rw [← hl, h2]
    exact ⟨Nat.le_refl _, Nat.zero_le _⟩
  · simp only [Value.slice.injEq] at h1
    obtain ⟨_, _, rfl⟩ := h1
    rw [← hl]
    exact ⟨h4, h5⟩

/-- What one edit makes of a tree. -/
noncomputable def editT (ts us : List Tk) (e : Ed) : List Tk :=
  if e.kind = 1 then pruneT ts e.pos else if e.kind = 2 then graftL ts (branchI ts e.frm) e.pos else if e.kind = 3 then graftL ts (branchI us e.frm) e.pos else if e.kind = 4 then wrapT ts e.pos e.name else ts

theorem ed1 {ts us : List Tk} {e : Ed} (h : e.kind = 1) : editT ts us e = pruneT ts e.pos := by unfold editT; rw [if_pos h]
theorem ed2 {ts us : List Tk} {e : Ed} (h : e.kind = 2) : editT ts us e = graftL ts (branchI ts e.frm) e.pos := by unfold editT; rw [if_neg (by omega), if_pos h]
theorem ed3 {ts us : List Tk} {e : Ed} (h : e.kind = 3) : editT ts us e = graftL ts (branchI us e.frm) e.pos := by unfold editT; rw [if_neg (by omega), if_neg (by omega), if_pos h]
theorem ed4 {ts us : List Tk} {e : Ed} (h : e.kind = 4) : editT ts us e = wrapT ts e.pos e.name := by unfold editT; rw [if_neg (by omega), if_neg (by omega), if_neg (by omega), if_pos h]
theorem ed5 {ts us : List Tk} {e : Ed} (h1 : ¬ e.kind = 1) (h2 : ¬ e.kind = 2) (h3 : ¬ e.kind = 3) (h4 : ¬ e.kind = 4) : editT ts us e = ts := by unfold editT; rw [if_neg h1, if_neg h2, if_neg h3, if_neg h4]

theorem prune_f {ts : List Tk} {x : Int} (h : TreeP ts) (hb : pruneB ts x = false) : pruneT ts x = ts := by unfold pruneT; rw [treeB_t h, hb]; rfl
theorem graft_f {ts br : List Tk} {x : Int} (h : TreeP ts) (hb : graftB ts br x = false) : graftL ts br x = ts := by unfold graftL; rw [treeB_t h, hb]; rfl
theorem wrap_f {ts : List Tk} {x : Int} {n : ByteArray} (h : TreeP ts) (hb : wrapB ts x n = false) : wrapT ts x n = ts := by unfold wrapT; rw [treeB_t h, hb]; rfl

theorem tree_nil : treeB [] = false := treeB_f (fun h => by have := h.1; simp at this)

theorem graft_nil {ts us : List Tk} {x y : Int} (h : TreeP ts) (hb : elemB us y = false) : graftL ts (branchI us y) x = ts := by
  refine graft_f h ?_
  unfold branchI graftB
  rw [hb]
  simp [tree_nil]

theorem AnsT.tree {R : List Tk} (h : AnsT R) (h0 : ¬ R = []) : TreeP R := h.resolve_left h0

theorem editT_tree {ts us : List Tk} (e : Ed) (h : TreeP ts) : TreeP (editT ts us e) := by
  have hne : ¬ ts = [] := fun q => by rw [q] at h; have := h.1; simp at this
  unfold editT
  split
  · cases q : pruneB ts e.pos with
    | false => rw [prune_f h q]; exact h
    | true =>
      unfold pruneT
      rw [treeB_t h, q]
      unfold pruneB at q
      simp only [Bool.and_eq_true] at q
      exact treeG q.2.2
  split
  · cases q : graftB ts (branchI ts e.frm) e.pos with
    | false => rw [graft_f h q]; exact h
    | true =>
      unfold graftL
      rw [treeB_t h, q]
      unfold graftB at q
      simp only [Bool.and_eq_true] at q
      exact treeG q.2.2
  split
  · cases q : graftB ts (branchI us e.frm) e.pos with
    | false => rw [graft_f h q]; exact h
    | true =>
      unfold graftL
      rw [treeB_t h, q]
      unfold graftB at q
      simp only [Bool.and_eq_true] at q
      exact treeG q.2.2
  split
  · cases q : wrapB ts e.pos e.name with
    | false => rw [wrap_f h q]; exact h
    | true =>
      unfold wrapT
      rw [treeB_t h, q]
      unfold wrapB at q
      simp only [Bool.and_eq_true] at q
      exact treeG q.2.2.2
  · exact h

/-- What several make of it, one behind the other. -/
noncomputable def editsT (ts us : List Tk) (l : List Ed) : List Tk := l.foldl (fun t e => editT t us e) ts

theorem editsT_nil (ts us : List Tk) : editsT ts us [] = ts := rfl

theorem editsT_snoc (ts us : List Tk) (l : List Ed) (e : Ed) : editsT ts us (l ++ [e]) = editT (editsT ts us l) us e := by unfold editsT; rw [List.foldl_append]; rfl

theorem editsT_tree {ts us : List Tk} (h : TreeP ts) : ∀ l : List Ed, TreeP (editsT ts us l) := by
  intro l
  suffices hs : ∀ (l : List Ed) (ts : List Tk), TreeP ts → TreeP (editsT ts us l) from hs l ts h
  intro l
  induction l with
  | nil => intro ts h; exact h
  | cons e l ih => intro ts h; exact ih _ (editT_tree e h)

/-- Are they right, all that are handed in? -/
noncomputable def edB (ts us : List Tk) (l : List Ed) : Bool := treeB ts && (treeB us && decide (l.length ≤ 20))

noncomputable def edT (ts us : List Tk) (l : List Ed) : List Tk := if edB ts us l then editsT ts us l else []

theorem ans_edit (ts us : List Tk) (l : List Ed) : AnsT (edT ts us l) := by
  unfold edT
  split
  · rename_i h
    unfold edB at h
    rw [Bool.and_eq_true] at h
    exact .inr (editsT_tree (treeG h.1) l)
  · exact .inl rfl

theorem AnsT.sz {R : List Tk} (h : AnsT R) : TksSz 1048576 R := by
  rcases h with h | h
  · rw [h]; exact fun t ht => absurd ht List.not_mem_nil
  · exact tree_smallE h

end Go.Proofs.Ytkejmifkjgpdjaa

namespace Go.Proofs.Ytkejmifkjgpdjaa
open Go.RowKit
set_option linter.unusedVariables false
set_option linter.unusedSimpArgs false

set_option maxRecDepth 4000 in
set_option maxHeartbeats 4000000 in
theorem cEdit1S (p f : Int) (x : ByteArray) (a : Option Addr) (ca : Nat) (ts : List Tk) (a2 : Option Addr) (n2 c2 : Nat) (w : World) (hR : TkRow w a ts) (hT : TreeP ts) (hc : ts.length ≤ ca) (hcm : ca ≤ maxLen) (hnm : x.size ≤ 1048576) :
    Calls Try.prog 18 #[.slice a ts.length ca, .slice a2 n2 c2, .agg #[.int .i64 1, .int .i64 p, .int .i64 f, .string x]] w fun r w' => ∃ a' c', r = .returned (.slice a' (pruneT ts p).length c') ∧ TkRow w' a' (pruneT ts p) ∧ (pruneT ts p).length ≤ c' ∧ c' ≤ maxLen ∧ Below w.heap.size w w' := by
  have hz := tree_smallE hT
  have hn : ts.length ≤ 1048576 := by have := hT.2.1; omega
  have HB0 := hid ((Below.refl w.heap.size w).alloc (Nat.le_refl _) (.cells #[.int .i64 1, .int .i64 p, .int .i64 f, .string x] 46))
  have C := hid (cPrunedS a ca ts p _ (hR.below HB0.out) hc hcm hn hz)
  have HR := hid hR
  have HC := hid hc
  have HCM := hid hcm
  have HF := hid (fun (q : pruneB ts p = false) => prune_f hT q)
  obtain ⟨V, hV⟩ : ∃ V, pruneB ts p = V := ⟨_, rfl⟩
  rw [hV] at C HF
  obtain ⟨L, hL⟩ : ∃ L, pruneT ts p = L := ⟨_, rfl⟩
  rw [hL] at C HF ⊢
  clear hV hL hR hT hc hcm hz hn hnm
  obtain ⟨n, hnn⟩ : ∃ n, ts.length = n := ⟨_, rfl⟩
  have HN := hid hnn
  rw [hnn] at C ⊢
  clear hnn
  go_enter Try.func18, Try.ntmps18
  go_wp2_with fail
  refine C.out.mono ?_
  rintro e w1 ⟨v1, rfl, hr1⟩
  obtain ⟨a1, c1, hv1, ht1, hl1, hm1⟩ := hr1.tkc
  have HB1 := hid (bb HB0.out hr1.bel)
  subst hv1
  have HT1 := hid ht1
  have HL1 := hid hl1
  have HM1 := hid hm1
  clear ht1 hl1 hm1 hr1 C HB0
  cases V with
  | true =>
    clear HF
    go_wp2_with fail
    go_ret
    exact ⟨a1, c1, rfl, HT1.out, HL1.out, HM1.out, HB1.out⟩
  | false =>
    have hLt := HF.out rfl
    clear HT1 HL1 HM1 HF
    go_wp2_with fail
    go_ret
    exact ⟨a, ca, by rw [hLt, HN.out]; rfl, by rw [hLt]; exact HR.out.below HB1.out, by rw [hLt]; exact HC.out, HCM.out, HB1.out⟩

set_option maxRecDepth 4000 in
set_option maxHeartbeats 4000000 in
theorem cEdit4S (p f : Int) (x : ByteArray) (a : Option Addr) (ca : Nat) (ts : List Tk) (a2 : Option Addr) (n2 c2 : Nat) (w : World) (hR : TkRow w a ts) (hT : TreeP ts) (hc : ts.length ≤ ca) (hcm : ca ≤ maxLen) (hnm : x.size ≤ 1048576) :
    Calls Try.prog 18 #[.slice a ts.length ca, .slice a2 n2 c2, .agg #[.int .i64 4, .int .i64 p, .int .i64 f, .string x]] w fun r w' => ∃ a' c', r = .returned (.slice a' (wrapT ts p x).length c') ∧ TkRow w' a' (wrapT ts p x) ∧ (wrapT ts p x).length ≤ c' ∧ c' ≤ maxLen ∧ Below w.heap.size w w' := by
  have hz := tree_smallE hT
  have hn : ts.length ≤ 1048576 := by have := hT.2.1; omega
  have HB0 := hid ((Below.refl w.heap.size w).alloc (Nat.le_refl _) (.cells #[.int .i64 4, .int .i64 p, .int .i64 f, .string x] 46))
  have C := hid (cWrappedS a ca ts p x _ (hR.below HB0.out) hc hcm hn hz hnm)
  have HR := hid hR
  have HC := hid hc
  have HCM := hid hcm
  have HF := hid (fun (q : wrapB ts p x = false) => wrap_f hT q)
  obtain ⟨V, hV⟩ : ∃ V, wrapB ts p x = V := ⟨_, rfl⟩
  rw [hV] at C HF
  obtain ⟨L, hL⟩ : ∃ L, wrapT ts p x = L := ⟨_, rfl⟩
  rw [hL] at C HF ⊢
  clear hV hL hR hT hc hcm hz hn hnm
  obtain ⟨n, hnn⟩ : ∃ n, ts.length = n := ⟨_, rfl⟩
  have HN := hid hnn
  rw [hnn] at C ⊢
  clear hnn
  go_enter Try.func18, Try.ntmps18
  go_wp2_with fail
  refine C.out.mono ?_
  rintro e w1 ⟨v1, rfl, hr1⟩
  obtain ⟨a1, c1, hv1, ht1, hl1, hm1⟩ := hr1.tkc
  have HB1 := hid (bb HB0.out hr1.bel)
  subst hv1
  have HT1 := hid ht1
  have HL1 := hid hl1
  have HM1 := hid hm1
  clear ht1 hl1 hm1 hr1 C HB0
  cases V with
  | true =>
    clear HF
    go_wp2_with fail
    go_ret
    exact ⟨a1, c1, rfl, HT1.out, HL1.out, HM1.out, HB1.out⟩
  | false =>
    have hLt := HF.out rfl
    clear HT1 HL1 HM1 HF
    go_wp2_with fail
    go_ret
    exact ⟨a, ca, by rw [hLt, HN.out]; rfl, by rw [hLt]; exact HR.out.below HB1.out, by rw [hLt]; exact HC.out, HCM.out, HB1.out⟩

set_option maxRecDepth 4000 in
set_option maxHeartbeats 4000000 in
theorem cEdit2S (p f : Int) (x : ByteArray) (a : Option Addr) (ca : Nat) (ts : List Tk) (a2 : Option Addr) (n2 c2 : Nat) (w : World) (hR : TkRow w a ts) (hT : TreeP ts) (hc : ts.length ≤ ca) (hcm : ca ≤ maxLen) :
    Calls Try.prog 18 #[.slice a ts.length ca, .slice a2 n2 c2, .agg #[.int .i64 2, .int .i64 p, .int .i64 f, .string x]] w fun r w' => ∃ a' c', r = .returned (.slice a' (graftL ts (branchI ts f) p).length c') ∧ TkRow w' a' (graftL ts (branchI ts f) p) ∧ (graftL ts (branchI ts f) p).length ≤ c' ∧ c' ≤ maxLen ∧ Below w.heap.size w w' := by
  have hz := tree_smallE hT
  have hn : ts.length ≤ 1048576 := by have := hT.2.1; omega
  have HB0 := hid ((Below.refl w.heap.size w).alloc (Nat.le_refl _) (.cells #[.int .i64 2, .int .i64 p, .int .i64 f, .string x] 46))
  have HX := hid (heap_alloc_new w (.cells #[.int .i64 2, .int .i64 p, .int .i64 f, .string x] 46))
  have C := hid (cBranchS a ca ts f _ (hR.below HB0.out) hn hz)
  have HBA := ans_branch ts f
  have hbz := HBA.sz
  have hbn : (branchI ts f).length ≤ 1048576 := by have := HBA.len; omega
  have CG := hid (fun (ab : Option Addr) (cb : Nat) wx (h : TkRow wx a ts) (h2 : TkRow wx ab (branchI ts f)) => cGraftedS a ab ca cb ts (branchI ts f) p wx h h2 hc hcm hn hbn hz hbz)
  have HR := hid hR
  have HC := hid hc
  have HCM := hid hcm
  have HF := hid (fun (q : graftB ts (branchI ts f) p = false) => graft_f hT q)
  have HN0 := hid (fun (q : elemB ts f = false) => graft_nil (x := p) hT q)
  obtain ⟨V, hV⟩ : ∃ V, elemB ts f = V := ⟨_, rfl⟩
  rw [hV] at C HN0
  obtain ⟨V2, hV2⟩ : ∃ V, graftB ts (branchI ts f) p = V := ⟨_, rfl⟩
  rw [hV2] at CG HF
  obtain ⟨L, hL⟩ : ∃ L, graftL ts (branchI ts f) p = L := ⟨_, rfl⟩
  rw [hL] at CG HF HN0 ⊢
  obtain ⟨br, hbr⟩ : ∃ br, branchI ts f = br := ⟨_, rfl⟩
  rw [hbr] at C CG
  clear hV hV2 hL hbr hR hT hc hcm hz hn HBA hbz hbn
  obtain ⟨n, hnn⟩ : ∃ n, ts.length = n := ⟨_, rfl⟩
  have HN := hid hnn
  rw [hnn] at C CG ⊢
  clear hnn
  go_enter Try.func18, Try.ntmps18
  go_wp2_with fail
  refine C.out.mono ?_
  rintro e w1 ⟨v1, rfl, hr1⟩
  obtain ⟨ab, cb, hv1, ht1, _, _⟩ := hr1.tkc
  have HB1 := hid (bb HB0.out hr1.bel)
  have HX1 := hid (v_blk_below HX.out hr1.bel)
  obtain ⟨⟨x0, x1, x2, x3⟩, _⟩ := box4 HX1.out
  subst hv1
  have HT1 := hid ht1
  clear ht1 hr1 C HB0 HX
  cases V with
  | false =>
    have hLt := HN0.out rfl
    clear HT1 HF HN0 CG
    go_wp2_with fail
    go_ret
    exact ⟨a, ca, by rw [hLt, HN.out]; rfl, by rw [hLt]; exact HR.out.below HB1.out, by rw [hLt]; exact HC.out, HCM.out, HB1.out⟩
  | true =>
    clear HN0
    go_wp2_with fail
    refine (CG.out ab cb _ (HR.out.below HB1.out) HT1.out).mono ?_
    rintro e w2 ⟨v2, rfl, hr2⟩
    obtain ⟨a3, c3, hv2, ht2, hl2, hm2⟩ := hr2.tkc
    have HB2 := hid (bb HB1.out hr2.bel)
    subst hv2
    have HT2 := hid ht2
    have HL2 := hid hl2
    have HM2 := hid hm2
    clear ht2 hl2 hm2 hr2 CG HB1 HT1 x0 x1 x2 x3
    cases V2 with
    | true =>
      clear HF
      go_wp2_with fail
      go_ret
      exact ⟨a3, c3, rfl, HT2.out, HL2.out, HM2.out, HB2.out⟩
    | false =>
      have hLt := HF.out rfl
      clear HT2 HL2 HM2 HF
      go_wp2_with fail
      go_ret
      exact ⟨a, ca, by rw [hLt, HN.out]; rfl, by rw [hLt]; exact HR.out.below HB2.out, by rw [hLt]; exact HC.out, HCM.out, HB2.out⟩

set_option maxRecDepth 4000 in
set_option maxHeartbeats 4000000 in
theorem cEdit3S (p f : Int) (x : ByteArray) (a : Option Addr) (ca : Nat) (ts : List Tk) (a2 : Option Addr) (c2 : Nat) (us : List Tk) (w : World) (hR : TkRow w a ts) (hT : TreeP ts) (hc : ts.length ≤ ca) (hcm : ca ≤ maxLen) (hR2 : TkRow w a2 us) (hU : TreeP us) :
    Calls Try.prog 18 #[.slice a ts.length ca, .slice a2 us.length c2, .agg #[.int .i64 3, .int .i64 p, .int .i64 f, .string x]] w fun r w' => ∃ a' c', r = .returned (.slice a' (graftL ts (branchI us f) p).length c') ∧ TkRow w' a' (graftL ts (branchI us f) p) ∧ (graftL ts (branchI us f) p).length ≤ c' ∧ c' ≤ maxLen ∧ Below w.heap.size w w' := by
  have hz := tree_smallE hT
  have hn : ts.length ≤ 1048576 := by have := hT.2.1; omega
  have huz := tree_smallE hU
  have hun : us.length ≤ 1048576 := by have := hU.2.1; omega
  have HB0 := hid ((Below.refl w.heap.size w).alloc (Nat.le_refl _) (.cells #[.int .i64 3, .int .i64 p, .int .i64 f, .string x] 46))
  have HX := hid (heap_alloc_new w (.cells #[.int .i64 3, .int .i64 p, .int .i64 f, .string x] 46))
  have C := hid (cBranchS a2 c2 us f _ (hR2.below HB0.out) hun huz)
  have HBA := ans_branch us f
  have hbz := HBA.sz
  have hbn : (branchI us f).length ≤ 1048576 := by have := HBA.len; omega
  have CG := hid (fun (ab : Option Addr) (cb : Nat) wx (h : TkRow wx a ts) (h2 : TkRow wx ab (branchI us f)) => cGraftedS a ab ca cb ts (branchI us f) p wx h h2 hc hcm hn hbn hz hbz)
  have HR := hid hR
  have HC := hid hc
  have HCM := hid hcm
  have HF := hid (fun (q : graftB ts (branchI us f) p = false) => graft_f hT q)
  have HN0 := hid (fun (q : elemB us f = false) => graft_nil (x := p) hT q)
  obtain ⟨V, hV⟩ : ∃ V, elemB us f = V := ⟨_, rfl⟩
  rw [hV] at C HN0
  obtain ⟨V2, hV2⟩ : ∃ V, graftB ts (branchI us f) p = V := ⟨_, rfl⟩
  rw [hV2] at CG HF
  obtain ⟨L, hL⟩ : ∃ L, graftL ts (branchI us f) p = L := ⟨_, rfl⟩
  rw [hL] at CG HF HN0 ⊢
  obtain ⟨br, hbr⟩ : ∃ br, branchI us f = br := ⟨_, rfl⟩
  rw [hbr] at C CG
  clear hV hV2 hL hbr hR hT hc hcm hz hn HBA hbz hbn hR2 hU huz hun
  obtain ⟨n, hnn⟩ : ∃ n, ts.length = n := ⟨_, rfl⟩
  have HN := hid hnn
  rw [hnn] at CG ⊢
  clear hnn
  generalize us.length = n2 at *
  go_enter Try.func18, Try.ntmps18
  go_wp2_with fail
  refine C.out.mono ?_
  rintro e w1 ⟨v1, rfl, hr1⟩
  obtain ⟨ab, cb, hv1, ht1, _, _⟩ := hr1.tkc
  have HB1 := hid (bb HB0.out hr1.bel)
  have HX1 := hid (v_blk_below HX.out hr1.bel)
  obtain ⟨⟨x0, x1, x2, x3⟩, _⟩ := box4 HX1.out
  subst hv1
  have HT1 := hid ht1
  clear ht1 hr1 C HB0 HX
  cases V with
  | false =>
    have hLt := HN0.out rfl
    clear HT1 HF HN0 CG
    go_wp2_with fail
    go_ret
    exact ⟨a, ca, by rw [hLt, HN.out]; rfl, by rw [hLt]; exact HR.out.below HB1.out, by rw [hLt]; exact HC.out, HCM.out, HB1.out⟩
  | true =>
    clear HN0
    go_wp2_with fail
    refine (CG.out ab cb _ (HR.out.below HB1.out) HT1.out).mono ?_
    rintro e w2 ⟨v2, rfl, hr2⟩
    obtain ⟨a3, c3, hv2, ht2, hl2, hm2⟩ := hr2.tkc
    have HB2 := hid (bb HB1.out hr2.bel)
    subst hv2
    have HT2 := hid ht2
    have HL2 := hid hl2
    have HM2 := hid hm2
    clear ht2 hl2 hm2 hr2 CG HB1 HT1 x0 x1 x2 x3
    cases V2 with
    | true =>
      clear HF
      go_wp2_with fail
      go_ret
      exact ⟨a3, c3, rfl, HT2.out, HL2.out, HM2.out, HB2.out⟩
    | false =>
      have hLt := HF.out rfl
      clear HT2 HL2 HM2 HF
      go_wp2_with fail
      go_ret
      exact ⟨a, ca, by rw [hLt, HN.out]; rfl, by rw [hLt]; exact HR.out.below HB2.out, by rw [hLt]; exact HC.out, HCM.out, HB2.out⟩

set_option maxHeartbeats 4000000 in
theorem cEdit5S (k p f : Int) (x : ByteArray) (h1 : ¬ k = 1) (h2 : ¬ k = 2) (h3 : ¬ k = 3) (h4 : ¬ k = 4) (a : Option Addr) (ca n : Nat) (a2 : Option Addr) (n2 c2 : Nat) (w : World) :
    Calls Try.prog 18 #[.slice a n ca, .slice a2 n2 c2, .agg #[.int .i64 k, .int .i64 p, .int .i64 f, .string x]] w fun r w' => r = .returned (.slice a n ca) ∧ Below w.heap.size w w' := by
  have HB0 := hid ((Below.refl w.heap.size w).alloc (Nat.le_refl _) (.cells #[.int .i64 k, .int .i64 p, .int .i64 f, .string x] 46))
  have d1 : (k == 1) = false := by simpa using h1
  have d2 : (k == 2) = false := by simpa using h2
  have d3 : (k == 3) = false := by simpa using h3
  have d4 : (k == 4) = false := by simpa using h4
  clear h1 h2 h3 h4
  go_enter Try.func18, Try.ntmps18
  go_wp2_with fail
  go_ret
  exact ⟨rfl, HB0.out⟩

theorem cEditS (e : Ed) (a : Option Addr) (ca : Nat) (ts : List Tk) (a2 : Option Addr) (c2 : Nat) (us : List Tk) (w : World) (hR : TkRow w a ts) (hT : TreeP ts) (hc : ts.length ≤ ca) (hcm : ca ≤ maxLen) (hR2 : TkRow w a2 us) (hU : TreeP us) (hnm : e.name.size ≤ 1048576) :
    Calls Try.prog 18 #[.slice a ts.length ca, .slice a2 us.length c2, edV e] w fun r w' => ∃ a' c', r = .returned (.slice a' (editT ts us e).length c') ∧ TkRow w' a' (editT ts us e) ∧ (editT ts us e).length ≤ c' ∧ c' ≤ maxLen ∧ Below w.heap.size w w' := by
  obtain ⟨k, p, f, x⟩ := e
  by_cases h1 : k = 1
  · subst h1
    rw [ed1 rfl]
    exact cEdit1S p f x a ca ts a2 us.length c2 w hR hT hc hcm hnm
  by_cases h2 : k = 2
  · subst h2
    rw [ed2 rfl]
    exact cEdit2S p f x a ca ts a2 us.length c2 w hR hT hc hcm
  by_cases h3 : k = 3
  · subst h3
    rw [ed3 rfl]
    exact cEdit3S p f x a ca ts a2 c2 us w hR hT hc hcm hR2 hU
  by_cases h4 : k = 4
  · subst h4
    rw [ed4 rfl]
    exact cEdit4S p f x a ca ts a2 us.length c2 w hR hT hc hcm hnm
  · rw [ed5 h1 h2 h3 h4]
    exact (cEdit5S k p f x h1 h2 h3 h4 a ca ts.length a2 us.length c2 w).mono fun r w' ⟨he, hb⟩ => ⟨a, ca, he, hR.below hb, hc, hcm, hb⟩

set_option maxRecDepth 4000 in
set_option maxHeartbeats 8000000 in
theorem cEditedS (a : Option Addr) (ca : Nat) (ts : List Tk) (a2 : Option Addr) (c2 : Nat) (us : List Tk) (a3 : Option Addr) (c3 : Nat) (l : List Ed) (w : World) (hR : TkRow w a ts) (hR2 : TkRow w a2 us) (hE : EdRow w a3 l) (hc : ts.length ≤ ca) (hcm : ca ≤ maxLen) (hn : ts.length ≤ 1048576) (hn2 : us.length ≤ 1048576) (hn3 : l.length ≤ 1048576) (hz : TksSz 1048576 ts) (hz2 : TksSz 1048576 us) (hez : EdSz 1048576 l) :
    Calls Try.prog 6 #[.slice a ts.length ca, .slice a2 us.length c2, .slice a3 l.length c3] w (TreeAns w (edT ts us l) (edB ts us l)) := by
  have CT := hid (cTreeOkS a ca ts w hR hn hz)
  have CU := hid (fun wx (h : Below w.heap.size w wx) => cTreeOkS a2 c2 us wx (hR2.below h) hn2 hz2)
  cases hT : treeB ts with
  | false =>
    have HV := hid (show edB ts us l = false by unfold edB; rw [hT]; rfl)
    have HL := hid (show edT ts us l = [] by unfold edT; rw [HV.out]; rfl)
    rw [HV.out, HL.out]
    rw [hT] at CT
    clear HV HL hT hR hR2 hE hc hcm hn hn2 hn3 hz hz2 hez CU
    generalize ts.length = n at *
    generalize us.length = n2 at *
    generalize l.length = m at *
    go_enter Try.func6, Try.ntmps6
    go_wp2_with fail
    refine CT.out.mono ?_
    rintro e w1 ⟨rfl, hb1⟩
    have HB1 := hid hb1
    clear hb1 CT
    go_wp2_with fail
    go_ret2
    exact TreeAns.none HB1.out
  | true =>
  cases hU : treeB us with
  | false =>
    have HV := hid (show edB ts us l = false by unfold edB; rw [hT, hU]; rfl)
    have HL := hid (show edT ts us l = [] by unfold edT; rw [HV.out]; rfl)
    rw [HV.out, HL.out]
    rw [hT] at CT
    rw [hU] at CU
    clear HV HL hT hU hR hR2 hE hc hcm hn hn2 hn3 hz hz2 hez
    generalize ts.length = n at *
    generalize us.length = n2 at *
    generalize l.length = m at *
    go_enter Try.func6, Try.ntmps6
    go_wp2_with fail
    refine CT.out.mono ?_
    rintro e w1 ⟨rfl, hb1⟩
    have HB1 := hid hb1
    have CU1 := hid (CU.out _ hb1)
    clear hb1 CT CU
    go_wp2_with fail
    refine CU1.out.mono ?_
    rintro e w2 ⟨rfl, hb2⟩
    have HB2 := hid (bb HB1.out hb2)
    clear hb2 CU1 HB1
    go_wp2_with fail
    go_ret2
    exact TreeAns.none HB2.out
  | true =>
  by_cases hl : l.length ≤ 20
  · have HV := hid (show edB ts us l = true by unfold edB; rw [hT, hU, decide_eq_true hl]; rfl)
    have HL := hid (show edT ts us l = editsT ts us l by unfold edT; rw [HV.out]; rfl)
    rw [HV.out, HL.out]
    rw [hT] at CT
    rw [hU] at CU
    have hTT := treeG hT
    have hUU := treeG hU
    have HTT := hid hTT
    have HUU := hid hUU
    have HR := hid hR
    have HR2 := hid hR2
    have HE := hid hE
    have HEZ := hid hez
    have HC := hid hc
    have HCM := hid hcm
    obtain ⟨m, hm⟩ : ∃ m, l.length = m := ⟨_, rfl⟩
    have HM := hid hm
    obtain ⟨n2, hnn2⟩ : ∃ n, us.length = n := ⟨_, rfl⟩
    have HN2 := hid hnn2
    obtain ⟨n, hnn⟩ : ∃ n, ts.length = n := ⟨_, rfl⟩
    have HN := hid hnn
    rw [hm] at hl ⊢
    rw [hnn2] at CU ⊢
    rw [hnn] at CT ⊢
    have hg : decide ((20 : Int) < (m : Int)) = false := by simp; omega
    clear HV HL hT hU hR hR2 hE hc hcm hn hn2 hn3 hz hz2 hez hm hnn2 hnn hTT hUU
    go_enter Try.func6, Try.ntmps6
    go_wp2_with fail
    refine CT.out.mono ?_
    rintro e w1 ⟨rfl, hb1⟩
    have HB1 := hid hb1
    have CU1 := hid (CU.out _ hb1)
    clear hb1 CT CU
    go_wp2_with fail
    refine CU1.out.mono ?_
    rintro e w2 ⟨rfl, hb2⟩
    have HB2 := hid (bb HB1.out hb2)
    clear hb2 CU1 HB1
    go_wp2_with fail
    go_loopw [0, 8] (fun v i wr => ∃ (j : Nat) (a' : Option Addr) (c' : Nat), i = .int .i64 (j : Int) ∧ j ≤ m ∧ v = .slice a' (editsT ts us (l.take j)).length c' ∧ Hid (TkRow wr a' (editsT ts us (l.take j))) ∧ Hid ((editsT ts us (l.take j)).length ≤ c') ∧ Hid (c' ≤ maxLen) ∧ Hid (Below w.heap.size w wr)) (fun _ i _ => m - (intOf i).toNat)
    case atStart => exact ⟨0, a, ca, rfl, Nat.zero_le _, by rw [List.take_zero, editsT_nil, HN.out], by rw [List.take_zero, editsT_nil]; exact HR.out.below HB2.out, by rw [List.take_zero, editsT_nil]; exact HC.out, HCM.out, HB2.out⟩
    case round =>
      clear HB2
      obtain ⟨j, a', c', rfl, hj, rfl, HX, HXC, HXM, HB⟩ := hrel
      by_cases hlt : j < m
      · have his : j < l.length := by rw [HM.out]; exact hlt
        have hin : (j : Int) < (m : Int) := by omega
        have HTS := hid (take_snocN his)
        obtain ⟨b, o, e3, hb, q0, q1, q2, q3⟩ := HE.out.below HB.out j his
        subst e3
        have hsz := HEZ.out _ (List.getElem_mem his)
        have C := hid (cEditS l[j] a' c' (editsT ts us (l.take j)) a2 c2 us wr HX.out (editsT_tree HTT.out _) HXC.out HXM.out (HR2.out.below HB.out) HUU.out hsz)
        rw [← editsT_snoc, ← HTS.out] at C
        obtain ⟨E, hEd⟩ : ∃ E, l[j] = E := ⟨_, rfl⟩
        rw [hEd] at C q0 q1 q2 q3
        obtain ⟨k, p, f, x⟩ := E
        unfold edV at C
        rw [HN2.out] at C
        obtain ⟨L2, hL2⟩ : ∃ L2, editsT ts us (l.take (j + 1)) = L2 := ⟨_, rfl⟩
        have HL2 := hid hL2
        rw [hL2] at C
        clear hsz hEd hL2
        generalize (editsT ts us (l.take j)).length = nj at *
        go_wp2_with fail
        refine C.out.mono ?_
        rintro e w3 ⟨a4, c4, rfl, ht4, hl4, hm4, hb4⟩
        have H4 := hid ht4
        have H5 := hid hl4
        have H6 := hid hm4
        have HB4 := hid (bb HB.out hb4)
        clear ht4 hl4 hm4 hb4 C q0 q1 q2 q3 hb
        go_wp2_with fail
        go_roundw
        case rel => exact ⟨j + 1, a4, c4, by go_num, by omega, by rw [HL2.out], by rw [HL2.out]; exact H4.out, by rw [HL2.out]; exact H5.out, H6.out, HB4.out⟩
        case measure => simp [intOf]; omega
      · have hje : j = m := by omega
        subst hje
        have HA := hid (show l.take l.length = l from List.take_length)
        rw [HM.out] at HA
        rw [HA.out] at HX ⊢
        have htl := editsT_tree (us := us) HTT.out l
        have C := hid (cCopyT a' c' (editsT ts us l) wr HX.out (by have := htl.2.1; omega) (tree_smallE htl))
        clear htl
        generalize editsT ts us l = R at *
        go_wp2_with fail
        refine C.out.mono ?_
        rintro e w3 ⟨v3, rfl, hr3⟩
        have H3 := hid (RowOf.later HB.out hr3)
        clear hr3 C
        go_wp2_with fail
        go_ret2
        exact ⟨_, rfl, H3.out⟩
  · have HV := hid (show edB ts us l = false by unfold edB; rw [hT, hU, decide_eq_false hl]; rfl)
    have HL := hid (show edT ts us l = [] by unfold edT; rw [HV.out]; rfl)
    rw [HV.out, HL.out]
    rw [hT] at CT
    rw [hU] at CU
    obtain ⟨m, hm⟩ : ∃ m, l.length = m := ⟨_, rfl⟩
    rw [hm] at hl ⊢
    have hg : decide ((20 : Int) < (m : Int)) = true := by simp; omega
    clear HV HL hT hU hR hR2 hE hc hcm hn hn2 hn3 hz hz2 hez hm hl
    generalize ts.length = n at *
    generalize us.length = n2 at *
    go_enter Try.func6, Try.ntmps6
    go_wp2_with fail
    refine CT.out.mono ?_
    rintro e w1 ⟨rfl, hb1⟩
    have HB1 := hid hb1
    have CU1 := hid (CU.out _ hb1)
    clear hb1 CT CU
    go_wp2_with fail
    refine CU1.out.mono ?_
    rintro e w2 ⟨rfl, hb2⟩
    have HB2 := hid (bb HB1.out hb2)
    clear hb2 CU1 HB1
    go_wp2_with fail
    go_ret2
    exact TreeAns.none HB2.out

end Go.Proofs.Ytkejmifkjgpdjaa

namespace Go.Proofs.Ytkejmifkjgpdjaa
open Go.RowKit
set_option linter.unusedVariables false
set_option linter.unusedSimpArgs false

/-- A pile's slice lies in the o-th cell of block g; what it holds lies in a row of its own. -/
structure PileAt (E : TypeId) (s : Nat) (w : World) (B g o : Nat) (cur : Array Value) (T : TypeId) (v : Value) (n : Nat) (cs : List Value) : Prop where
  ge : B ≤ g
  blk : w.heap[g]? = some (.cells cur T (0, 0))
  at_ : cur[o]? = some v
  row : w.ownsRow B E s v n cs
  ne : T ≠ E

theorem PileAt.lt {E s w B g o cur T v n cs} (h : PileAt E s w B g o cur T v n cs) : g < w.heap.size := lt_of_heap h.blk

theorem PileAt.cell {E s w B g o cur T v n cs} (h : PileAt E s w B g o cur T v n cs) : w.cell? ⟨g, o, none⟩ = some v := by
  rw [Lib.cell_of_heap h.blk]
  exact h.at_

theorem PileAt.own_ne {E s w B g o cur T v n cs} (h : PileAt E s w B g o cur T v n cs) : v.ownBlock ≠ some g := by
  intro e
  rcases h.row.2 with ⟨rfl, _⟩ | ⟨b, cap, c, rfl, _, hh, _⟩
  · cases e
  · have : b = g := Option.some.inj e
    subst this
    rw [h.blk] at hh
    injection hh with hh
    injection hh with _ h2 _
    exact h.ne h2

theorem PileAt.below {E s w w' B g o cur T v n cs} (h : PileAt E s w B g o cur T v n cs) (hb : Below w.heap.size w w') : PileAt E s w' B g o cur T v n cs :=
  ⟨h.ge, (hb.block g h.lt).trans h.blk, h.at_, ownsRow_below h.row hb, h.ne⟩

theorem own_less {w : World} {B : Nat} {E : TypeId} {s b n m cap : Nat} {xs : List Value} (h : w.ownsRow B E s (.slice (some ⟨b, 0, none⟩) n cap) n xs) (hm : m ≤ n) : w.ownsRow B E s (.slice (some ⟨b, 0, none⟩) m cap) m (xs.take (m * s)) := by
  rcases h.2 with ⟨e, _⟩ | ⟨g, c, cur, e, h1, h2, h3, h4, h5, h6⟩
  · cases e
  · injection e with e1 e2 e3
    injection e1 with e1
    injection e1 with e1 _ _
    subst e1 e3
    have hms : m * s ≤ n * s := Nat.mul_le_mul_right _ hm
    refine ⟨by rw [List.length_take, h.1]; omega, .inr ⟨b, cap, cur, rfl, h1, h2, by omega, h4, h5, ?_⟩⟩
    rw [← h6, List.take_take]
    congr 1
    omega

/-- What is set in a block that the row does not lie in. -/
theorem own_set {w : World} {B : Nat} {E : TypeId} {s n : Nat} {v : Value} {xs : List Value} (h : w.ownsRow B E s v n xs) {g : Nat} (hg : v.ownBlock ≠ some g) (o : Nat) (u : Value) : (w.setCell ⟨g, o, none⟩ u).ownsRow B E s v n xs :=
  h.kept (Lib.grownBy_setCell w g o u) (.inr hg)

/-- The pile's slice set anew. -/
theorem PileAt.mk_set {E : TypeId} {s : Nat} {w : World} {B g o : Nat} {cur : Array Value} {T : TypeId} {v : Value} (hg : B ≤ g) (hb : w.heap[g]? = some (.cells cur T (0, 0))) (ha : cur[o]? = some v) (hT : T ≠ E) {u : Value} {m : Nat} {ds : List Value} (hu : w.ownsRow B E s u m ds) (hn : u.ownBlock ≠ some g) : PileAt E s (w.setCell ⟨g, o, none⟩ u) B g o (cur.setIfInBounds o u) T u m ds := by
  refine ⟨hg, heap_setCell_same w g o cur T u hb, ?_, own_set hu hn o u, hT⟩
  have : o < cur.size := (Array.getElem?_eq_some_iff.1 ha).1
  simp [this]

theorem PileAt.set {E s w B g o cur T v n cs} (h : PileAt E s w B g o cur T v n cs) {u : Value} {m : Nat} {ds : List Value} (hu : w.ownsRow B E s u m ds) (hg : u.ownBlock ≠ some g) : PileAt E s (w.setCell ⟨g, o, none⟩ u) B g o (cur.setIfInBounds o u) T u m ds :=
  PileAt.mk_set h.ge h.blk h.at_ h.ne hu hg

theorem PileAt.drew {E s w B g o cur T v n cs} (h : PileAt E s w B g o cur T v n cs) : PileAt E s w.drew B g o cur T v n cs := ⟨h.ge, h.blk, h.at_, h.row.drew, h.ne⟩

theorem KeepB.drew {p : Nat → Prop} {w w' : World} (h : KeepB p w w') : KeepB p w w'.drew := ⟨h.os, h.tape, h.output, h.size, h.block⟩

theorem PileAt.keep {E s w w' B g o cur T v n cs x} (h : PileAt E s w B g o cur T v n cs) (hk : KeepB (fun k => k = x) w w') (h1 : g ≠ x) (h2 : v.ownBlock ≠ some x) : PileAt E s w' B g o cur T v n cs :=
  ⟨h.ge, (hk.block g h.lt h1).trans h.blk, h.at_, h.row.kept (row := some x) ⟨hk.os, hk.tape, hk.output, hk.size, fun k hk1 hk2 => hk.block k hk1 (fun e => hk2 (by rw [e]))⟩ (.inr h2), h.ne⟩

def lenV : Value → Nat
  | .slice _ n _ => n
  | _ => 0

theorem own_len {w : World} {B : Nat} {E : TypeId} {s n : Nat} {v : Value} {xs : List Value} (h : w.ownsRow B E s v n xs) : ∃ a c, v = .slice a n c := by
  rcases h.2 with ⟨rfl, rfl⟩ | ⟨g, cap, cur, rfl, _⟩
  · exact ⟨none, 0, rfl⟩
  · exact ⟨_, _, rfl⟩

theorem own_pos {w : World} {B : Nat} {E : TypeId} {s n : Nat} {v : Value} {xs : List Value} (h : w.ownsRow B E s v n xs) (hn : 0 < n) : ∃ b c, v = .slice (some ⟨b, 0, none⟩) n c ∧ b < w.heap.size ∧ B ≤ b ∧ n ≤ c ∧ ∀ j, j < n * s → w.cell? ⟨b, j, none⟩ = xs[j]? := by
  rcases h.2 with ⟨rfl, rfl⟩ | ⟨g, cap, cur, rfl, hB, hh, hc, _, hs, ht⟩
  · omega
  · refine ⟨g, cap, rfl, lt_of_heap hh, hB, hc, fun j hj => ?_⟩
    rw [Lib.cell_of_heap hh, ← ht, List.getElem?_take, if_pos hj, Array.getElem?_toList]

/-- Numbers, the top first. -/
abbrev PileI (w : World) (B g o : Nat) (cur : Array Value) (T : TypeId) (v : Value) (L : List Nat) : Prop := PileAt 2 1 w B g o cur T v L.length (intC L.reverse)

theorem rev_last (x : Nat) (L : List Nat) : (intC (x :: L).reverse)[L.length]? = some (.int .i64 (x : Int)) := by
  rw [List.reverse_cons, intC_app, List.getElem?_append_right (by rw [intC_len, List.length_reverse]; exact Nat.le_refl _)]
  simp [intC]

theorem rev_take (x : Nat) (L : List Nat) : (intC (x :: L).reverse).take (L.length * 1) = intC L.reverse := by
  rw [List.reverse_cons, intC_app, List.take_left' (by rw [intC_len, List.length_reverse, Nat.mul_one])]

theorem PileAt.less {w : World} {B g o b c n : Nat} {cur : Array Value} {T : TypeId} {x : Nat} {L : List Nat} (h : PileI w B g o cur T (.slice (some ⟨b, 0, none⟩) (x :: L).length c) (x :: L)) (hn : L.length = n) :
    PileI (w.setCell ⟨g, o, none⟩ (.slice (some ⟨b, 0, none⟩) n c)) B g o (cur.setIfInBounds o (.slice (some ⟨b, 0, none⟩) n c)) T (.slice (some ⟨b, 0, none⟩) n c) L := by
  subst hn
  have h1 := own_less (m := L.length) h.row (by rw [List.length_cons]; omega)
  rw [rev_take] at h1
  exact h.set h1 h.own_ne

set_option maxHeartbeats 1000000 in
theorem cPiSize (B g o : Nat) (cur : Array Value) (T : TypeId) (v : Value) (L : List Nat) (w : World) (h : PileI w B g o cur T v L) :
    Calls Try.prog 45 #[.pointer (some ⟨g, o, none⟩)] w fun e w' => e = .returned (.int .i64 (L.length : Nat)) ∧ w' = w := by
  have c0 := h.cell
  obtain ⟨a, c, rfl⟩ := own_len h.row
  clear h
  generalize L.length = n at *
  go_enter Try.func45, Try.ntmps45
  go_wp2
  go_ret
  exact ⟨rfl, rfl⟩

set_option maxHeartbeats 1000000 in
theorem cPiTop0 (B g o : Nat) (cur : Array Value) (T : TypeId) (v : Value) (w : World) (h : PileI w B g o cur T v []) :
    Calls Try.prog 66 #[.pointer (some ⟨g, o, none⟩)] w fun e w' => e = .returned (.tuple #[.int .i64 0, .bool false]) ∧ Below w.heap.size w w' := by
  have c0 := h.cell
  obtain ⟨a, c, rfl⟩ := own_len h.row
  clear h
  go_enter Try.func66, Try.ntmps66
  go_wp2
  go_ret2
  exact ⟨rfl, Below.refl _ _⟩

set_option maxHeartbeats 1000000 in
theorem cPiTop (B g o : Nat) (cur : Array Value) (T : TypeId) (v : Value) (x : Nat) (L : List Nat) (w : World) (h : PileI w B g o cur T v (x :: L)) (hn : L.length ≤ 1048576) :
    Calls Try.prog 66 #[.pointer (some ⟨g, o, none⟩)] w fun e w' => e = .returned (.tuple #[.int .i64 (x : Int), .bool true]) ∧ Below w.heap.size w w' := by
  have c0 := h.cell
  obtain ⟨b, c, rfl, hb, _, hc, hcs⟩ := own_pos h.row (Nat.succ_pos _)
  have c1 := hcs L.length (by rw [List.length_cons]; omega)
  rw [rev_last] at c1
  clear h hcs
  rw [List.length_cons] at c0 hc
  obtain ⟨n, hnn⟩ : ∃ n, L.length = n := ⟨_, rfl⟩
  rw [hnn] at c0 c1 hn hc
  clear hnn
  have hq : ((n + 1 : Nat) : Int) = (n : Int) + 1 := by omega
  have hd : (((n : Int) + 1) == 0) = false := by simp; omega
  go_enter Try.func66, Try.ntmps66
  go_wp2_with fail
  go_quiet (fail)
  go_wp2_with fail
  go_ret2
  exact ⟨rfl, below_drewN (Below.refl _ _) _⟩

end Go.Proofs.Ytkejmifkjgpdjaa
