/- What the exact law of TokensOf asks of tokens: few, of few attrs. What grows from tokens (plain mathematics). Contract of Grown of the specification. -/
import Derived.Test.YtkcmagfbacmllaaM12
import Derived.Test.YtkcmagfbacmllaaM14
import Derived.Test.YtkcmagfbacmllaaM9
import Derived.Test.YtkcmagfbacmllaaM13
import Derived.Test.YtkcmagfbacmllaaM8
import Derived.Deep.RegionHeld3
namespace Go.Proofs.Ytkcmagfbacmllaa
open Go.RowKit
set_option linter.unusedVariables false

theorem toksT_len (ts : List Tk) : (toksT ts).length ≤ 100 := by
  unfold toksT
  split
  · rename_i h
    have ht := treeB_P h
    have h1 := ht.1
    have h2 := ht.2.1
    have h3 := tokN_len (ts := ts) ts.length 0 (by omega)
    have h4 := endN_le (ts := ts) (k := 0) (by omega)
    omega
  · exact Nat.zero_le _

theorem toksT_six (ts : List Tk) : ∀ t ∈ toksT ts, t.attrs.length ≤ 6 := by
  unfold toksT
  split
  · rename_i h
    exact tokN_six (tree_six (treeB_P h)) _ _
  · exact fun t ht => absurd ht List.not_mem_nil

theorem sumA_six {L : List Tk} (h : ∀ t ∈ L, t.attrs.length ≤ 6) : Tn.sumA L ≤ 6 * L.length := by
  unfold Tn.sumA
  induction L with
  | nil => simp
  | cons t L ih =>
    have := ih (fun x hx => h x (List.mem_cons_of_mem _ hx))
    have h2 := h t (List.mem_cons_self ..)
    simp only [List.map_cons, List.sum_cons, List.length_cons]
    omega

theorem sumA_tree {L : List Tk} (h : ∀ t ∈ L, t.attrs.length ≤ 6) : Nd.sumA L ≤ 6 * L.length := sumA_six h

/-- A row of tokens that grew, read. -/
theorem Tn.Row.rd {w : World} {B c : Nat} {a : Option Addr} {es : List Tn.E} {L : List Tk} (h : Tn.Row w B (.slice a es.length c) es) (hm : es.map (·.t) = L) : es.length = L.length ∧ TkRow w a L := by
  have hl : es.length = L.length := by rw [← hm, List.length_map]
  obtain ⟨a2, c2, e, ht⟩ := h.tkRow
  obtain ⟨rfl, rfl⟩ : a = a2 ∧ c = c2 := by cases e; exact ⟨rfl, rfl⟩
  rw [hm] at ht
  exact ⟨hl, ht⟩

theorem Nd.Row.rd {w : World} {B c : Nat} {a : Option Addr} {es : List Nd.E} {L : List Tk} (h : Nd.Row w B (.slice a es.length c) es) (hm : es.map (·.t) = L) : es.length = L.length ∧ TkRow w a L := by
  have hl : es.length = L.length := by rw [← hm, List.length_map]
  obtain ⟨a2, c2, e, ht⟩ := h.tkRow
  obtain ⟨rfl, rfl⟩ : a = a2 ∧ c = c2 := by cases e; exact ⟨rfl, rfl⟩
  rw [hm] at ht
  exact ⟨hl, ht⟩

/-- The blocks of a copy: from its own on, and there. -/
theorem Nd.Laid.has {ts : List Tk} {g : Nat} {G : Nat → Nat} {cur : Array Value} {w : World} (h : Nd.Laid ts g ts.length G cur w) (hh : w.heap[g]? = some (.cells cur 34 (0, 0))) : ∀ b, (Nd.shL g G ts).Has b → g ≤ b ∧ b < w.heap.size := by
  rintro b (rfl | ⟨j, hj, _, rfl⟩)
  · exact ⟨Nat.le_refl _, lt_of_heap hh⟩
  · obtain ⟨h1, cu, h2, _⟩ := h.row j hj hj
    have h3 := lt_of_heap h2
    exact ⟨by show g ≤ G j; omega, by show G j < w.heap.size; omega⟩

theorem Tn.Laid.has {ts : List Tk} {g : Nat} {G : Nat → Nat} {cur : Array Value} {w : World} (h : Tn.Laid ts g ts.length G cur w) (hh : w.heap[g]? = some (.cells cur 78 (0, 0))) : ∀ b, (Tn.shL g G ts).Has b → g ≤ b ∧ b < w.heap.size := by
  rintro b (rfl | ⟨j, hj, _, rfl⟩)
  · exact ⟨Nat.le_refl _, lt_of_heap hh⟩
  · obtain ⟨h1, cu, h2, _⟩ := h.row j hj hj
    have h3 := lt_of_heap h2
    exact ⟨by show g ≤ G j; omega, by show G j < w.heap.size; omega⟩

end Go.Proofs.Ytkcmagfbacmllaa

namespace Go.Proofs.Ytkcmagfbacmllaa
set_option linter.unusedVariables false

/-- What has grown so far: the nodes, the one that is open, whether the first is closed. -/
structure GSt where
  out : List Tk
  at_ : Int
  done : Bool

noncomputable def gStep (s : GSt) (k : Tk) : Option GSt :=
  if tokB k = false ∨ s.done = true then none
  else if k.kind = 1 then some ⟨s.out ++ [⟨s.at_, k.name, k.attrs, ⟨#[]⟩⟩], (s.out.length : Int), false⟩
  else if k.kind = 3 then some ⟨s.out ++ [⟨s.at_, ⟨#[]⟩, [], k.text⟩], s.at_, false⟩
  else if s.at_ < 0 ∨ ¬ (nodeAt s.out s.at_.toNat).name = k.name then none
  else some ⟨s.out, parI s.out s.at_.toNat, decide (s.at_ = 0)⟩

noncomputable def gRun : List Tk → GSt → Option GSt
  | [], s => some s
  | k :: l, s => (gStep s k).bind (gRun l)

/-- The tree that grows from these tokens. -/
noncomputable def grownT (l : List Tk) : Option (List Tk) :=
  match gRun l ⟨[], -1, false⟩ with
  | none => none
  | some s => if s.done = true ∧ treeB s.out = true then some s.out else none

/-- Parents stand ahead, and the open one is there. -/
structure GInv (s : GSt) : Prop where
  lo : -1 ≤ s.at_
  hi : s.at_ < s.out.length
  par : ∀ j (h : j < s.out.length), -1 ≤ s.out[j].kind ∧ s.out[j].kind < j

theorem GInv.start : GInv ⟨[], -1, false⟩ := ⟨by show (-1 : Int) ≤ -1; omega, by show (-1 : Int) < 0; omega, fun j h => absurd h (Nat.not_lt_zero _)⟩

theorem GInv.snoc {s : GSt} (h : GInv s) (t : Tk) (ht : t.kind = s.at_) (a : Int) (d : Bool) (h1 : -1 ≤ a) (h2 : a < s.out.length + 1) : GInv ⟨s.out ++ [t], a, d⟩ := by
  refine ⟨h1, by show a < ((s.out ++ [t]).length : Int); rw [List.length_append]; simpa using h2, fun j hj => ?_⟩
  have hj : j < (s.out ++ [t]).length := hj
  show -1 ≤ (s.out ++ [t])[j].kind ∧ (s.out ++ [t])[j].kind < j
  rw [List.length_append, List.length_singleton] at hj
  rcases Nat.lt_or_ge j s.out.length with h' | h'
  · rw [List.getElem_append_left h']
    exact h.par j h'
  · have e : j = s.out.length := by omega
    subst e
    rw [List.getElem_append_right (Nat.le_refl _)]
    simp only [Nat.sub_self, List.getElem_singleton]
    rw [ht]
    exact ⟨h.lo, h.hi⟩

theorem GInv.up {s : GSt} (h : GInv s) (h0 : ¬ s.at_ < 0) (d : Bool) : GInv ⟨s.out, parI s.out s.at_.toNat, d⟩ := by
  have hk : s.at_.toNat < s.out.length := by have := h.hi; omega
  have := h.par _ hk
  refine ⟨?_, ?_, h.par⟩
  · show -1 ≤ parI s.out s.at_.toNat
    rw [parI_at hk]
    exact this.1
  · show parI s.out s.at_.toNat < s.out.length
    rw [parI_at hk]
    omega

theorem gRun_bad {l : List Tk} {s : GSt} {k : Tk} (h : gStep s k = none) : gRun (k :: l) s = none := by
  show (gStep s k).bind (gRun l) = none
  rw [h]
  rfl

theorem gRun_step {l : List Tk} {s s' : GSt} {k : Tk} (h : gStep s k = some s') : gRun (k :: l) s = gRun l s' := by
  show (gStep s k).bind (gRun l) = _
  rw [h]
  rfl

theorem gStep_one {s : GSt} {k : Tk} (h1 : tokB k = true) (h2 : s.done = false) (h3 : k.kind = 1) : gStep s k = some ⟨s.out ++ [⟨s.at_, k.name, k.attrs, ⟨#[]⟩⟩], (s.out.length : Int), false⟩ := by
  unfold gStep
  rw [if_neg (by rw [h1, h2]; simp), if_pos h3]

theorem gStep_three {s : GSt} {k : Tk} (h1 : tokB k = true) (h2 : s.done = false) (h3 : k.kind = 3) : gStep s k = some ⟨s.out ++ [⟨s.at_, ⟨#[]⟩, [], k.text⟩], s.at_, false⟩ := by
  unfold gStep
  rw [if_neg (by rw [h1, h2]; simp), if_neg (by omega), if_pos h3]

theorem gStep_two {s : GSt} {k : Tk} (h1 : tokB k = true) (h2 : s.done = false) (h3 : k.kind = 2) (h4 : ¬ s.at_ < 0) (h5 : (nodeAt s.out s.at_.toNat).name = k.name) : gStep s k = some ⟨s.out, parI s.out s.at_.toNat, decide (s.at_ = 0)⟩ := by
  unfold gStep
  rw [if_neg (by rw [h1, h2]; simp), if_neg (by omega), if_neg (by omega), if_neg (by rintro (h | h) <;> contradiction)]

theorem gStep_no {s : GSt} {k : Tk} (h : tokB k = false ∨ s.done = true) : gStep s k = none := by
  unfold gStep
  exact if_pos h

theorem gStep_no2 {s : GSt} {k : Tk} (h3 : k.kind = 2) (h : s.at_ < 0 ∨ ¬ (nodeAt s.out s.at_.toNat).name = k.name) : gStep s k = none := by
  unfold gStep
  by_cases q : tokB k = false ∨ s.done = true
  · exact if_pos q
  · rw [if_neg q, if_neg (by omega), if_neg (by omega), if_pos h]

theorem grownT_none {l : List Tk} (h : gRun l ⟨[], -1, false⟩ = none) : grownT l = none := by unfold grownT; rw [h]

theorem grownT_end {l : List Tk} {s : GSt} (h : gRun l ⟨[], -1, false⟩ = some s) : grownT l = if s.done = true ∧ treeB s.out = true then some s.out else none := by unfold grownT; rw [h]

end Go.Proofs.Ytkcmagfbacmllaa

namespace Go.Proofs.Ytkcmagfbacmllaa
open Go.RowKit
set_option linter.unusedVariables false
set_option linter.unusedSimpArgs false

theorem tokB_kindS {t : Tk} (h : tokB t = true) : t.kind = 1 ∨ t.kind = 2 ∨ t.kind = 3 := by
  unfold tokB at h
  split at h
  · exact .inl (by assumption)
  · split at h
    · exact .inr (.inl (by assumption))
    · split at h
      · exact .inr (.inr (by assumption))
      · cases h

/-- What the loop of Grown knows. -/
structure GrowSt (l : List Tk) (w : World) (i : Nat) (wr : World) (v : Value) (s : GSt) (es : List Nd.E) : Prop where
  val : gRun (l.drop i) s = gRun l ⟨[], -1, false⟩
  row : Nd.Row wr w.heap.size v es
  map : es.map (·.t) = s.out
  inv : GInv s
  cnt : es.length ≤ i
  bel : Below w.heap.size w wr
  sz : TksSz 1048576 s.out

theorem TksSz.snoc {l : List Tk} {t : Tk} (h : TksSz 1048576 l) (ht : TkSz 1048576 t) : TksSz 1048576 (l ++ [t]) := by
  intro x hx
  rcases List.mem_append.1 hx with h' | h'
  · exact h x h'
  · rw [List.mem_singleton] at h'
    subst h'
    exact ht

/-- The contract's end, where nothing grows. -/
def GrowPost (l : List Tk) (w : World) (e : Ending) (w' : World) : Prop :=
  ∃ a c, e = .returned (.tuple #[.slice a ((grownT l).getD []).length c, .bool (grownT l).isSome]) ∧ TkRow w' a ((grownT l).getD []) ∧ Below w.heap.size w w'

theorem GrowPost.no {l : List Tk} {w w' : World} {a : Option Addr} {c : Nat} (h : grownT l = none) (hb : Below w.heap.size w w') : GrowPost l w (.returned (.tuple #[.slice a 0 c, .bool false])) w' :=
  ⟨a, c, by rw [h]; rfl, by rw [h]; exact fun j hj => absurd hj (Nat.not_lt_zero _), hb⟩

theorem GrowPost.yes {l ts : List Tk} {w w' : World} {a : Option Addr} {n c : Nat} (h : grownT l = some ts) (hn : n = ts.length) (hr : TkRow w' a ts) (hb : Below w.heap.size w w') : GrowPost l w (.returned (.tuple #[.slice a n c, .bool true])) w' :=
  ⟨a, c, by rw [h, hn]; rfl, by rw [h]; exact hr, hb⟩

set_option maxRecDepth 8000 in
set_option maxHeartbeats 8000000 in
theorem cGrownS (a : Option Addr) (cap : Nat) (l : List Tk) (w : World) (hR : TkRow w a l) (hn : l.length ≤ 1048576) (hz : TksSz 1048576 l) :
    Calls Try.prog 23 #[.slice a l.length cap] w (GrowPost l w) := by
  have HR := hid hR
  have HZ := hid hz
  have M0 := hid (heap_alloc_new w (.cells #[] 34))
  have HB0 := hid (((Below.refl w.heap.size w).alloc (Nat.le_refl _) (.cells #[] 34)).alloc (by simp) (.cells #[] 34))
  have M1 := hid (blk_alloc M0.out (.cells #[] 34))
  clear hR hz M0
  obtain ⟨n, hnn⟩ : ∃ n, l.length = n := ⟨_, rfl⟩
  have HN := hid hnn
  rw [hnn] at hn ⊢
  clear hnn
  go_enter Try.func23, Try.ntmps23
  go_wp2_with fail
  go_loopw [4, 6, 7, 8] (fun v x d y wr => ∃ (i : Nat) (s : GSt) (es : List Nd.E) (a' : Option Addr) (c' : Nat), y = .int .i64 (i : Int) ∧ i ≤ n ∧ x = .int .i64 s.at_ ∧ d = .bool s.done ∧ Hid (v = .slice a' es.length c') ∧ Hid (GrowSt l w i wr (.slice a' es.length c') s es)) (fun _ _ _ y _ => n - (intOf y).toNat)
  case atStart => exact ⟨0, ⟨[], -1, false⟩, [], _, _, rfl, Nat.zero_le _, rfl, rfl, hid rfl, ⟨rfl, Nd.Row.start _ _ _ (Nat.le_refl _) M1.out, rfl, GInv.start, Nat.le_refl _, HB0.out, fun t ht => absurd ht List.not_mem_nil⟩⟩
  case round =>
    clear M1 HB0
    obtain ⟨i, ⟨out, at_, done⟩, es, a', c', rfl, hi, rfl, rfl, HV, ST⟩ := hrel
    have hv := HV.out
    subst hv
    clear HV
    simp only
    have hcnt := ST.out.cnt
    have hlo := ST.out.inv.lo
    have hhi := ST.out.inv.hi
    simp only at hlo hhi
    have hol : es.length = out.length := by have := congrArg List.length ST.out.map; rw [List.length_map] at this; exact this
    have hwB := ST.out.bel.size
    by_cases hlt : i < n
    case neg =>
      have hie : i = n := by omega
      have hg := ST.out.val
      rw [show l.drop i = [] from List.drop_of_length_le (by rw [HN.out, hie]; exact Nat.le_refl _)] at hg
      have HG := hid (grownT_end hg.symm)
      simp only at HG
      obtain ⟨a2, c2, e2, htk⟩ := ST.out.row.tkRow
      obtain ⟨rfl, rfl⟩ : a' = a2 ∧ c' = c2 := by cases e2; exact ⟨rfl, rfl⟩
      rw [ST.out.map] at htk
      simp only at htk
      have HTK := hid htk
      have CT := hid (cTreeOkS a' c' out wr htk (by omega) ST.out.sz)
      rw [hol]
      have HBL := hid ST.out.bel
      clear hg e2 htk hlt
      subst hie
      cases done
      · have HW := hid (show grownT l = none by rw [HG.out]; exact if_neg (fun h => by cases h.1))
        clear CT
        go_wp2_with fail
        go_ret2
        exact GrowPost.no HW.out HBL.out
      · cases q : treeB out
        · have HW := hid (show grownT l = none by rw [HG.out]; exact if_neg (fun h => by rw [q] at h; cases h.2))
          rw [q] at CT
          go_wp2_with fail
          refine CT.out.mono ?_
          rintro e w1 ⟨rfl, hb1⟩
          have HB1 := hid (bb HBL.out hb1)
          clear hb1 CT
          go_wp2_with fail
          go_ret2
          exact GrowPost.no HW.out HB1.out
        · have HW := hid (show grownT l = some out by rw [HG.out]; exact if_pos ⟨rfl, q⟩)
          rw [q] at CT
          go_wp2_with fail
          refine CT.out.mono ?_
          rintro e w1 ⟨rfl, hb1⟩
          have HB1 := hid (bb HBL.out hb1)
          have HT1 := hid (HTK.out.below hb1)
          clear hb1 CT
          go_wp2_with fail
          go_ret2
          exact GrowPost.yes HW.out rfl HT1.out HB1.out
    have HOL := hid hol
    clear hol
    have his : i < l.length := by rw [HN.out]; exact hlt
    have hin : (i : Int) < (n : Int) := by omega
    have HD := hid (show l.drop i = l[i] :: l.drop (i + 1) from List.drop_eq_getElem_cons his)
    obtain ⟨b, o, aa, ca, rfl, hb, c0, c1, c2, c3, cr⟩ := (HR.out.below ST.out.bel) i his
    have hzt := HZ.out _ (List.getElem_mem his)
    obtain ⟨t, ht⟩ : ∃ t, l[i] = t := ⟨_, rfl⟩
    rw [ht] at c0 c1 c2 c3 cr hzt HD
    clear ht
    have HZT := hid hzt
    obtain ⟨tk, tn, tl, tx⟩ := t
    simp only at c0 c1 c2 c3 cr
    have M9 := hid (heap_alloc_new wr (.cells #[.int .i64 tk, .string tn, .slice aa tl.length ca, .string tx] 78))
    have HL9 := hid ((Below.refl wr.heap.size wr).alloc (Nat.le_refl _) (.cells #[.int .i64 tk, .string tn, .slice aa tl.length ca, .string tx] 78))
    have CR := hid (cr.below HL9.out)
    have CO := hid (fun wx (h : AtRow wx aa tl) => cTokenOkS ⟨tk, tn, tl, tx⟩ aa ca wx h hzt)
    simp only [tkV] at CO
    have HB9 := hid (bb ST.out.bel HL9.out)
    obtain ⟨m, hm⟩ : ∃ m, tl.length = m := ⟨_, rfl⟩
    have HM := hid hm
    rw [hm] at c2 M9 HL9 CR CO HB9
    have HBAD : Hid (gStep ⟨out, at_, done⟩ ⟨tk, tn, tl, tx⟩ = none → grownT l = none) := fun h => grownT_none (by
      have := ST.out.val
      rw [HD.out, gRun_bad h] at this
      exact this.symm)
    have HGO : Hid (∀ s', gStep ⟨out, at_, done⟩ ⟨tk, tn, tl, tx⟩ = some s' → gRun (l.drop (i + 1)) s' = gRun l ⟨[], -1, false⟩) := fun s' h => by
      have := ST.out.val
      rw [HD.out, gRun_step h] at this
      exact this
    clear cr hzt hm
    cases qt : tokB ⟨tk, tn, tl, tx⟩
    · have HW := hid (HBAD.out (gStep_no (.inl qt)))
      rw [qt] at CO
      go_wp2_with fail
      refine (CO.out _ CR.out).mono ?_
      rintro e w1 ⟨rfl, hb1⟩
      have HB1 := hid (bb HB9.out hb1)
      clear hb1 c0 c1 c2 c3
      go_wp2_with fail
      go_ret2
      exact GrowPost.no HW.out HB1.out
    · rw [qt] at CO
      cases done
      case true =>
        have HW := hid (HBAD.out (gStep_no (.inr rfl)))
        go_wp2_with fail
        refine (CO.out _ CR.out).mono ?_
        rintro e w1 ⟨rfl, hb1⟩
        have HB1 := hid (bb HB9.out hb1)
        clear hb1 c0 c1 c2 c3
        go_wp2_with fail
        go_ret2
        exact GrowPost.no HW.out HB1.out
      case false =>
        have hk := tokB_kindS qt
        simp only at hk
        rcases hk with rfl | rfl | rfl
        · have HGO1 := hid (HGO.out _ (gStep_one qt rfl rfl))
          simp only at HGO1
          have HINV := hid (ST.out.inv.snoc ⟨at_, tn, tl, ⟨#[]⟩⟩ rfl (out.length : Int) false (by omega) (by show (out.length : Int) < (out.length : Int) + 1; omega))
          have HSZ := hid (ST.out.sz.snoc (t := ⟨at_, tn, tl, ⟨#[]⟩⟩) ⟨HZT.out.1, HZT.out.2.1, HZT.out.2.2.1, Nat.zero_le _⟩)
          have CC := hid (fun wx (h : AtRow wx aa tl) => cCopyS aa ca tl wx h HZT.out.2.1)
          rw [HM.out] at CC
          go_wp2_with fail
          refine (CO.out _ CR.out).mono ?_
          rintro e w1 ⟨rfl, hb1⟩
          have HB1 := hid (bb HB9.out hb1)
          have M1 := hid (blk_below M9.out hb1)
          have CR1 := hid (CR.out.below hb1)
          have HR1 := hid ((ST.out.row.below HL9.out).below hb1)
          have hg9 : wr.heap.size < w1.heap.size := lt_of_heap M1.out
          have hob : ∀ g, (Value.slice a' es.length c').ownBlock = some g → g < wr.heap.size := fun g hg => (ST.out.row.own.lt g hg).2
          have HOB := hid hob
          obtain ⟨⟨x0, x1, x2, x3⟩, _⟩ := box4 M1.out
          clear hb1 c0 c1 c2 c3 CO M9 HL9 CR HB9 hob
          have HK := hid (And.intro x1 x2)
          have HBc := hid ((Below.refl w1.heap.size w1).drew)
          have hg9' := hid hg9
          go_wp2_with fail
          go_region_held3 (fun w' => w'.cell? ⟨wr.heap.size, 1, none⟩ = some (.string tn) ∧ w'.cell? ⟨wr.heap.size, 2, none⟩ = some (.slice aa m ca)) (first | exact HKE.out | exact ⟨(HBc.out.cell (p := ⟨wr.heap.size, 1, none⟩) hg9'.out).trans HK.out.1, (HBc.out.cell (p := ⟨wr.heap.size, 2, none⟩) hg9'.out).trans HK.out.2⟩ | go_keep)
            (first
              | (go_at_call 61; refine (CC.out _ (CR1.out.below HBc.out)).mono ?_; rintro e w2 ⟨a1, cc1, rfl, ha1, hb2⟩; have HA1 := hid (show OwnAts w2 w1.heap.size a1 tl from ha1); replace HBc := hid (bb HBc.out hb2); clear hb2 ha1)
              | (have M5 := heap_alloc_new w2 (.cells #[.int .i64 at_, .string tn, .slice a1 m cc1, .string ⟨#[]⟩] 34); have HL5 := hid ((Below.refl w2.heap.size w2).alloc (Nat.le_refl _) (.cells #[.int .i64 at_, .string tn, .slice a1 m cc1, .string ⟨#[]⟩] 34)); rw [← HM.out] at M5; have HO5 := Nd.Row.one (B := w1.heap.size) (e := ⟨⟨at_, tn, tl, ⟨#[]⟩⟩, a1, cc1⟩) HBc.out.size M5 (by rw [HM.out]; exact HA1.out.below HL5.out) (fun g o h e => by obtain ⟨g', o', cu, e', _, hh, _⟩ := HA1.out h; simp only at e; rw [e] at e'; cases e'; have := lt_of_heap hh; omega); rw [HM.out] at HO5; have HR5 := hid ((HR1.out.below HBc.out).below HL5.out); have HAL := hid (HR1.out.apart_later HO5 (Nat.le_refl _)); obtain ⟨g5, hg5, hone, hcell⟩ := HO5.cells (by simp); cases hg5; clear hone; refine Nd.step_join rfl _ _ rfl w.heap.size _ es [⟨⟨at_, tn, tl, ⟨#[]⟩⟩, a1, cc1⟩] rfl HR5.out w2.heap.size 1 1 rfl rfl hcell (fun x hx => ⟨((HO5.mono HB1.out.size).ats x hx).1, HAL.out.2 x hx⟩) HO5.apart HAL.out.1 (by simp; omega) (by have := HBc.out.size; have := HB1.out.size; simp; omega) ?_; intro a5 c5 w5 hr5 hb5 hg5; have HR6 := hid hr5; have HB6 := hid ((bb (bb HB1.out HBc.out) HL5.out).trans hb5); have HKE := hid (show w5.cell? ⟨wr.heap.size, 1, none⟩ = some (.string tn) ∧ w5.cell? ⟨wr.heap.size, 2, none⟩ = some (.slice aa m ca) from (box4 ((hg5.block wr.heap.size (by have := HBc.out.size; have := hg9'.out; simp; omega) (fun x => by have := HOB.out _ x.symm; omega)).trans (blk_below (blk_below M1.out HBc.out) HL5.out))).1.2.imp id (fun x => x.1)); clear hr5 hb5 hg5 hcell HO5 M5))
          have HMP := hid (show (es ++ [(⟨⟨at_, tn, tl, ⟨#[]⟩⟩, a1, cc1⟩ : Nd.E)]).map (·.t) = out ++ [⟨at_, tn, tl, ⟨#[]⟩⟩] by rw [List.map_append, ST.out.map]; rfl)
          have hl5 : (es ++ [(⟨⟨at_, tn, tl, ⟨#[]⟩⟩, a1, cc1⟩ : Nd.E)]).length = es.length + 1 := by simp
          have HL5 := hid hl5
          clear hl5 x0 x1 x2 x3 HK HBc
          go_wp2_with fail
          go_roundw
          case rel => exact ⟨i + 1, ⟨out ++ [⟨at_, tn, tl, ⟨#[]⟩⟩], (out.length : Int), false⟩, es ++ [⟨⟨at_, tn, tl, ⟨#[]⟩⟩, a1, cc1⟩], a5, c5, by go_num, by omega, by rw [← HOL.out], rfl, hid (by rw [HL5.out]), ⟨HGO1.out, HR6.out, HMP.out, HINV.out, by rw [HL5.out]; omega, HB6.out, HSZ.out⟩⟩
          case measure => simp [intOf]; omega
        · by_cases ha0 : at_ < 0
          · have HW := hid (HBAD.out (gStep_no2 rfl (.inl ha0)))
            have hd1 : decide (at_ < 0) = true := decide_eq_true ha0
            clear ha0
            go_wp2_with fail
            refine (CO.out _ CR.out).mono ?_
            rintro e w1 ⟨rfl, hb1⟩
            have HB1 := hid (bb HB9.out hb1)
            have M1 := hid (blk_below M9.out hb1)
            obtain ⟨⟨x0, x1, x2, x3⟩, _⟩ := box4 M1.out
            clear hb1 c0 c1 c2 c3
            go_wp2_with fail
            go_quiet (fail)
            go_wp2_with fail
            go_ret2
            exact GrowPost.no HW.out (below_drewN HB1.out _)
          · obtain ⟨q, rfl⟩ : ∃ q : Nat, at_ = q := ⟨at_.toNat, by omega⟩
            have hqo : q < out.length := by omega
            have hqe : (q : Int) < (es.length : Int) := by have := HOL.out; omega
            have hd1 : decide ((q : Int) < 0) = false := decide_eq_false (by omega)
            have HNA := hid (nodeAt_at hqo)
            have zq := (ST.out.sz _ (List.getElem_mem hqo)).1
            have zn := HZT.out.1
            simp only at zq zn
            have CO2 := hid (CO.out _ CR.out)
            obtain ⟨a2, c2', e2, htk⟩ := ST.out.row.tkRow
            obtain ⟨rfl, rfl⟩ : a' = a2 ∧ c' = c2' := by cases e2; exact ⟨rfl, rfl⟩
            rw [ST.out.map] at htk
            simp only at htk
            have HTK := hid (htk.below HL9.out)
            clear e2 htk CO ha0 hlo hhi
            by_cases hq : out[q].name = tn
            · have HGO1 := hid (HGO.out _ (gStep_two qt rfl rfl (by show ¬ (q : Int) < 0; omega) (by show (nodeAt out ((q : Int)).toNat).name = tn; rw [Int.toNat_natCast, nodeAt_at hqo]; exact hq)))
              simp only [Int.toNat_natCast] at HGO1
              have HINV := hid (ST.out.inv.up (by show ¬ (q : Int) < 0; omega) (decide ((q : Int) = 0)))
              simp only [Int.toNat_natCast] at HINV
              have hd2 : (out[q].name.toList == tn.toList) = true := by rw [str_beq]; exact decide_eq_true hq
              clear hq
              go_wp2_with fail
              refine CO2.out.mono ?_
              rintro e w1 ⟨rfl, hb1⟩
              have HB1 := hid (bb HB9.out hb1)
              have HR1 := hid ((ST.out.row.below HL9.out).below hb1)
              have M1 := hid (blk_below M9.out hb1)
              obtain ⟨⟨x0, x1, x2, x3⟩, _⟩ := box4 M1.out
              obtain ⟨b2, o2, rfl, y0, y1⟩ := (HTK.out.below hb1).kindAt q hqo
              clear hb1 c0 c1 c2 c3
              generalize out[q].name = nm at *
              obtain ⟨P, hP⟩ : ∃ P, parI out q = P := ⟨_, rfl⟩
              have HP := hid hP
              rw [hP] at y0
              clear hP
              have hde : ((q : Int) == 0) = decide ((q : Int) = 0) := rfl
              have HDE := hid hde
              clear hde
              go_wp2_with fail
              go_quiet (fail)
              go_wp2_with fail
              go_roundw
              case rel => exact ⟨i + 1, ⟨out, parI out q, decide ((q : Int) = 0)⟩, es, _, c', by go_num, by omega, by rw [HP.out], congrArg Value.bool HDE.out, hid rfl, ⟨HGO1.out, HR1.out.below (below_drewN (Below.refl _ _) _), ST.out.map, HINV.out, by omega, below_drewN HB1.out _, ST.out.sz⟩⟩
              case measure => simp [intOf]; omega
            · have HW := hid (HBAD.out (gStep_no2 rfl (.inr (by show ¬ (nodeAt out ((q : Int)).toNat).name = tn; rw [Int.toNat_natCast, nodeAt_at hqo]; exact hq))))
              have hd2 : (out[q].name.toList == tn.toList) = false := by rw [str_beq]; exact decide_eq_false hq
              clear hq
              go_wp2_with fail
              refine CO2.out.mono ?_
              rintro e w1 ⟨rfl, hb1⟩
              have HB1 := hid (bb HB9.out hb1)
              have M1 := hid (blk_below M9.out hb1)
              obtain ⟨⟨x0, x1, x2, x3⟩, _⟩ := box4 M1.out
              obtain ⟨b2, o2, rfl, y0, y1⟩ := (HTK.out.below hb1).kindAt q hqo
              clear hb1 c0 c1 c2 c3
              generalize out[q].name = nm at *
              go_wp2_with fail
              go_quiet (fail)
              go_wp2_with fail
              go_ret2
              exact GrowPost.no HW.out (below_drewN HB1.out _)
        · have HGO1 := hid (HGO.out _ (gStep_three qt rfl rfl))
          simp only at HGO1
          have HINV := hid (ST.out.inv.snoc ⟨at_, ⟨#[]⟩, [], tx⟩ rfl at_ false hlo (by show at_ < (out.length : Int) + 1; omega))
          have HSZ := hid (ST.out.sz.snoc (t := ⟨at_, ⟨#[]⟩, [], tx⟩) ⟨Nat.zero_le _, Nat.zero_le _, fun x hx => absurd hx List.not_mem_nil, HZT.out.2.2.2⟩)
          go_wp2_with fail
          refine (CO.out _ CR.out).mono ?_
          rintro e w1 ⟨rfl, hb1⟩
          have HB1 := hid (bb HB9.out hb1)
          have M1 := hid (blk_below M9.out hb1)
          have HR1 := hid ((ST.out.row.below HL9.out).below hb1)
          obtain ⟨⟨x0, x1, x2, x3⟩, _⟩ := box4 M1.out
          clear hb1 c0 c1 c2 c3 CO M9 HL9 CR HB9
          have M5 := hid (heap_alloc_new w1 (.cells #[.int .i64 at_, .string ⟨#[]⟩, .slice none 0 0, .string tx] 34))
          have HL5 := hid ((Below.refl w1.heap.size w1).alloc (Nat.le_refl _) (.cells #[.int .i64 at_, .string ⟨#[]⟩, .slice none 0 0, .string tx] 34))
          have HR5 := hid (HR1.out.below HL5.out)
          have HO5 := hid (Nd.Row.one (B := w1.heap.size) (e := ⟨⟨at_, ⟨#[]⟩, [], tx⟩, none, 0⟩) (Nat.le_refl w1.heap.size) M5.out (fun h => absurd h (Nat.not_lt_zero _)) (fun g o h => absurd h (Nat.not_lt_zero _)))
          obtain ⟨g5, hg5, hone, hcell⟩ := HO5.out.cells (by simp)
          cases hg5
          clear hone
          have HCL := hid hcell
          have HMP := hid (show (es ++ [(⟨⟨at_, ⟨#[]⟩, [], tx⟩, none, 0⟩ : Nd.E)]).map (·.t) = out ++ [⟨at_, ⟨#[]⟩, [], tx⟩] by rw [List.map_append, ST.out.map]; rfl)
          have hl5 : (es ++ [(⟨⟨at_, ⟨#[]⟩, [], tx⟩, none, 0⟩ : Nd.E)]).length = es.length + 1 := by simp
          have HLE := hid hl5
          have hwB1 := HB1.out.size
          clear hcell hl5
          go_wp2_with (at_builtin; refine Nd.wpL_join _ rfl _ _ rfl w.heap.size _ es [⟨⟨at_, ⟨#[]⟩, [], tx⟩, none, 0⟩] rfl HR5.out w1.heap.size 1 1 rfl rfl HCL.out (fun x hx => ?d1) (List.pairwise_singleton _ _) (fun e he x hx => ?d2) ?d3 ?d4 ?_)
          case d1 =>
            rw [List.mem_singleton] at hx
            subst hx
            exact ⟨fun h => absurd h (Nat.not_lt_zero _), fun g o h => absurd h (Nat.not_lt_zero _)⟩
          case d2 =>
            rw [List.mem_singleton] at hx
            subst hx
            exact fun _ h => absurd h (Nat.not_lt_zero _)
          case d3 => simp; omega
          case d4 => simp; omega
          intro a5 c5 w5 hr5 hb5 _
          have HR6 := hid hr5
          have HB6 := hid ((bb HB1.out HL5.out).trans hb5)
          clear hr5 hb5 x0 x1 x2 x3
          go_wp2_with fail
          go_roundw
          case rel => exact ⟨i + 1, ⟨out ++ [⟨at_, ⟨#[]⟩, [], tx⟩], at_, false⟩, es ++ [⟨⟨at_, ⟨#[]⟩, [], tx⟩, none, 0⟩], a5, c5, by go_num, by omega, rfl, rfl, hid (by rw [HLE.out]), ⟨HGO1.out, by rw [HLE.out]; exact HR6.out, HMP.out, HINV.out, by rw [HLE.out]; omega, HB6.out, HSZ.out⟩⟩
          case measure => simp [intOf]; omega

end Go.Proofs.Ytkcmagfbacmllaa
