/- What grows by a pile, left to TreeOk, is what grows (plain mathematics). Contract of the size of the pile of open elements. Contracts of the grower: parent and ends. -/
import Derived.Test.YtkcmagfbacmllaaM21
import Derived.Test.YtkcmagfbacmllaaM17
import Derived.Test.YtkcmagfbacmllaaM13
namespace Go.Proofs.Ytkcmagfbacmllaa
set_option linter.unusedVariables false

/-- The nodes so far, and what is open. -/
structure ISt where
  out : List Tk
  op : List (Nat × ByteArray)

def parE : List (Nat × ByteArray) → Int
  | [] => -1
  | x :: _ => (x.1 : Int)

/-- One token. -/
noncomputable def iStep (s : ISt) (k : Tk) : Option ISt :=
  open Classical in
  if tokB k = false then none
  else if k.kind = 2 then (match s.op with | [] => none | x :: r => if x.2 = k.name then some ⟨s.out, r⟩ else none)
  else some ⟨s.out ++ [⟨parE s.op, k.name, k.attrs, k.text⟩], if k.kind = 1 then (s.out.length, k.name) :: s.op else s.op⟩

noncomputable def iRun : List Tk → ISt → Option ISt
  | [], s => some s
  | k :: l, s => (iStep s k).bind (iRun l)

theorem iRun_bad {l : List Tk} {s : ISt} {k : Tk} (h : iStep s k = none) : iRun (k :: l) s = none := by
  show (iStep s k).bind (iRun l) = none
  rw [h]
  rfl

theorem iRun_step {l : List Tk} {s s' : ISt} {k : Tk} (h : iStep s k = some s') : iRun (k :: l) s = iRun l s' := by
  show (iStep s k).bind (iRun l) = _
  rw [h]
  rfl

theorem iRun_cases {l : List Tk} {k : Tk} {s s1 : ISt} (h : iRun (k :: l) s = some s1) : ∃ s2, iStep s k = some s2 ∧ iRun l s2 = some s1 := by
  cases e : iStep s k with
  | none => rw [iRun_bad e] at h; cases h
  | some s2 => exact ⟨s2, rfl, by rw [iRun_step e] at h; exact h⟩

theorem iStep_no {s : ISt} {k : Tk} (h : tokB k = false) : iStep s k = none := by unfold iStep; exact if_pos h

theorem iStep_new {s : ISt} {k : Tk} (h : tokB k = true) (h2 : ¬ k.kind = 2) : iStep s k = some ⟨s.out ++ [⟨parE s.op, k.name, k.attrs, k.text⟩], if k.kind = 1 then (s.out.length, k.name) :: s.op else s.op⟩ := by
  unfold iStep
  rw [if_neg (by rw [h]; decide), if_neg h2]

theorem iStep_end0 {s : ISt} {k : Tk} (h2 : k.kind = 2) (ho : s.op = []) : iStep s k = none := by
  unfold iStep
  by_cases q : tokB k = false
  · exact if_pos q
  · rw [if_neg q, if_pos h2, ho]

theorem iStep_end {s : ISt} {k : Tk} {x : Nat × ByteArray} {r : List (Nat × ByteArray)} (h : tokB k = true) (h2 : k.kind = 2) (ho : s.op = x :: r) (hx : x.2 = k.name) : iStep s k = some ⟨s.out, r⟩ := by
  unfold iStep
  rw [if_neg (by rw [h]; decide), if_pos h2, ho]
  exact if_pos hx

theorem iStep_end2 {s : ISt} {k : Tk} {x : Nat × ByteArray} {r : List (Nat × ByteArray)} (h2 : k.kind = 2) (ho : s.op = x :: r) (hx : ¬ x.2 = k.name) : iStep s k = none := by
  unfold iStep
  by_cases q : tokB k = false
  · exact if_pos q
  · rw [if_neg q, if_pos h2, ho]
    exact if_neg hx

/-- What is open, one around the other. -/
def OpenOk (out : List Tk) : Int → List (Nat × ByteArray) → Prop
  | a, [] => a = -1
  | a, x :: r => a = (x.1 : Int) ∧ x.1 < out.length ∧ x.2 = (nodeAt out x.1).name ∧ OpenOk out (parI out x.1) r

theorem OpenOk.par {out : List Tk} {a : Int} {op : List (Nat × ByteArray)} (h : OpenOk out a op) : parE op = a := by
  cases op with
  | nil => exact h.symm
  | cons x r => exact h.1.symm

theorem par_app {out u : List Tk} {x : Nat} (h : x < out.length) : parI (out ++ u) x = parI out x := by
  unfold parI
  rw [List.getElem?_append_left h]

theorem node_app {out u : List Tk} {x : Nat} (h : x < out.length) : nodeAt (out ++ u) x = nodeAt out x := by
  unfold nodeAt
  rw [List.getElem?_append_left h]

theorem OpenOk.app {out : List Tk} (u : List Tk) : ∀ {op : List (Nat × ByteArray)} {a : Int}, OpenOk out a op → OpenOk (out ++ u) a op
  | [], a, h => h
  | x :: r, a, h => by
    obtain ⟨h1, h2, h3, h4⟩ := h
    refine ⟨h1, by rw [List.length_append]; omega, by rw [node_app h2]; exact h3, ?_⟩
    rw [par_app h2]
    exact OpenOk.app u h4

theorem OpenOk.push {out : List Tk} {a : Int} {op : List (Nat × ByteArray)} (h : OpenOk out a op) (t : Tk) (ht : t.kind = a) : OpenOk (out ++ [t]) (out.length : Int) ((out.length, t.name) :: op) := by
  have e1 : nodeAt (out ++ [t]) out.length = t := by unfold nodeAt; simp
  have e2 : parI (out ++ [t]) out.length = a := by unfold parI; simp [ht]
  refine ⟨rfl, by simp, by rw [e1], ?_⟩
  rw [e2]
  exact h.app [t]

theorem tok_kinds {k : Tk} (h : tokB k = true) : (k.kind = 1 ∧ k.text = ⟨#[]⟩) ∨ k.kind = 2 ∨ (k.kind = 3 ∧ k.name = ⟨#[]⟩ ∧ k.attrs = []) := by
  rcases tok_form h with ⟨e, _⟩ | e | e
  · exact .inl ⟨by rw [e]; rfl, by rw [e]; rfl⟩
  · exact .inr (.inl (by rw [e]; rfl))
  · exact .inr (.inr ⟨by rw [e]; rfl, by rw [e]; rfl, by rw [e]; rfl⟩)

/-- The elder steps, by the pile. -/
theorem i_of_g : ∀ (l : List Tk) (s s1 : GSt) (t : ISt), GInv s → t.out = s.out → OpenOk s.out s.at_ t.op → gRun l s = some s1 → ∃ op, iRun l t = some ⟨s1.out, op⟩ ∧ OpenOk s1.out s1.at_ op
  | [], s, s1, t, _, ho, hk, h => by
    cases h
    exact ⟨t.op, by rw [← ho]; rfl, hk⟩
  | k :: l, s, s1, t, hi, ho, hk, h => by
    obtain ⟨s2, h1, h2⟩ := gRun_cases h
    have hi2 := gStep_inv h1 hi
    have hb : tokB k = true := by
      cases q : tokB k
      · rw [gStep_no (.inl q)] at h1; cases h1
      · rfl
    have hpar := hk.par
    obtain ⟨_, g | g | g⟩ := gStep_cases h1
    · have hk1 : k.kind = 1 := by rw [g.1]; rfl
      have hx : k.text = ⟨#[]⟩ := by rw [g.1]; rfl
      have e := iStep_new (s := t) hb (by omega)
      rw [if_pos hk1, hpar, ho, hx] at e
      have e2 := g.2.2
      subst e2
      obtain ⟨op, r1, r2⟩ := i_of_g l _ s1 ⟨s.out ++ [⟨s.at_, k.name, k.attrs, ⟨#[]⟩⟩], (s.out.length, k.name) :: t.op⟩ hi2 rfl (hk.push ⟨s.at_, k.name, k.attrs, ⟨#[]⟩⟩ rfl) h2
      exact ⟨op, by rw [iRun_step e]; exact r1, r2⟩
    · have hk3 : k.kind = 3 := by rw [g.1]; rfl
      have hn : k.name = ⟨#[]⟩ := by rw [g.1]; rfl
      have ha : k.attrs = [] := by rw [g.1]; rfl
      have e := iStep_new (s := t) hb (by omega)
      rw [if_neg (by omega), hpar, ho, hn, ha] at e
      have e2 := g.2
      subst e2
      obtain ⟨op, r1, r2⟩ := i_of_g l _ s1 ⟨s.out ++ [⟨s.at_, ⟨#[]⟩, [], k.text⟩], t.op⟩ hi2 rfl (hk.app _) h2
      exact ⟨op, by rw [iRun_step e]; exact r1, r2⟩
    · have hk2 : k.kind = 2 := by rw [g.1]; rfl
      obtain ⟨_, g1, g2, e2⟩ := g
      subst e2
      cases hop : t.op with
      | nil =>
        rw [hop] at hk
        have : s.at_ = -1 := hk
        omega
      | cons x r =>
        rw [hop] at hk
        obtain ⟨q1, q2, q3, q4⟩ := hk
        have hx : s.at_.toNat = x.1 := by omega
        rw [hx] at g2 h2
        have e := iStep_end (s := t) hb hk2 hop (by rw [q3]; exact g2)
        rw [ho] at e
        obtain ⟨op, r1, r2⟩ := i_of_g l ⟨s.out, parI s.out x.1, decide (s.at_ = 0)⟩ s1 ⟨s.out, r⟩ (by have := hi2; rw [hx] at this; exact this) rfl q4 h2
        exact ⟨op, by rw [iRun_step e]; exact r1, r2⟩

theorem iRun_grow : ∀ (l : List Tk) (s s1 : ISt), iRun l s = some s1 → ∃ u, s1.out = s.out ++ u
  | [], s, s1, h => by cases h; exact ⟨[], (List.append_nil _).symm⟩
  | k :: l, s, s1, h => by
    obtain ⟨s2, h1, h2⟩ := iRun_cases h
    obtain ⟨u, hu⟩ := iRun_grow l s2 s1 h2
    unfold iStep at h1
    split at h1
    · cases h1
    · split at h1
      · split at h1
        · cases h1
        · split at h1
          · cases h1
            exact ⟨u, hu⟩
          · cases h1
      · cases h1
        exact ⟨⟨parE s.op, k.name, k.attrs, k.text⟩ :: u, by rw [hu]; simp⟩

/-- The pile's steps, by the elder ones, where a tree comes out. -/
theorem g_of_i {ts : List Tk} (hT : TreeP ts) : ∀ (l : List Tk) (s : GSt) (t : ISt), GInv s → t.out = s.out → OpenOk s.out s.at_ t.op → (s.done = true → t.op = [] ∧ ¬ s.out = []) → (t.op = [] → s.out = [] ∨ s.done = true) →
    iRun l t = some ⟨ts, []⟩ → ∃ a, gRun l s = some ⟨ts, a, true⟩
  | [], s, t, _, ho, hk, hd, hd2, h => by
    cases h
    rcases hd2 rfl with h' | h'
    · have h1 := hT.1
      have h2 : ts = [] := ho.trans h'
      rw [h2] at h1
      exact absurd h1 (by simp)
    · refine ⟨s.at_, ?_⟩
      show some s = _
      have e : s.out = ts := ho.symm
      rw [← e, ← h']
  | k :: l, s, t, hi, ho, hk, hd, hd2, h => by
    obtain ⟨t2, h1, h2⟩ := iRun_cases h
    obtain ⟨u, hu⟩ := iRun_grow l t2 _ h2
    have hu : ts = t2.out ++ u := hu
    have hpar := hk.par
    have hb : tokB k = true := by
      cases q : tokB k
      · rw [iStep_no q] at h1; cases h1
      · rfl
    -- no node but the first has no parent
    have key : ∀ j, 0 < j → j < ts.length → ¬ parI ts j = -1 := by
      intro j hj hl e
      rcases (hT.2.2.2.2 j hl).2.1 with h' | ⟨p, _, e', _⟩
      · omega
      · omega
    have new : ¬ k.kind = 2 → t2.out = s.out ++ [⟨s.at_, k.name, k.attrs, k.text⟩] := by
      intro hne
      rw [iStep_new hb hne, hpar, ho] at h1
      cases h1
      rfl
    have dn : s.done = false := by
      cases q : s.done
      · rfl
      · exfalso
        obtain ⟨hop, hne⟩ := hd q
        by_cases hk2 : k.kind = 2
        · rw [iStep_end0 hk2 hop] at h1
          cases h1
        · have hn := new hk2
          rw [hop] at hpar
          have ha : s.at_ = -1 := hpar.symm
          have hlen : 0 < s.out.length := List.length_pos_iff.2 hne
          refine key s.out.length hlen (by rw [hu, hn]; simp) ?_
          rw [hu, hn]
          unfold parI
          simp [ha]
    rcases tok_kinds hb with ⟨hk1, hx⟩ | hk2 | ⟨hk3, hn, ha⟩
    · have e1 := gStep_one hb dn hk1
      have e := iStep_new (s := t) hb (by omega)
      rw [if_pos hk1, hpar, ho, hx] at e
      rw [e] at h1
      cases h1
      obtain ⟨a, r⟩ := g_of_i hT l _ _ (gStep_inv e1 hi) rfl (hk.push ⟨s.at_, k.name, k.attrs, ⟨#[]⟩⟩ rfl) (fun h => by cases h) (fun h => by cases h) h2
      exact ⟨a, by rw [gRun_step e1]; exact r⟩
    · cases hop : t.op with
      | nil => rw [iStep_end0 hk2 hop] at h1; cases h1
      | cons x r =>
        rw [hop] at hk
        obtain ⟨q1, q2, q3, q4⟩ := hk
        by_cases hnm : x.2 = k.name
        · have e := iStep_end (s := t) hb hk2 hop hnm
          rw [e, ho] at h1
          cases h1
          have hx : s.at_.toNat = x.1 := by omega
          have e1 := gStep_two hb dn hk2 (by omega) (by rw [hx, ← q3]; exact hnm)
          have hi2 := gStep_inv e1 hi
          rw [hx] at e1 hi2
          have hd0 : decide (s.at_ = 0) = decide (x.1 = 0) := by rw [decide_eq_decide]; omega
          rw [hd0] at e1 hi2
          have hpx := (hi.par x.1 q2)
          obtain ⟨a, r'⟩ := g_of_i hT l _ ⟨s.out, r⟩ hi2 rfl q4 (fun h => by
            have h0 : x.1 = 0 := by simpa using h
            refine ⟨?_, fun e0 => by rw [e0] at q2; simp at q2⟩
            have hp0 : parI s.out x.1 = -1 := by rw [parI_at q2]; omega
            rw [hp0] at q4
            cases r with
            | nil => rfl
            | cons y r2 => have := q4.1; omega) (fun h => by
            have h : r = [] := h
            subst h
            refine .inr ?_
            have hp0 : parI s.out x.1 = -1 := q4
            rcases Nat.eq_zero_or_pos x.1 with h0 | h0
            · simpa using h0
            · exfalso
              refine key x.1 h0 (by rw [hu]; simp; omega) ?_
              rw [hu]
              show parI (s.out ++ u) x.1 = -1
              rw [par_app q2]
              exact hp0) h2
          exact ⟨a, by rw [gRun_step e1]; exact r'⟩
        · rw [iStep_end2 hk2 hop hnm] at h1
          cases h1
    · have e1 := gStep_three hb dn hk3
      have e := iStep_new (s := t) hb (by omega)
      rw [if_neg (by omega), hpar, ho, hn, ha] at e
      rw [e] at h1
      cases h1
      have hne : ¬ s.out = [] := by
        intro e0
        obtain ⟨h0, hnz⟩ := hT.2.2.2.1
        have e9 : ts[0]? = some ⟨s.at_, ⟨#[]⟩, [], k.text⟩ := by
          rw [hu]
          show ((s.out ++ [(⟨s.at_, ⟨#[]⟩, [], k.text⟩ : Tk)]) ++ u)[0]? = _
          rw [e0]
          rfl
        rw [List.getElem?_eq_getElem h0] at e9
        rw [Option.some.inj e9] at hnz
        exact hnz rfl
      obtain ⟨a, r⟩ := g_of_i hT l _ ⟨s.out ++ [⟨s.at_, ⟨#[]⟩, [], k.text⟩], t.op⟩ (gStep_inv e1 hi) rfl (hk.app _) (fun h => by cases h) (fun h => by
        exfalso
        rcases hd2 h with h' | h'
        · exact hne h'
        · rw [dn] at h'; cases h') h2
      exact ⟨a, by rw [gRun_step e1]; exact r⟩

/-- What the program tells has grown. -/
noncomputable def grownI (l : List Tk) : Option (List Tk) :=
  match iRun l ⟨[], []⟩ with
  | none => none
  | some s => if s.op = [] ∧ treeB s.out = true then some s.out else none

theorem grownI_eq (l : List Tk) : grownI l = grownT l := by
  cases e : grownT l with
  | some ts =>
    unfold grownT at e
    split at e
    · cases e
    · rename_i s hs
      split at e
      · rename_i hh
        cases e
        obtain ⟨op, r1, r2⟩ := i_of_g l ⟨[], -1, false⟩ s ⟨[], []⟩ GInv.start rfl rfl hs
        have ht : TreeP s.out := by
          by_cases q : TreeP s.out
          · exact q
          · rw [treeB_f q] at hh; cases hh.2
        obtain ⟨a, r3⟩ : ∃ a, gRun l ⟨[], -1, false⟩ = some ⟨s.out, a, true⟩ := ⟨s.at_, by rw [hs, ← hh.1]⟩
        have e2 := grow_sub ht s.out.length 0 (by have := ht.1; omega) (by omega) []
        rw [List.append_nil, ht.2.2.1, tree_end ht, List.take_zero, List.take_length] at e2
        have e3 : gRun [] ⟨s.out, -1, decide (0 = 0)⟩ = some ⟨s.out, -1, true⟩ := rfl
        rw [e3] at e2
        have hl := grow_inj _ _ _ _ _ GInv.start e2 hs rfl rfl hh.1
        rw [← hl, e2] at hs
        have hs2 := Option.some.inj hs
        rw [← hs2] at r2
        have hop : op = [] := by
          cases op with
          | nil => rfl
          | cons x r => have := r2.1; have h3 : (-1 : Int) = (x.1 : Int) := this; omega
        unfold grownI
        rw [r1]
        simp only
        rw [if_pos ⟨hop, hh.2⟩]
      · cases e
  | none =>
    cases e2 : grownI l with
    | none => rfl
    | some ts =>
      exfalso
      unfold grownI at e2
      split at e2
      · cases e2
      · rename_i s hs
        split at e2
        · rename_i hh
          cases e2
          have ht : TreeP s.out := by
            by_cases q : TreeP s.out
            · exact q
            · rw [treeB_f q] at hh; cases hh.2
          obtain ⟨o, op⟩ := s
          have hop : op = [] := hh.1
          subst hop
          obtain ⟨a, r⟩ := g_of_i ht l ⟨[], -1, false⟩ ⟨[], []⟩ GInv.start rfl rfl (fun h => by cases h) (fun _ => .inl rfl) hs
          rw [grownT_end r, if_pos ⟨rfl, hh.2⟩] at e
          cases e
        · cases e2

end Go.Proofs.Ytkcmagfbacmllaa

namespace Go.Proofs.Ytkcmagfbacmllaa
open Go.RowKit
set_option linter.unusedVariables false
set_option linter.unusedSimpArgs false

set_option maxHeartbeats 1000000 in
theorem cPeSize (B g o : Nat) (cur : Array Value) (T : TypeId) (v : Value) (L : List (Nat × ByteArray)) (w : World) (h : PileE w B g o cur T v L) :
    Calls Try.prog 64 #[.pointer (some ⟨g, o, none⟩)] w fun e w' => e = .returned (.int .i64 (L.length : Nat)) ∧ w' = w := by
  have c0 := h.cell
  obtain ⟨a, c, rfl⟩ := own_len h.row
  clear h
  generalize L.length = n at *
  go_enter Try.func64, Try.ntmps64
  go_wp2
  go_ret
  exact ⟨rfl, rfl⟩

end Go.Proofs.Ytkcmagfbacmllaa

namespace Go.Proofs.Ytkcmagfbacmllaa
open Go.RowKit
set_option linter.unusedVariables false
set_option linter.unusedSimpArgs false

set_option maxHeartbeats 2000000 in
theorem cParent (B g : Nat) (cur : Array Value) (T : TypeId) (v : Value) (L : List (Nat × ByteArray)) (w : World) (h : PileE w B g 1 cur T v L) (hn : L.length ≤ 1048576) :
    Calls Try.prog 94 #[.pointer (some ⟨g, 0, none⟩)] w fun e w' => e = .returned (.int .i64 (parE L)) ∧ Below w.heap.size w w' := by
  cases L with
  | nil =>
    have C := hid (cPeTop0 B g 1 cur T v w h)
    clear h
    show Calls Try.prog 94 #[.pointer (some ⟨g, 0, none⟩)] w fun e w' => e = .returned (.int .i64 (-1)) ∧ Below w.heap.size w w'
    go_enter Try.func94, Try.ntmps94
    go_wp2_with fail
    refine C.out.mono ?_
    rintro e w1 ⟨rfl, hb1⟩
    have HB1 := hid (hb1.alloc hb1.size (.cells #[.int .i64 0, .string ⟨#[]⟩] 94))
    clear hb1
    go_wp2_with fail
    go_ret
    exact ⟨rfl, HB1.out⟩
  | cons x L =>
    have C := hid (cPeTop B g 1 cur T v x L w h (by rw [List.length_cons] at hn; omega))
    clear h
    obtain ⟨x1, x2⟩ := x
    show Calls Try.prog 94 #[.pointer (some ⟨g, 0, none⟩)] w fun e w' => e = .returned (.int .i64 (x1 : Int)) ∧ Below w.heap.size w w'
    simp only at C
    go_enter Try.func94, Try.ntmps94
    go_wp2_with fail
    refine C.out.mono ?_
    rintro e w1 ⟨rfl, hb1⟩
    have HB1 := hid (hb1.alloc hb1.size (.cells #[.int .i64 (x1 : Int), .string x2] 94))
    clear hb1
    go_wp2_with fail
    go_ret
    exact ⟨rfl, HB1.out⟩

set_option maxHeartbeats 2000000 in
theorem cEnds0 (B g : Nat) (cur : Array Value) (T : TypeId) (v : Value) (nm : ByteArray) (w : World) (h : PileE w B g 1 cur T v []) :
    Calls Try.prog 93 #[.pointer (some ⟨g, 0, none⟩), .string nm] w fun e w' => e = .returned (.bool false) ∧ Below w.heap.size w w' := by
  have C := hid (cPeTake0 B g 1 cur T v w h)
  clear h
  go_enter Try.func93, Try.ntmps93
  go_wp2_with fail
  refine C.out.mono ?_
  rintro e w1 ⟨rfl, hb1⟩
  have HB1 := hid (hb1.alloc hb1.size (.cells #[.int .i64 0, .string ⟨#[]⟩] 94))
  clear hb1
  go_wp2_with fail
  go_ret
  exact ⟨rfl, HB1.out⟩

set_option maxHeartbeats 2000000 in
theorem cEnds (B g : Nat) (cur : Array Value) (T : TypeId) (v : Value) (x : Nat × ByteArray) (L : List (Nat × ByteArray)) (nm : ByteArray) (w : World) (h : PileE w B g 1 cur T v (x :: L)) (hn : L.length ≤ 1048576) (hm : nm.size ≤ 1048576) :
    Calls Try.prog 93 #[.pointer (some ⟨g, 0, none⟩), .string nm] w fun e w' => e = .returned (.bool (decide (x.2 = nm))) ∧ (∃ v', PileE w' B g 1 (cur.setIfInBounds 1 v') T v' L) ∧ KeepB (fun k => k = g) w w' := by
  have C := hid (cPeTake B g 1 cur T v x L w h hn)
  clear h
  obtain ⟨x1, x2⟩ := x
  simp only at C ⊢
  have hd := str_beq x2 nm
  generalize decide (x2 = nm) = D at *
  go_enter Try.func93, Try.ntmps93
  go_wp2_with fail
  refine C.out.mono ?_
  rintro e w1 ⟨rfl, ⟨v', hp1, _⟩, hk1⟩
  have HL1 := hid ((Below.refl w1.heap.size w1).alloc (Nat.le_refl _) (.cells #[.int .i64 (x1 : Int), .string x2] 94))
  have HP1 := hid (hp1.below HL1.out)
  have HK1 := hid (hk1.below_of HL1.out)
  clear hp1 hk1
  go_wp2_with fail
  go_ret
  exact ⟨rfl, ⟨_, HP1.out⟩, HK1.out⟩

end Go.Proofs.Ytkcmagfbacmllaa
