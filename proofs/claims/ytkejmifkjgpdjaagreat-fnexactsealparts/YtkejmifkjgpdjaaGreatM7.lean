/- Contract of TokenOk of the specification. What a tree is: who stands open around a node (plain mathematics). Contract of what the specification asks for a node's depth. -/
import Derived.Test.YtkejmifkjgpdjaaGreatM6
import Derived.Test.YtkejmifkjgpdjaaGreatM3
namespace Go.Proofs.YtkejmifkjgpdjaaGreat
open Go.RowKit
set_option linter.unusedVariables false
set_option linter.unusedSimpArgs false

def textB (s : ByteArray) : Bool := plainL s.data.toList && decide (1 ≤ s.size ∧ s.size ≤ 60)

/-- What TokenOk answers. -/
noncomputable def tokB (t : Tk) : Bool :=
  if t.kind = 1 then nameL t.name.data.toList && (attrsB t.attrs && decide (t.text.size = 0))
  else if t.kind = 2 then nameL t.name.data.toList && (decide (t.attrs.length = 0) && decide (t.text.size = 0))
  else if t.kind = 3 then decide (t.name.size = 0) && (decide (t.attrs.length = 0) && textB t.text)
  else false

theorem empty_beq (s : ByteArray) : (s.toList == (⟨#[]⟩ : ByteArray).toList) = decide (s.size = 0) := by
  rw [str_beq]
  by_cases h : s.size = 0
  · rw [decide_eq_true h]
    refine decide_eq_true (ByteArray.ext ?_)
    exact Array.eq_empty_of_size_eq_zero h
  · rw [decide_eq_false h]
    refine decide_eq_false (fun e => h ?_)
    rw [e]; rfl

theorem empty_is (s : ByteArray) : s.toList.isEmpty = decide (s.size = 0) := by
  have e : s.size = s.data.toList.length := rfl
  rw [ByteArray.toList_eq, e]
  cases s.data.toList <;> simp

theorem cL7Text (s : ByteArray) (w : World) (hs : s.size ≤ 1048576) :
    Calls Tryz.prog 67 #[.string s] w fun e w' => e = .returned (.bool (textB s)) ∧ w' = w := by
  have CP := fun w => c_spec_PlainOk s w (by unfold maxLen; omega)
  have CI := fun w => c_spec_In7 (s.size : Int) 1 60 w
  by_cases q : plainL s.data.toList = true
  · have e : textB s = decide ((1 : Int) ≤ (s.size : Int) ∧ (s.size : Int) ≤ 60) := by
      unfold textB; rw [q, Bool.true_and]; congr 1; exact propext (by omega)
    rw [e]
    rw [q] at CP
    obtain ⟨B, hB⟩ : ∃ B, decide ((1 : Int) ≤ (s.size : Int) ∧ (s.size : Int) ≤ 60) = B := ⟨_, rfl⟩
    rw [hB] at CI ⊢
    clear hB q e
    go_enter Tryz.func67, Tryz.ntmps67
    go_wp2_with fail
    refine (CP _).mono ?_
    rintro e w1 ⟨rfl, rfl⟩
    go_wp2_with fail
    refine (CI _).mono ?_
    rintro e w1 ⟨rfl, rfl⟩
    go_wp2_with fail
    go_ret
    exact ⟨rfl, rfl⟩
  · have q : plainL s.data.toList = false := by simpa using q
    rw [show textB s = false by unfold textB; rw [q]; rfl]
    rw [q] at CP
    clear q
    go_enter Tryz.func67, Tryz.ntmps67
    go_wp2_with fail
    refine (CP _).mono ?_
    rintro e w1 ⟨rfl, rfl⟩
    go_wp2_with fail
    go_ret
    exact ⟨rfl, rfl⟩

end Go.Proofs.YtkejmifkjgpdjaaGreat

namespace Go.Proofs.YtkejmifkjgpdjaaGreat
open Go.RowKit
set_option linter.unusedVariables false

/-- The parent of the node there. -/
def parI (ts : List Tk) (j : Nat) : Int := match ts[j]? with | some t => t.kind | none => -1

theorem parI_at {ts : List Tk} {j : Nat} (h : j < ts.length) : parI ts j = ts[j].kind := by unfold parI; rw [List.getElem?_eq_getElem h]

/-- The node there is an element. -/
def elN (ts : List Tk) (j : Nat) : Prop := ∃ h : j < ts.length, ¬ ts[j].name.size = 0

/-- The last of the first i nodes and all around it, the innermost first. -/
def chainF (ts : List Tk) : Nat → List Nat
  | 0 => []
  | i + 1 => i :: (chainF ts i).dropWhile (fun (j : Nat) => !decide ((j : Int) = parI ts i))

/-- Each is in the next one, the last is the first node. -/
def Linked (ts : List Tk) : List Nat → Prop
  | [] => False
  | [x] => x = 0
  | x :: y :: r => parI ts x = (y : Int) ∧ y < x ∧ Linked ts (y :: r)

theorem Linked.tail {ts : List Tk} {x y : Nat} {r : List Nat} (h : Linked ts (x :: y :: r)) : Linked ts (y :: r) := h.2.2

theorem Linked.le {ts : List Tk} : ∀ {c : List Nat} {x : Nat}, Linked ts (x :: c) → ∀ y ∈ x :: c, y ≤ x
  | [], x, h, y, hy => by rw [List.mem_singleton] at hy; omega
  | z :: r, x, h, y, hy => by
    rcases List.mem_cons.1 hy with rfl | hy
    · exact Nat.le_refl _
    · have := Linked.le (ts := ts) h.tail y hy
      have := h.2.1
      omega

theorem Linked.drop {ts : List Tk} : ∀ {c : List Nat}, Linked ts c → ∀ p, p ∈ c → ∃ r, c.dropWhile (fun (j : Nat) => !decide ((j : Int) = (p : Int))) = p :: r ∧ Linked ts (p :: r)
  | [], h, p, hp => absurd hp (by simp)
  | [x], h, p, hp => by
    rw [List.mem_singleton] at hp
    subst hp
    exact ⟨[], by simp, h⟩
  | x :: y :: r, h, p, hp => by
    by_cases e : x = p
    · subst e
      exact ⟨y :: r, by simp, h⟩
    · have hp' : p ∈ y :: r := by
        rcases List.mem_cons.1 hp with h' | h'
        · exact absurd h'.symm e
        · exact h'
      obtain ⟨r', e1, e2⟩ := Linked.drop h.tail p hp'
      refine ⟨r', ?_, e2⟩
      rw [List.dropWhile_cons, if_pos (by simp; omega)]
      exact e1

/-- The node may stand there: its parent is open, and an element. -/
def UpOk (ts : List Tk) (i : Nat) : Prop := i = 0 ∨ ∃ p, p ∈ chainF ts i ∧ (p : Int) = parI ts i ∧ elN ts p

theorem linked_next {ts : List Tk} {i : Nat} (h : Linked ts (chainF ts i)) (hu : UpOk ts i) (hi : ¬ i = 0) (hlt : ∀ p ∈ chainF ts i, p < i) : Linked ts (chainF ts (i + 1)) ∧ ∃ p r, chainF ts (i + 1) = i :: p :: r ∧ (p : Int) = parI ts i ∧ p < i := by
  rcases hu with h0 | ⟨p, hp, e, _⟩
  · exact absurd h0 hi
  · obtain ⟨r, e1, e2⟩ := h.drop p hp
    have e3 : chainF ts (i + 1) = i :: p :: r := by
      show i :: (chainF ts i).dropWhile (fun (j : Nat) => !decide ((j : Int) = parI ts i)) = _
      rw [← e, e1]
    rw [e3]
    exact ⟨⟨e.symm, hlt p hp, e2⟩, p, r, rfl, e, hlt p hp⟩

theorem chain_head (ts : List Tk) (i : Nat) : ∃ r, chainF ts (i + 1) = i :: r := ⟨_, rfl⟩

/-- Where all that stand ahead may stand there. -/
theorem linked_all {ts : List Tk} : ∀ i, (∀ j, j < i + 1 → UpOk ts j) → Linked ts (chainF ts (i + 1)) ∧ ∀ p ∈ chainF ts (i + 1), p < i + 1
  | 0, _ => ⟨rfl, fun p hp => by have : p ∈ [0] := hp; simp at this; omega⟩
  | i + 1, h => by
    obtain ⟨h1, h2⟩ := linked_all i (fun j hj => h j (by omega))
    obtain ⟨h3, p, r, e, _, _⟩ := linked_next h1 (h (i + 1) (by omega)) (by omega) h2
    refine ⟨h3, fun q hq => ?_⟩
    rw [e] at h3 hq
    have := h3.le q hq
    omega

/-- How deep. -/
noncomputable def depI (ts : List Tk) (i : Nat) : Int := open Classical in if UpOk ts i then ((chainF ts (i + 1)).length : Int) else 0

theorem depI_t {ts : List Tk} {i : Nat} (h : UpOk ts i) : depI ts i = ((chainF ts (i + 1)).length : Int) := by unfold depI; exact if_pos h

theorem depI_f {ts : List Tk} {i : Nat} (h : ¬ UpOk ts i) : depI ts i = 0 := by unfold depI; exact if_neg h

/-- A node that is right by itself. -/
noncomputable def nodeB (t : Tk) : Bool :=
  if t.name.size = 0 then decide (t.attrs.length = 0) && textB t.text else nameL t.name.data.toList && (attrsB t.attrs && decide (t.text.size = 0))

/-- The node and the one ahead of it are texts of one parent. -/
def TwinAt (ts : List Tk) (i : Nat) : Prop := ∃ (h : i < ts.length) (h0 : 0 < i), ts[i].name.size = 0 ∧ (ts[i - 1]'(by omega)).name.size = 0 ∧ (ts[i - 1]'(by omega)).kind = ts[i].kind

/-- The node may stand there, in all. -/
def NodeOk (ts : List Tk) (i : Nat) : Prop := (∃ h : i < ts.length, nodeB ts[i] = true) ∧ UpOk ts i ∧ (chainF ts (i + 1)).length ≤ 9 ∧ ¬ TwinAt ts i

/-- A tree. -/
def TreeP (ts : List Tk) : Prop := 1 ≤ ts.length ∧ ts.length ≤ 50 ∧ parI ts 0 = -1 ∧ elN ts 0 ∧ ∀ i, i < ts.length → NodeOk ts i

noncomputable def treeB (ts : List Tk) : Bool := open Classical in decide (TreeP ts)

theorem treeB_t {ts : List Tk} (h : TreeP ts) : treeB ts = true := by unfold treeB; simp [h]

theorem treeB_f {ts : List Tk} (h : ¬ TreeP ts) : treeB ts = false := by unfold treeB; simp [h]

end Go.Proofs.YtkejmifkjgpdjaaGreat

namespace Go.Proofs.YtkejmifkjgpdjaaGreat
open Go.RowKit
set_option linter.unusedVariables false
set_option linter.unusedSimpArgs false

/-- The chain from its m-th member on. -/
theorem linked_from {ts : List Tk} : ∀ {c : List Nat}, Linked ts c → ∀ m (h : m < c.length), (parI ts 0 = -1 → parI ts c[m] = (if h' : m + 1 < c.length then (c[m + 1] : Int) else -1)) ∧ (c[m] = 0 ↔ m + 1 = c.length)
  | [], h, m, hm => absurd hm (by simp)
  | [x], h, m, hm => by
    have h0 : x = 0 := h
    subst h0
    have : m = 0 := by simpa using hm
    subst this
    exact ⟨fun e => by simpa using e, by simp⟩
  | x :: y :: r, h, 0, hm => by
    refine ⟨fun e => ?_, ?_⟩
    · simp [h.1]
    · have := h.2.1
      constructor
      · intro e
        have e : x = 0 := e
        omega
      · intro e
        simp at e
  | x :: y :: r, h, m + 1, hm => by
    have hm' : m < (y :: r).length := by simpa using hm
    obtain ⟨h1, h2⟩ := linked_from h.tail m hm'
    refine ⟨fun e => ?_, ?_⟩
    · have := h1 e
      simp only [List.getElem_cons_succ, List.length_cons] at this ⊢
      rw [this]
      by_cases q : m + 1 < r.length + 1
      · rw [dif_pos q, dif_pos (by omega)]
      · rw [dif_neg q, dif_neg (by omega)]
    · simp only [List.getElem_cons_succ, List.length_cons] at h2 ⊢
      omega

theorem Linked.len {ts : List Tk} : ∀ {c : List Nat} {x : Nat}, Linked ts (x :: c) → (x :: c).length ≤ x + 1
  | [], x, h => by simp
  | y :: r, x, h => by
    have h1 := Linked.len (ts := ts) h.tail
    have := h.2.1
    simp only [List.length_cons] at h1 ⊢
    omega

theorem linked_lt {ts : List Tk} : ∀ {c : List Nat}, Linked ts c → ∀ m (h : m + 1 < c.length), c[m + 1] < c[m]
  | [], h, m, hm => absurd hm (by simp)
  | [x], h, m, hm => absurd hm (by simp)
  | x :: y :: r, h, 0, hm => h.2.1
  | x :: y :: r, h, m + 1, hm => linked_lt h.tail m (by simpa using hm)

/-- The m-th member of a chain; -1 behind its end. -/
def kAt (c : List Nat) (m : Nat) : Int := match c[m]? with | some x => (x : Int) | none => -1

theorem kAt_lt {c : List Nat} {m : Nat} (h : m < c.length) : kAt c m = (c[m] : Int) := by unfold kAt; rw [List.getElem?_eq_getElem h]

theorem kAt_end {c : List Nat} : kAt c c.length = -1 := by unfold kAt; rw [List.getElem?_eq_none (Nat.le_refl _)]

theorem TkRow.kindAt {w : World} {a : Option Addr} {ts : List Tk} (h : TkRow w a ts) (j : Nat) (hj : j < ts.length) : ∃ b o, a = some ⟨b, o, none⟩ ∧ w.cell? ⟨b, o + j * 4, none⟩ = some (.int .i64 (parI ts j)) ∧ w.cell? ⟨b, o + j * 4 + 1, none⟩ = some (.string ts[j].name) := by
  obtain ⟨b, o, aa, cap, ha, hlt, c0, c1, _⟩ := h j hj
  exact ⟨b, o, ha, by rw [parI_at hj]; exact c0, c1⟩

set_option maxRecDepth 8000 in
set_option maxHeartbeats 4000000 in
theorem cDepthS (a : Option Addr) (cap : Nat) (ts : List Tk) (i : Nat) (w : World) (hR : TkRow w a ts) (hi : i < ts.length) (hn : ts.length ≤ 1048576) (hz : TksSz 1048576 ts) (h0 : parI ts 0 = -1) (hup : ∀ j, j < i → UpOk ts j) :
    Calls Tryz.prog 68 #[.slice a ts.length cap, .int .i64 (i : Int)] w fun e w' => e = .returned (.int .i64 (depI ts i)) ∧ w' = w := by
  have HR := hid hR
  have HZ := hid hz
  obtain ⟨V, hV⟩ : ∃ V, depI ts i = V := ⟨_, rfl⟩
  have HV := hid hV
  rw [hV]
  clear hR hV hz
  obtain ⟨n, hnn⟩ : ∃ n, ts.length = n := ⟨_, rfl⟩
  have HN := hid hnn
  rw [hnn] at hn hi ⊢
  clear hnn
  by_cases hi0 : i = 0
  · subst hi0
    have HW := hid (show V = 1 by rw [← HV.out, depI_t (.inl rfl)]; rfl)
    go_enter Tryz.func68, Tryz.ntmps68
    go_wp2
    go_ret
    exact ⟨by rw [HW.out]; rfl, rfl⟩
  · have HL := hid (show Linked ts (chainF ts i) ∧ (∀ p ∈ chainF ts i, p < i) ∧ ∃ r, chainF ts i = (i - 1) :: r by
      obtain ⟨i', rfl⟩ : ∃ i', i = i' + 1 := ⟨i - 1, by omega⟩
      exact ⟨(linked_all i' hup).1, (linked_all i' hup).2, _, rfl⟩)
    have HU := hid hup
    have H0 := hid h0
    clear hup h0
    have d0 : ((i : Int) == 0) = false := by simp; omega
    have his : i < ts.length := by rw [HN.out]; exact hi
    obtain ⟨b, o, rfl, c0, c1⟩ := HR.out.kindAt i his
    have hin : (i : Int) < (n : Int) := by omega
    obtain ⟨p, hp⟩ : ∃ p, parI ts i = p := ⟨_, rfl⟩
    have HP := hid hp
    rw [hp] at c0
    clear hp
    by_cases hp0 : p < 0
    · have HW := hid (show V = 0 by
        rw [← HV.out, depI_f]
        rintro (h | ⟨q, _, hq, _⟩)
        · exact hi0 h
        · rw [HP.out] at hq; omega)
      go_enter Tryz.func68, Tryz.ntmps68
      go_wp2
      go_ret
      exact ⟨by rw [HW.out]; rfl, rfl⟩
    · by_cases hpi : (i : Int) ≤ p
      · have HW := hid (show V = 0 by
          rw [← HV.out, depI_f]
          rintro (h | ⟨q, hm, hq, _⟩)
          · exact hi0 h
          · have := HL.out.2.1 q hm
            rw [HP.out] at hq
            omega)
        go_enter Tryz.func68, Tryz.ntmps68
        go_wp2
        go_ret
        exact ⟨by rw [HW.out]; rfl, rfl⟩
      · obtain ⟨q, rfl⟩ : ∃ q : Nat, p = q := ⟨p.toNat, by omega⟩
        have hqi : q < i := by omega
        have hqs : q < ts.length := by omega
        have hqn : (q : Int) < (n : Int) := by omega
        obtain ⟨b', o', e', c2, c3⟩ := HR.out.kindAt q hqs
        obtain ⟨rfl, rfl⟩ : b = b' ∧ o = o' := by cases e'; exact ⟨rfl, rfl⟩
        clear e' c2
        have E := empty_is ts[q].name
        have zq := (HZ.out _ (List.getElem_mem hqs)).1
        by_cases hne : ts[q].name.size = 0
        · have HW := hid (show V = 0 by
            rw [← HV.out, depI_f]
            rintro (h | ⟨q', hm, hq, ⟨_, hel⟩⟩)
            · exact hi0 h
            · rw [HP.out] at hq
              have : q' = q := by omega
              subst this
              exact hel hne)
          rw [decide_eq_true hne] at E
          generalize ts[q].name = nm at *
          go_enter Tryz.func68, Tryz.ntmps68
          go_wp2
          go_ret
          exact ⟨by rw [HW.out]; rfl, rfl⟩
        · have HE := hid (show elN ts q from ⟨hqs, hne⟩)
          rw [decide_eq_false hne] at E
          generalize ts[q].name = nm at *
          clear hne
          obtain ⟨c, hc⟩ : ∃ c, chainF ts i = c := ⟨_, rfl⟩
          have HC := hid hc
          rw [hc] at HL
          clear hc
          go_enter Tryz.func68, Tryz.ntmps68
          go_wp2
          go_loop [6] (fun k => ∃ m : Nat, Hid (k = .int .i64 (kAt c m) ∧ m ≤ c.length ∧ ∀ j, j < m → ∀ h : j < c.length, ¬ c[j] = q)) (fun k => (intOf k + 1).toNat)
          case atStart =>
            refine ⟨0, ?_, Nat.zero_le _, fun j h => by omega⟩
            obtain ⟨r, hr⟩ := HL.out.2.2
            rw [hr]
            show _ = Value.int .i64 (((i - 1 : Nat)) : Int)
            congr 1
            first | omega | (simp; omega)
          case round =>
            clear c0 c1 c3 E zq
            obtain ⟨m, HM⟩ := hrel
            obtain ⟨rfl, hm, hno⟩ := HM.out
            have HNO := hid hno
            clear hno HM
            by_cases hml : m < c.length
            · obtain ⟨x, hx⟩ : ∃ x, c[m] = x := ⟨_, rfl⟩
              have hxi : x < i := by rw [← hx]; exact HL.out.2.1 _ (List.getElem_mem hml)
              have hxs : x < ts.length := by omega
              have ek : kAt c m = (x : Int) := by rw [← hx]; exact kAt_lt hml
              rw [ek]
              by_cases hxq : x = q
              · subst hxq
                have HUP := hid (show UpOk ts i from .inr ⟨x, by rw [HC.out, ← hx]; exact List.getElem_mem hml, HP.out.symm, HE.out⟩)
                have HD := hid (linked_all i (fun j hj => by
                  rcases Nat.lt_or_eq_of_le (Nat.le_of_lt_succ hj) with h' | rfl
                  · exact HU.out j h'
                  · exact HUP.out))
                have HW := hid (show V = ((chainF ts (i + 1)).length : Int) by rw [← HV.out, depI_t HUP.out])
                have hd1 : ((chainF ts (i + 1)).length : Int) ≤ 1048577 := by
                  obtain ⟨r, hr⟩ := chain_head ts i
                  have h1 := HD.out.1
                  rw [hr] at h1 ⊢
                  have := h1.len
                  omega
                obtain ⟨d, hd⟩ : ∃ d, chainF ts (i + 1) = d := ⟨_, rfl⟩
                have HDD := hid hd
                rw [hd] at HD HW hd1
                clear hd hx ek HNO hm hml
                go_wp2
                go_loop [7, 8] (fun v k => ∃ m : Nat, Hid (k = .int .i64 (kAt d m) ∧ m < d.length) ∧ v = .int .i64 ((m : Int) + 1)) (fun _ k => (intOf k + 1).toNat)
                case atStart =>
                  refine ⟨0, ⟨?_, ?_⟩, rfl⟩
                  · rw [← HDD.out]; rfl
                  · rw [← HDD.out]; exact Nat.succ_pos _
                case round =>
                  obtain ⟨m, HM, rfl⟩ := hrel
                  obtain ⟨rfl, hml⟩ := HM.out
                  clear HM
                  obtain ⟨y, hy⟩ : ∃ y, d[m] = y := ⟨_, rfl⟩
                  have hyi : y < i + 1 := by rw [← hy]; exact HD.out.2 _ (List.getElem_mem hml)
                  have hys : y < ts.length := by omega
                  have ek : kAt d m = (y : Int) := by rw [← hy]; exact kAt_lt hml
                  rw [ek]
                  obtain ⟨l1, l2⟩ := linked_from HD.out.1 m hml
                  have l1 := l1 H0.out
                  rw [hy] at l1 l2
                  obtain ⟨b', o', e', c2, c3⟩ := HR.out.kindAt y hys
                  obtain ⟨rfl, rfl⟩ : b = b' ∧ o = o' := by cases e'; exact ⟨rfl, rfl⟩
                  have hyn : (y : Int) < (n : Int) := by omega
                  by_cases hy0 : y = 0
                  · have HE2 := hid (show ((m : Int) + 1) = V by rw [HW.out]; have := l2.1 hy0; omega)
                    subst hy0
                    clear c2 c3 l1 l2 e' ek hy
                    go_wp2
                    go_ret
                    exact ⟨by rw [← HE2.out]; rfl, rfl⟩
                  · have hnx : m + 1 < d.length := by
                      rcases Nat.lt_or_ge (m + 1) d.length with h' | h'
                      · exact h'
                      · exact absurd (l2.2 (by omega)) hy0
                    rw [dif_pos hnx, ← kAt_lt hnx] at l1
                    have hless := hid (show kAt d (m + 1) < (y : Int) by rw [kAt_lt hnx, ← hy]; have := linked_lt HD.out.1 m hnx; omega)
                    rw [l1] at c2
                    have hyp : (0 : Int) < (y : Int) := by omega
                    have HNX := hid hnx
                    obtain ⟨K, hK⟩ : ∃ K, kAt d (m + 1) = K := ⟨_, rfl⟩
                    have HK := hid hK
                    rw [hK] at c2 hless
                    clear hK c3 l1 l2 e' ek hy hnx
                    go_wp2
                    go_round
                    case rel => exact ⟨m + 1, ⟨by rw [HK.out], HNX.out⟩, by go_num⟩
                    case measure => have := hless.out; simp [intOf]; omega
              · have l1 := (linked_from HL.out.1 m hml).1 H0.out
                rw [hx] at l1
                have e2 : parI ts x = kAt c (m + 1) := by
                  rw [l1]
                  by_cases h' : m + 1 < c.length
                  · rw [dif_pos h', kAt_lt h']
                  · rw [dif_neg h']
                    have : m + 1 = c.length := by omega
                    rw [this, kAt_end]
                have hless := hid (show kAt c (m + 1) < (x : Int) by
                  by_cases h' : m + 1 < c.length
                  · rw [kAt_lt h', ← hx]
                    have := linked_lt HL.out.1 m h'
                    omega
                  · have : m + 1 = c.length := by omega
                    rw [this, kAt_end]
                    omega)
                have hge := hid (show -1 ≤ kAt c (m + 1) by unfold kAt; split <;> omega)
                have HN2 := hid (show ∀ j, j < m + 1 → ∀ h : j < c.length, ¬ c[j] = q from fun j hj h => by
                  rcases Nat.lt_or_eq_of_le (Nat.le_of_lt_succ hj) with h' | rfl
                  · exact HNO.out j h' h
                  · rw [hx]; exact hxq)
                obtain ⟨b', o', e', c2, c3⟩ := HR.out.kindAt x hxs
                obtain ⟨rfl, rfl⟩ : b = b' ∧ o = o' := by cases e'; exact ⟨rfl, rfl⟩
                have hxn : (x : Int) < (n : Int) := by omega
                have dq : ((x : Int) == (q : Int)) = false := by simp; omega
                rw [e2] at c2
                obtain ⟨K, hK⟩ : ∃ K, kAt c (m + 1) = K := ⟨_, rfl⟩
                have HK := hid hK
                rw [hK] at c2 hless hge
                have HML := hid hml
                clear hK c3 l1 e2 e' ek hx hml
                go_wp2
                go_round
                case rel => exact ⟨m + 1, by rw [HK.out], HML.out, HN2.out⟩
                case measure => have := hless.out; have := hge.out; simp [intOf]; omega
            · have hme : m = c.length := by omega
              subst hme
              rw [kAt_end]
              have HW := hid (show V = 0 by
                rw [← HV.out, depI_f]
                rintro (h | ⟨q', hmem, hq, _⟩)
                · exact hi0 h
                · rw [HP.out] at hq
                  have : q' = q := by omega
                  subst this
                  rw [HC.out] at hmem
                  obtain ⟨j, hj, e⟩ := List.getElem_of_mem hmem
                  exact HNO.out j hj hj e)
              have dq : ((-1 : Int) == (q : Int)) = false := by simp <;> omega
              go_wp2
              go_ret
              exact ⟨by rw [HW.out]; rfl, rfl⟩

end Go.Proofs.YtkejmifkjgpdjaaGreat
