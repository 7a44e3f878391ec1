/- Contracts of the specification's Meaning, l9Known, Known. NamesOk: what it asks (mathematics alone). Contract of the specification's NamesOk. -/
import Derived.Test.YtcjeodgfpnecgaaGreatDoorM9
namespace Go.Proofs.YtcjeodgfpnecgaaGreatDoor
open Go.RowKit
set_option linter.unusedVariables false
set_option linter.unusedSimpArgs false

noncomputable def meanI (ts : List Tk) (x : Int) (p : ByteArray) : Option ByteArray := if elemB ts x then meanF ts x.toNat p else none

noncomputable def knownN (ts : List Tk) (k : Nat) (l m : ByteArray) : Bool := open Classical in (meanF ts k (preS (nameI ts k))).isSome && decide (locS (nameI ts k) = l) && decide ((meanF ts k (preS (nameI ts k))).getD ⟨#[]⟩ = m)

noncomputable def knownI (ts : List Tk) (x : Int) (l m : ByteArray) : Bool := elemB ts x && knownN ts x.toNat l m

end Go.Proofs.YtcjeodgfpnecgaaGreatDoor

namespace Go.Proofs.YtcjeodgfpnecgaaGreatDoor
open Go.RowKit
set_option linter.unusedVariables false

/-- It declares nothing, and has a prefix. -/
noncomputable def cntB (x : At) : Bool := !(declF x).isSome && !decide ((preS x.name).size = 0)

noncomputable def keyN (ts : List Tk) (i : Nat) (x : At) : ByteArray := ((meanF ts i (preS x.name)).getD ⟨#[]⟩ ++ ⟨#[32]⟩) ++ locS x.name

noncomputable def keysN (ts : List Tk) (i : Nat) (l : List At) : List ByteArray := (l.filter cntB).map (keyN ts i)

def AttrsN (ts : List Tk) (i : Nat) (l : List At) : Prop := (∀ x ∈ l, cntB x = true → (meanF ts i (preS x.name)).isSome = true) ∧ (keysN ts i l).Nodup

def ElemN (ts : List Tk) (i : Nat) (t : Tk) : Prop := t.name.size = 0 ∨ ((meanF ts i (preS t.name)).isSome = true ∧ ¬ preS t.name = nsS ∧ AttrsN ts i t.attrs)

def NamesP (ts : List Tk) : Prop := TreeP ts ∧ ∀ i t, ts[i]? = some t → ElemN ts i t

noncomputable def namesB (ts : List Tk) : Bool := open Classical in decide (NamesP ts)

theorem namesB_t {ts : List Tk} (h : NamesP ts) : namesB ts = true := by unfold namesB; simp [h]

theorem namesB_f {ts : List Tk} (h : ¬ NamesP ts) : namesB ts = false := by unfold namesB; simp [h]

variable {ts : List Tk} {i : Nat} {l : List At} {x : At}

theorem attrsN_nil : AttrsN ts i [] ∧ keysN ts i [] = [] := ⟨⟨fun x hx => absurd hx List.not_mem_nil, List.nodup_nil⟩, rfl⟩

theorem attrsN_skip (h : AttrsN ts i l) (hc : cntB x = false) : AttrsN ts i (l ++ [x]) ∧ keysN ts i (l ++ [x]) = keysN ts i l := by
  have e : keysN ts i (l ++ [x]) = keysN ts i l := by
    unfold keysN
    rw [List.filter_append]
    simp [hc]
  refine ⟨⟨fun y hy hcy => ?_, by rw [e]; exact h.2⟩, e⟩
  rcases List.mem_append.1 hy with h' | h'
  · exact h.1 y h' hcy
  · rw [List.mem_singleton] at h'
    subst h'
    rw [hc] at hcy
    cases hcy

theorem keysN_more (hc : cntB x = true) : keysN ts i (l ++ [x]) = keysN ts i l ++ [keyN ts i x] := by
  unfold keysN
  rw [List.filter_append]
  simp [hc]

theorem attrsN_more (h : AttrsN ts i l) (hc : cntB x = true) (hI : (meanF ts i (preS x.name)).isSome = true) (hk : ¬ keyN ts i x ∈ keysN ts i l) : AttrsN ts i (l ++ [x]) ∧ keysN ts i (l ++ [x]) = keysN ts i l ++ [keyN ts i x] := by
  refine ⟨⟨fun y hy hcy => ?_, ?_⟩, keysN_more hc⟩
  · rcases List.mem_append.1 hy with h' | h'
    · exact h.1 y h' hcy
    · rw [List.mem_singleton] at h'
      subst h'
      exact hI
  · rw [keysN_more hc]
    refine List.nodup_append.2 ⟨h.2, List.pairwise_singleton _ _, fun a ha b hb e => ?_⟩
    rw [List.mem_singleton] at hb
    subst hb
    subst e
    exact hk ha

theorem attrsN_bad (hc : cntB x = true) (h : (meanF ts i (preS x.name)).isSome = false ∨ keyN ts i x ∈ keysN ts i l) : ¬ AttrsN ts i (l ++ [x]) := by
  intro ha
  rcases h with h | h
  · have := ha.1 x (List.mem_append.2 (.inr (List.mem_singleton.2 rfl))) hc
    rw [h] at this
    cases this
  · have h2 := ha.2
    rw [keysN_more hc] at h2
    exact (List.nodup_append.1 h2).2.2 _ h _ (List.mem_singleton.2 rfl) rfl

theorem attrsN_take (n : Nat) (h : AttrsN ts i l) : AttrsN ts i (l.take n) := by
  have e : keysN ts i l = keysN ts i (l.take n) ++ keysN ts i (l.drop n) := by
    conv => lhs; rw [← List.take_append_drop n l]
    unfold keysN
    rw [List.filter_append, List.map_append]
  refine ⟨fun y hy hcy => h.1 y (List.mem_of_mem_take hy) hcy, ?_⟩
  have h2 := h.2
  rw [e] at h2
  exact (List.nodup_append.1 h2).1

theorem keysN_len (n : Nat) : (keysN ts i (l.take n)).length ≤ n := by
  unfold keysN
  rw [List.length_map]
  have h1 := List.length_filter_le cntB (l.take n)
  rw [List.length_take] at h1
  omega

theorem row_at (h : i < ts.length) : ∃ t, t ∈ ts ∧ ts[i]? = some t ∧ ∀ wx a, TkRow wx a ts → ∃ b o aa cap, a = some ⟨b, o, none⟩ ∧ b < wx.heap.size ∧ wx.cell? ⟨b, o + i * 4 + 1, none⟩ = some (.string t.name) ∧ wx.cell? ⟨b, o + i * 4 + 2, none⟩ = some (.slice aa t.attrs.length cap) ∧ AtRow wx aa t.attrs := by
  refine ⟨ts[i], List.getElem_mem h, List.getElem?_eq_getElem h, fun wx a hr => ?_⟩
  obtain ⟨b, o, aa, ca, e, hb, q0, q1, q2, q3, q4⟩ := hr i h
  exact ⟨b, o, aa, ca, e, hb, q1, q2, q4⟩

theorem preS_sz {s : ByteArray} (h : s.size ≤ 1048576) : (preS s).size ≤ 1048576 := by
  unfold preS
  rw [size_mk]
  have e : s.data.toList.length = s.size := rfl
  unfold partP
  split
  · have := len_pre s.data.toList
    omega
  · simp

theorem locS_sz {s : ByteArray} (h : s.size ≤ 1048576) : (locS s).size ≤ 1048576 := by
  unfold locS
  rw [size_mk]
  have e : s.data.toList.length = s.size := rfl
  unfold partL
  split
  · have := len_loc s.data.toList
    omega
  · simp

theorem meanF_sz (hz : TksSz 1048576 ts) (p : ByteArray) : ((meanF ts i p).getD ⟨#[]⟩).size ≤ 1048576 := by
  unfold meanF meanL
  split
  · cases hf : (upAts ts (chainF ts (i + 1))).find? (declB p) with
    | none =>
      simp only
      split
      · exact Nat.zero_le _
      · exact Nat.zero_le _
    | some y =>
      simp only [Option.getD_some]
      have hy := List.mem_of_find?_eq_some hf
      unfold upAts at hy
      obtain ⟨j, _, hj⟩ := List.mem_flatMap.1 hy
      cases ht : ts[j]? with
      | none => rw [ht] at hj; exact absurd hj List.not_mem_nil
      | some t =>
        rw [ht] at hj
        exact ((hz t (List.mem_of_getElem? ht)).2.2.1 y hj).2
  · exact Nat.zero_le _

end Go.Proofs.YtcjeodgfpnecgaaGreatDoor

namespace Go.Proofs.YtcjeodgfpnecgaaGreatDoor
open Go.RowKit
set_option linter.unusedVariables false
set_option linter.unusedSimpArgs false

def keyV (ks : List ByteArray) : List Value := ks.map Value.string

theorem key_more {w1 : World} {B : Nat} {v : Value} {ks : List ByteArray} {s : ByteArray} (h : w1.ownsRow B 9 1 v (ks.length + 1) (keyV ks ++ [.string s])) : ∃ a c, v = .slice a (ks ++ [s]).length c ∧ w1.ownsRow B 9 1 (.slice a (ks ++ [s]).length c) (ks ++ [s]).length (keyV (ks ++ [s])) := by
  have e : (ks ++ [s]).length = ks.length + 1 := by rw [List.length_append]; rfl
  have e2 : keyV (ks ++ [s]) = keyV ks ++ [.string s] := by unfold keyV; rw [List.map_append]; rfl
  rw [e, e2]
  rcases h.2 with ⟨rfl, h0⟩ | ⟨g, cap, cur, rfl, h3⟩
  · omega
  · exact ⟨_, _, rfl, h⟩

theorem key_cell {w1 : World} {B : Nat} {a : Option Addr} {c n q : Nat} {ks : List ByteArray} (h : w1.ownsRow B 9 1 (.slice a n c) n (keyV ks)) (hn : ks.length = n) (hq : q < ks.length) : ∃ g, a = some ⟨g, 0, none⟩ ∧ w1.cell? ⟨g, q, none⟩ = some (.string ks[q]) := by
  rcases h.2 with ⟨_, h0⟩ | ⟨g, cap, cur, e, h3⟩
  · omega
  · cases e
    refine ⟨g, rfl, ?_⟩
    rw [World.ownsRow.cellAt h q (by omega)]
    unfold keyV
    rw [List.getElem?_map, List.getElem?_eq_getElem hq]
    rfl

/-- None of these is it. -/
noncomputable def freshB (ks : List ByteArray) (s : ByteArray) : Bool := open Classical in decide (¬ s ∈ ks)

theorem freshB_t {ks : List ByteArray} {s : ByteArray} (h : ¬ s ∈ ks) : freshB ks s = true := by unfold freshB; simp [h]

theorem freshB_f {ks : List ByteArray} {s : ByteArray} (h : s ∈ ks) : freshB ks s = false := by unfold freshB; simp [h]

theorem freshB_next {ks : List ByteArray} {s : ByteArray} {q : Nat} (hq : q < ks.length) : freshB (ks.take (q + 1)) s = (freshB (ks.take q) s && !decide (ks[q] = s)) := by
  have e : s ∈ ks.take (q + 1) ↔ s ∈ ks.take q ∨ s = ks[q] := by rw [take_snocN hq, List.mem_append, List.mem_singleton]
  by_cases h1 : s ∈ ks.take q
  · rw [freshB_f (e.2 (.inl h1)), freshB_f h1]
    rfl
  · rw [freshB_t h1, Bool.true_and]
    by_cases h2 : ks[q] = s
    · rw [freshB_f (e.2 (.inr h2.symm)), decide_eq_true h2]
      rfl
    · rw [freshB_t (fun h => by
        rcases e.1 h with h' | h'
        · exact h1 h'
        · exact h2 h'.symm), decide_eq_false h2]
      rfl

end Go.Proofs.YtcjeodgfpnecgaaGreatDoor
