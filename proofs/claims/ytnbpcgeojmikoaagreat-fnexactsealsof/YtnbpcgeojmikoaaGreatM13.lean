/- An element of a tree: contract of the specification's l9Element. Contracts of the specification's Meaning, l9Known, Known. NamesOk: what it asks (mathematics alone). -/
import Derived.Test.YtnbpcgeojmikoaaGreatM8
import Derived.Test.YtnbpcgeojmikoaaGreatM12
namespace Go.Proofs.YtnbpcgeojmikoaaGreat
open Go.RowKit
set_option linter.unusedVariables false
set_option linter.unusedSimpArgs false

/-- The name of the one at x. -/
def nameI (ts : List Tk) (k : Nat) : ByteArray := match ts[k]? with | some t => t.name | none => ⟨#[]⟩

theorem nameI_at {ts : List Tk} {k : Nat} (h : k < ts.length) : nameI ts k = ts[k].name := by unfold nameI; rw [List.getElem?_eq_getElem h]

noncomputable def elemB (ts : List Tk) (x : Int) : Bool := hasB ts x && !decide ((nameI ts x.toNat).size = 0)

theorem elemB_t {ts : List Tk} {x : Int} (h : elemB ts x = true) : TreeP ts ∧ ∃ k : Nat, x = k ∧ k < ts.length := by
  unfold elemB at h
  rw [Bool.and_eq_true] at h
  exact hasB_t h.1

theorem name_row {w : World} {a : Option Addr} {ts : List Tk} (h : TkRow w a ts) {k : Nat} (hk : k < ts.length) : ∃ b o, a = some ⟨b, o, none⟩ ∧ w.cell? ⟨b, o + k * 4 + 1, none⟩ = some (.string (nameI ts k)) := by
  obtain ⟨b, o, e, _, h1⟩ := h.kindAt k hk
  exact ⟨b, o, e, by rw [nameI_at hk]; exact h1⟩

theorem name_sz {ts : List Tk} (hz : TksSz 1048576 ts) {k : Nat} (hk : k < ts.length) : (nameI ts k).size ≤ 1048576 := by
  rw [nameI_at hk]
  exact (hz _ (List.getElem_mem hk)).1

set_option maxHeartbeats 2000000 in
theorem c_spec_l9Element (a : Option Addr) (cap : Nat) (ts : List Tk) (x : Int) (w : World) (hR : TkRow w a ts) (hn : ts.length ≤ 1048576) (hz : TksSz 1048576 ts) :
    Calls Tryz.prog 15 #[.slice a ts.length cap, .int .i64 x] w fun e w' => e = .returned (.bool (elemB ts x)) ∧ Below w.heap.size w w' := by
  have C := hid (cHasS a cap ts x w hR hn hz)
  have HR := hid hR
  clear hR
  cases hh : hasB ts x with
  | false =>
    have HE := hid (show elemB ts x = false by unfold elemB; rw [hh]; rfl)
    rw [HE.out]
    rw [hh] at C
    clear hh HE HR hz
    generalize ts.length = n at *
    go_enter Tryz.func15, Tryz.ntmps15
    go_wp2_with fail
    refine C.out.mono ?_
    rintro e w1 ⟨rfl, hb1⟩
    have HB1 := hid hb1
    clear hb1 C
    go_wp2_with fail
    go_ret
    exact ⟨rfl, HB1.out⟩
  | true =>
    obtain ⟨hT, k, rfl, hk⟩ := hasB_t hh
    have HE := hid (show elemB ts (k : Int) = !decide ((nameI ts k).size = 0) by unfold elemB; rw [hh]; rfl)
    rw [HE.out]
    rw [hh] at C
    have HROW := hid (fun wx (hb : Below w.heap.size w wx) => name_row (HR.out.below hb) hk)
    obtain ⟨b, o, ea, -⟩ := name_row HR.out hk
    subst ea
    have E := empty_is (nameI ts k)
    have hkn : (k : Int) < (ts.length : Int) := by omega
    clear hh HE HR hz hT
    generalize ts.length = n at *
    generalize nameI ts k = N at *
    generalize decide (N.size = 0) = D at *
    go_enter Tryz.func15, Tryz.ntmps15
    go_wp2_with fail
    refine C.out.mono ?_
    rintro e w1 ⟨rfl, hb1⟩
    obtain ⟨b', o', e', c1⟩ := HROW.out _ hb1
    obtain ⟨rfl, rfl⟩ : b = b' ∧ o = o' := by cases e'; exact ⟨rfl, rfl⟩
    have HB1 := hid hb1
    clear hb1 C e' HROW
    go_wp2_with fail
    go_ret
    exact ⟨rfl, HB1.out⟩

end Go.Proofs.YtnbpcgeojmikoaaGreat

namespace Go.Proofs.YtnbpcgeojmikoaaGreat
open Go.RowKit
set_option linter.unusedVariables false
set_option linter.unusedSimpArgs false

noncomputable def meanI (ts : List Tk) (x : Int) (p : ByteArray) : Option ByteArray := if elemB ts x then meanF ts x.toNat p else none

noncomputable def knownN (ts : List Tk) (k : Nat) (l m : ByteArray) : Bool := open Classical in (meanF ts k (preS (nameI ts k))).isSome && decide (locS (nameI ts k) = l) && decide ((meanF ts k (preS (nameI ts k))).getD ⟨#[]⟩ = m)

noncomputable def knownI (ts : List Tk) (x : Int) (l m : ByteArray) : Bool := elemB ts x && knownN ts x.toNat l m

set_option maxHeartbeats 2000000 in
theorem c_spec_l9Known (a : Option Addr) (cap : Nat) (ts : List Tk) (k : Nat) (l m : ByteArray) (w : World) (hR : TkRow w a ts) (hT : TreeP ts) (hk : k < ts.length) (hn : ts.length ≤ 1048576) (hz : TksSz 1048576 ts) :
    Calls Tryz.prog 51 #[.slice a ts.length cap, .int .i64 (k : Int), .string l, .string m] w fun e w' => e = .returned (.bool (knownN ts k l m)) ∧ Below w.heap.size w w' := by
  obtain ⟨b, o, ea, c1⟩ := name_row hR hk
  subst ea
  have hzn := name_sz hz hk
  have CP := hid (cPartsX (nameI ts k) w hzn)
  have hps : (preS (nameI ts k)).size ≤ 1048576 := by
    unfold preS
    rw [size_mk]
    have e : (nameI ts k).data.toList.length = (nameI ts k).size := rfl
    unfold partP
    split
    · have := len_pre (nameI ts k).data.toList
      omega
    · simp
  have CM := hid (fun wx (hb : Below w.heap.size w wx) => c_spec_l9Meaning _ cap ts k (preS (nameI ts k)) wx (hR.below hb) hT hk hn hz hps)
  have h1 := str_beq (locS (nameI ts k)) l
  have h2 := str_beq ((meanF ts k (preS (nameI ts k))).getD ⟨#[]⟩) m
  have hkn : (k : Int) < (ts.length : Int) := by omega
  unfold knownN
  generalize (meanF ts k (preS (nameI ts k))).isSome = I at *
  generalize (meanF ts k (preS (nameI ts k))).getD ⟨#[]⟩ = G at *
  generalize preS (nameI ts k) = P at *
  generalize locS (nameI ts k) = L at *
  generalize nameI ts k = N at *
  clear hR hT hk hz hzn hps
  generalize ts.length = n at *
  have HX1 : ∃ B : Bool, decide (L = l) = B := ⟨_, rfl⟩
  obtain ⟨B1, hB1⟩ := HX1
  obtain ⟨B2, hB2⟩ : ∃ B : Bool, decide (G = m) = B := ⟨_, rfl⟩
  rw [hB1] at h1
  rw [hB2] at h2
  have HQ := hid (And.intro hB1 hB2)
  clear hB1 hB2
  go_enter Tryz.func51, Tryz.ntmps51
  go_wp2_with fail
  refine CP.out.mono ?_
  rintro e w1 ⟨rfl, hb1⟩
  have CM1 := hid (CM.out _ hb1)
  have HB1 := hid hb1
  clear hb1 CP CM c1
  go_wp2_with fail
  refine CM1.out.mono ?_
  rintro e w2 ⟨rfl, hb2⟩
  have HB2 := hid (bb HB1.out hb2)
  clear hb2 CM1
  cases I
  · go_wp2_with fail
    go_ret
    exact ⟨by simp, HB2.out⟩
  · cases B1
    · go_wp2_with fail
      go_ret
      exact ⟨by simp [HQ.out.1], HB2.out⟩
    · go_wp2_with fail
      go_ret
      exact ⟨by simp [HQ.out.1, HQ.out.2], HB2.out⟩

end Go.Proofs.YtnbpcgeojmikoaaGreat

namespace Go.Proofs.YtnbpcgeojmikoaaGreat
open Go.RowKit
set_option linter.unusedVariables false

/-- It declares nothing, and has a prefix. -/
noncomputable def cntB (x : At) : Bool := !(declF x).isSome && !decide ((preS x.name).size = 0)

noncomputable def keyN (ts : List Tk) (i : Nat) (x : At) : ByteArray := ((meanF ts i (preS x.name)).getD ⟨#[]⟩ ++ ⟨#[32]⟩) ++ locS x.name

noncomputable def keysN (ts : List Tk) (i : Nat) (l : List At) : List ByteArray := (l.filter cntB).map (keyN ts i)

def AttrsN (ts : List Tk) (i : Nat) (l : List At) : Prop := (∀ x ∈ l, cntB x = true → (meanF ts i (preS x.name)).isSome = true) ∧ (keysN ts i l).Nodup

def ElemN (ts : List Tk) (i : Nat) (t : Tk) : Prop := t.name.size = 0 ∨ ((meanF ts i (preS t.name)).isSome = true ∧ ¬ preS t.name = nsS ∧ AttrsN ts i t.attrs)

def NamesP (ts : List Tk) : Prop := TreeP ts ∧ ∀ i t, ts[i]? = some t → ElemN ts i t

noncomputable def namesB (ts : List Tk) : Bool := open Classical in decide (NamesP ts)

theorem namesB_t {ts : List Tk} (h : NamesP ts) : namesB ts = true := by unfold namesB; simp [h]

theorem namesB_f {ts : List Tk} (h : ¬ NamesP ts) : namesB ts = false := by unfold namesB; simp [h]

variable {ts : List Tk} {i : Nat} {l : List At} {x : At}

theorem attrsN_nil : AttrsN ts i [] ∧ keysN ts i [] = [] := ⟨⟨fun x hx => absurd hx List.not_mem_nil, List.nodup_nil⟩, rfl⟩

theorem attrsN_skip (h : AttrsN ts i l) (hc : cntB x = false) : AttrsN ts i (l ++ [x]) ∧ keysN ts i (l ++ [x]) = keysN ts i l := by
  have e : keysN ts i (l ++ [x]) = keysN ts i l := by
    unfold keysN
    rw [List.filter_append]
    simp [hc]
  refine ⟨⟨fun y hy hcy => ?_, by rw [e]; exact h.2⟩, e⟩
  rcases List.mem_append.1 hy with h' | h'
  · exact h.1 y h' hcy
  · rw [List.mem_singleton] at h'
    subst h'
    rw [hc] at hcy
    cases hcy

theorem keysN_more (hc : cntB x = true) : keysN ts i (l ++ [x]) = keysN ts i l ++ [keyN ts i x] := by
  unfold keysN
  rw [List.filter_append]
  simp [hc]

theorem attrsN_more (h : AttrsN ts i l) (hc : cntB x = true) (hI : (meanF ts i (preS x.name)).isSome = true) (hk : ¬ keyN ts i x ∈ keysN ts i l) : AttrsN ts i (l ++ [x]) ∧ keysN ts i (l ++ [x]) = keysN ts i l ++ [keyN ts i x] := by
  refine ⟨⟨fun y hy hcy => ?_, ?_⟩, keysN_more hc⟩
  · rcases List.mem_append.1 hy with h' | h'
    · exact h.1 y h' hcy
    · rw [List.mem_singleton] at h'
      subst h'
      exact hI
  · rw [keysN_more hc]
    refine List.nodup_append.2 ⟨h.2, List.pairwise_singleton _ _, fun a ha b hb e => ?_⟩
    rw [List.mem_singleton] at hb
    subst hb
    subst e
    exact hk ha

theorem attrsN_bad (hc : cntB x = true) (h : (meanF ts i (preS x.name)).isSome = false ∨ keyN ts i x ∈ keysN ts i l) : ¬ AttrsN ts i (l ++ [x]) := by
  intro ha
  rcases h with h | h
  · have := ha.1 x (List.mem_append.2 (.inr (List.mem_singleton.2 rfl))) hc
    rw [h] at this
    cases this
  · have h2 := ha.2
    rw [keysN_more hc] at h2
    exact (List.nodup_append.1 h2).2.2 _ h _ (List.mem_singleton.2 rfl) rfl

theorem attrsN_take (n : Nat) (h : AttrsN ts i l) : AttrsN ts i (l.take n) := by
  have e : keysN ts i l = keysN ts i (l.take n) ++ keysN ts i (l.drop n) := by
    conv => lhs; rw [← List.take_append_drop n l]
    unfold keysN
    rw [List.filter_append, List.map_append]
  refine ⟨fun y hy hcy => h.1 y (List.mem_of_mem_take hy) hcy, ?_⟩
  have h2 := h.2
  rw [e] at h2
  exact (List.nodup_append.1 h2).1

theorem keysN_len (n : Nat) : (keysN ts i (l.take n)).length ≤ n := by
  unfold keysN
  rw [List.length_map]
  have h1 := List.length_filter_le cntB (l.take n)
  rw [List.length_take] at h1
  omega

theorem row_at (h : i < ts.length) : ∃ t, t ∈ ts ∧ ts[i]? = some t ∧ ∀ wx a, TkRow wx a ts → ∃ b o aa cap, a = some ⟨b, o, none⟩ ∧ b < wx.heap.size ∧ wx.cell? ⟨b, o + i * 4 + 1, none⟩ = some (.string t.name) ∧ wx.cell? ⟨b, o + i * 4 + 2, none⟩ = some (.slice aa t.attrs.length cap) ∧ AtRow wx aa t.attrs := by
  refine ⟨ts[i], List.getElem_mem h, List.getElem?_eq_getElem h, fun wx a hr => ?_⟩
  obtain ⟨b, o, aa, ca, e, hb, q0, q1, q2, q3, q4⟩ := hr i h
  exact ⟨b, o, aa, ca, e, hb, q1, q2, q4⟩

theorem preS_sz {s : ByteArray} (h : s.size ≤ 1048576) : (preS s).size ≤ 1048576 := by
  unfold preS
  rw [size_mk]
  have e : s.data.toList.length = s.size := rfl
  unfold partP
  split
  · have := len_pre s.data.toList
    omega
  · simp

theorem locS_sz {s : ByteArray} (h : s.size ≤ 1048576) : (locS s).size ≤ 1048576 := by
  unfold locS
  rw [size_mk]
  have e : s.data.toList.length = s.size := rfl
  unfold partL
  split
  · have := len_loc s.data.toList
    omega
  · simp

theorem meanF_sz (hz : TksSz 1048576 ts) (p : ByteArray) : ((meanF ts i p).getD ⟨#[]⟩).size ≤ 1048576 := by
  unfold meanF meanL
  split
  · cases hf : (upAts ts (chainF ts (i + 1))).find? (declB p) with
    | none =>
      simp only
      split
      · exact Nat.zero_le _
      · exact Nat.zero_le _
    | some y =>
      simp only [Option.getD_some]
      have hy := List.mem_of_find?_eq_some hf
      unfold upAts at hy
      obtain ⟨j, _, hj⟩ := List.mem_flatMap.1 hy
      cases ht : ts[j]? with
      | none => rw [ht] at hj; exact absurd hj List.not_mem_nil
      | some t =>
        rw [ht] at hj
        exact ((hz t (List.mem_of_getElem? ht)).2.2.1 y hj).2
  · exact Nat.zero_le _

end Go.Proofs.YtnbpcgeojmikoaaGreat
