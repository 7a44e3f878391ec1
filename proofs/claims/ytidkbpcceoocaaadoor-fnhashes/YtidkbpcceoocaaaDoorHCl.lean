/- Plain mathematics of a clash: two unlike texts with one hash; stamps; what two maps hold on the way. -/
import Derived.Test.YtidkbpcceoocaaaDoorHMath
import Derived.Test.YtidkbpcceoocaaaDoorHDig
import Derived.Test.YtidkbpcceoocaaaDoorHDigits
namespace Go.Proofs.YtidkbpcceoocaaaDoor
set_option linter.unusedVariables false
set_option linter.unusedSimpArgs false

theorem valD_dec (n : Nat) : valD (Lib.decDigits n) = n := by
  induction n using Nat.strongRecOn with
  | ind n ih =>
    by_cases h : n < 10
    · rw [dec_small h]
      simp only [valD, List.foldl_cons, List.foldl_nil, dgt_toNat n h]
      omega
    · rw [dec_big h, valD_snoc, ih (n / 10) (by omega), dgt_toNat _ (by omega)]
      omega

theorem fold_noughts (l : List UInt8) : ∀ k, (List.replicate k (48 : UInt8) ++ l).foldl (fun n c => 10 * n + (c.toNat - 48)) 0 = l.foldl (fun n c => 10 * n + (c.toNat - 48)) 0
  | 0 => by simp
  | k + 1 => by
    rw [List.replicate_succ, List.cons_append, List.foldl_cons]
    have : 10 * 0 + ((48 : UInt8).toNat - 48) = 0 := rfl
    rw [this]
    exact fold_noughts l k

theorem valD_pad (n wd : Nat) : valD (padL n wd) = n := by
  unfold padL
  have : valD (List.replicate (wd - (Lib.decDigits n).length) 48 ++ Lib.decDigits n) = valD (Lib.decDigits n) := fold_noughts _ _
  rw [this, valD_dec]

/-- The hash of a text. -/
def hsB (t : ByteArray) : Nat := hsL t.data.toList

theorem hsB_lt (t : ByteArray) : hsB t < 2147483647 := hsL_lt _

/-- Are there two unlike texts with one hash? -/
def clB (ss : List ByteArray) : Bool := ss.any fun a => ss.any fun b => decide (a ≠ b) && decide (hsB a = hsB b)

theorem clB_true {ss : List ByteArray} {a b : ByteArray} (ha : a ∈ ss) (hb : b ∈ ss) (hn : a ≠ b) (he : hsB a = hsB b) : clB ss = true := by
  unfold clB
  rw [List.any_eq_true]
  refine ⟨a, ha, ?_⟩
  rw [List.any_eq_true]
  exact ⟨b, hb, by simp [hn, he]⟩

theorem clB_false {ss : List ByteArray} (h : ∀ a ∈ ss, ∀ b ∈ ss, hsB a = hsB b → a = b) : clB ss = false := by
  unfold clB
  rw [List.any_eq_false]
  intro a ha
  rw [Bool.not_eq_true, List.any_eq_false]
  intro b hb
  by_cases e : hsB a = hsB b
  · simp [h a ha b hb e]
  · simp [e]

/-- Where a text stands first. -/
def fidx (ss : List ByteArray) (t : ByteArray) : Nat := ss.findIdx fun u => decide (u = t)

theorem fidx_get {ss : List ByteArray} {t : ByteArray} (h : t ∈ ss) : ss[fidx ss t]? = some t := by
  have hlt : fidx ss t < ss.length := List.findIdx_lt_length_of_exists ⟨t, h, by simp⟩
  have hp := List.findIdx_getElem (xs := ss) (p := fun u => decide (u = t)) (w := hlt)
  rw [List.getElem?_eq_getElem hlt]
  exact congrArg some (of_decide_eq_true hp)

theorem fidx_inj {ss : List ByteArray} {t u : ByteArray} (ht : t ∈ ss) (hu : u ∈ ss) (h : fidx ss t = fidx ss u) : t = u := by
  have h1 := fidx_get ht
  have h2 := fidx_get hu
  rw [h, h2] at h1
  exact (Option.some.inj h1).symm

theorem fidx_at {ss : List ByteArray} {i : Nat} (hi : i < ss.length) (h : ss[i] ∉ ss.take i) : fidx ss ss[i] = i := by
  unfold fidx
  rw [List.findIdx_eq hi]
  refine ⟨by simp, fun j hj => ?_⟩
  simp only [decide_eq_false_iff_not]
  intro e
  apply h
  rw [← e]
  exact List.mem_take_iff_getElem.2 ⟨j, by omega, rfl⟩

theorem take_next {ss : List ByteArray} {i : Nat} (hi : i < ss.length) : ss.take (i + 1) = ss.take i ++ [ss[i]] := by
  rw [List.take_succ_eq_append_getElem hi]

/-- A text's stamp. -/
def stp (ss : List ByteArray) (t : ByteArray) : Int × Int := ((hsB t : Nat), (fidx ss t : Nat))

open Classical in
/-- The first map behind i rounds. -/
noncomputable def fM (ss : List ByteArray) (i : Nat) (t : ByteArray) : Option (Int × Int) := if t ∈ ss.take i then some (stp ss t) else none

theorem fM_zero (ss : List ByteArray) : fM ss 0 = fun _ => none := by
  funext t
  simp [fM]

theorem fM_in {ss : List ByteArray} {i : Nat} (hi : i < ss.length) (h : ss[i] ∈ ss.take i) : fM ss (i + 1) = fM ss i := by
  funext t
  unfold fM
  rw [take_next hi]
  by_cases h1 : t ∈ ss.take i
  · rw [if_pos h1, if_pos (List.mem_append_left _ h1)]
  · rw [if_neg h1, if_neg]
    intro h2
    rcases List.mem_append.1 h2 with h2 | h2
    · exact h1 h2
    · rw [List.mem_singleton] at h2
      exact h1 (h2 ▸ h)

theorem fM_new {ss : List ByteArray} {i : Nat} (hi : i < ss.length) (h : ss[i] ∉ ss.take i) : fM ss (i + 1) = fun t => if t = ss[i] then some (((hsB ss[i] : Nat) : Int), (i : Int)) else fM ss i t := by
  funext t
  unfold fM
  rw [take_next hi]
  by_cases h0 : t = ss[i]
  · subst h0
    rw [if_pos (List.mem_append_right _ (List.mem_singleton_self _)), if_pos rfl]
    unfold stp
    rw [fidx_at hi h]
  · rw [if_neg h0]
    by_cases h1 : t ∈ ss.take i
    · rw [if_pos h1, if_pos (List.mem_append_left _ h1)]
    · rw [if_neg h1, if_neg]
      intro h2
      rcases List.mem_append.1 h2 with h2 | h2
      · exact h1 h2
      · exact h0 (List.mem_singleton.1 h2)

/-- A hash as it is written. -/
def keyB (t : ByteArray) : ByteArray := ⟨(dgL ((hsB t : Nat) : Int)).toArray⟩

theorem keyB_inj {t u : ByteArray} (h : keyB t = keyB u) : hsB t = hsB u := by
  have h1 := hsB_lt t
  have h2 := hsB_lt u
  unfold keyB dgL at h
  rw [if_pos (by omega), if_pos (by omega)] at h
  have h3 := congrArg ByteArray.data h
  simp only [Int.toNat_natCast] at h3
  have h4 := congrArg valD (List.toArray_inj h3)
  rw [valD_pad, valD_pad] at h4
  exact h4

def gM (ss l : List ByteArray) (k : ByteArray) : Option (Int × Int) := (l.reverse.find? fun t => decide (keyB t = k)).map (stp ss)

theorem gM_nil (ss : List ByteArray) : gM ss [] = fun _ => none := rfl

theorem gM_snoc (ss l : List ByteArray) (t : ByteArray) : gM ss (l ++ [t]) = fun k => if k = keyB t then some (stp ss t) else gM ss l k := by
  funext k
  unfold gM
  rw [List.reverse_append, List.reverse_singleton, List.singleton_append, List.find?_cons]
  by_cases h : k = keyB t
  · subst h
    simp
  · have h' : ¬ keyB t = k := fun e => h e.symm
    simp [h, h']

def Good (ss : List ByteArray) (i : Nat) : Prop := ∀ u ∈ ss.take i, ∀ v ∈ ss.take i, hsB u = hsB v → u = v

theorem good_zero (ss : List ByteArray) : Good ss 0 := by
  intro u hu
  simp at hu

theorem good_end {ss : List ByteArray} (h : Good ss ss.length) : clB ss = false := by
  unfold Good at h
  rw [List.take_length] at h
  exact clB_false h

theorem gM_some {ss : List ByteArray} {i : Nat} {k : ByteArray} {p : Int × Int} (h : gM ss (ss.take i) k = some p) : ∃ u ∈ ss.take i, keyB u = k ∧ p = stp ss u := by
  unfold gM at h
  rw [Option.map_eq_some_iff] at h
  obtain ⟨u, hu, rfl⟩ := h
  have h1 := List.find?_some hu
  have h2 := List.mem_of_find?_eq_some hu
  exact ⟨u, List.mem_reverse.1 h2, of_decide_eq_true h1, rfl⟩

theorem clash_now {ss : List ByteArray} {i : Nat} (hi : i < ss.length) {p : Int × Int} (h : gM ss (ss.take i) (keyB ss[i]) = some p) (hne : p ≠ stp ss ss[i]) : clB ss = true := by
  obtain ⟨u, hu, hk, rfl⟩ := gM_some h
  refine clB_true (List.mem_of_mem_take hu) (List.getElem_mem hi) ?_ (keyB_inj hk)
  rintro rfl
  exact hne rfl

theorem clash_not {ss : List ByteArray} {i : Nat} (hi : i < ss.length) (hG : Good ss i) (h : gM ss (ss.take i) (keyB ss[i]) = none ∨ gM ss (ss.take i) (keyB ss[i]) = some (stp ss ss[i])) : Good ss (i + 1) := by
  have key : ∀ u ∈ ss.take i, hsB u = hsB ss[i] → u = ss[i] := by
    intro u hu he
    have hk : keyB u = keyB ss[i] := by unfold keyB; rw [he]
    rcases h with h | h
    · exfalso
      unfold gM at h
      rw [Option.map_eq_none_iff, List.find?_eq_none] at h
      exact h u (List.mem_reverse.2 hu) (by simp [hk])
    · obtain ⟨v, hv, hkv, hp⟩ := gM_some h
      have e1 : v = ss[i] := by
        refine fidx_inj (List.mem_of_mem_take hv) (List.getElem_mem hi) ?_
        have := congrArg Prod.snd hp
        simp only [stp] at this
        omega
      have e2 : u = v := hG u hu v hv (he.trans (keyB_inj hkv).symm)
      rw [e2, e1]
  intro u hu v hv he
  rw [take_next hi] at hu hv
  rcases List.mem_append.1 hu with hu | hu
  · rcases List.mem_append.1 hv with hv | hv
    · exact hG u hu v hv he
    · rw [List.mem_singleton] at hv
      subst hv
      exact key u hu he
  · rw [List.mem_singleton] at hu
    subst hu
    rcases List.mem_append.1 hv with hv | hv
    · exact (key v hv he.symm).symm
    · exact (List.mem_singleton.1 hv).symm

end Go.Proofs.YtidkbpcceoocaaaDoor
