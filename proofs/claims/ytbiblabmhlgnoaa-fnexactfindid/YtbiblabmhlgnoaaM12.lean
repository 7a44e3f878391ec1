/- Contracts of the specification's l12Id, IdsOk, FindId, IdOf. Contracts of the specification's FindId, IdOf. Contracts of l8Kids, KidsOf, l8Text and TextIn of the specification. -/
import Derived.Test.YtbiblabmhlgnoaaM11
import Derived.Test.YtbiblabmhlgnoaaM9
import Derived.OwnWalk
namespace Go.Proofs.Ytbiblabmhlgnoaa
open Go.RowKit
set_option linter.unusedVariables false
set_option linter.unusedSimpArgs false

set_option maxHeartbeats 2000000 in
theorem c_spec_l12Id (s : ByteArray) (w : World) (hs : s.size ≤ 1048576) :
    Calls Try.prog 44 #[.string s] w fun e w' => e = .returned (.bool (idOk s)) ∧ Below w.heap.size w w' := by
  have C := hid (fun wx => c_spec_l1Of idLS 12 s wx hs (by decide) (by decide))
  have E := empty_is s
  unfold idOk
  generalize ofB idLS 12 s = V at *
  cases q : decide (s.size = 0) with
  | true =>
    rw [q] at E
    clear q hs
    go_enter Try.func44, Try.ntmps44
    go_wp2_with fail
    go_ret
    exact ⟨rfl, Below.refl _ _⟩
  | false =>
    rw [q] at E
    clear q hs
    go_enter Try.func44, Try.ntmps44
    go_wp2_with fail
    refine (C.out _).mono ?_
    rintro e w1 ⟨rfl, hb1⟩
    have HB1 := hid hb1
    clear hb1 C
    go_wp2_with fail
    go_ret
    exact ⟨rfl, HB1.out⟩

/-- The attributes of a node in its row. -/
theorem ats_row {w : World} {a : Option Addr} {ts : List Tk} (h : TkRow w a ts) {k : Nat} (hk : k < ts.length) : ∃ b o aa ca, a = some ⟨b, o, none⟩ ∧ w.cell? ⟨b, o + k * 4 + 2, none⟩ = some (.slice aa ts[k].attrs.length ca) ∧ AtRow w aa ts[k].attrs := by
  obtain ⟨b, o, aa, ca, e, hb, q0, q1, q2, q3, q4⟩ := h k hk
  exact ⟨b, o, aa, ca, e, q2, q4⟩

theorem valF_mem {l : List At} {name v : ByteArray} (h : valF l name = some v) : ∃ x ∈ l, x.value = v := by
  unfold valF at h
  rw [Option.map_eq_some_iff] at h
  obtain ⟨x, hx, e⟩ := h
  exact ⟨x, List.mem_of_find?_eq_some hx, e⟩

/-- ValueIn at a node of the row. -/
theorem cIdAtS {w : World} {a : Option Addr} {ts : List Tk} (hR : TkRow w a ts) (hn : ts.length ≤ 1048576) (hz : TksSz 1048576 ts) {k : Nat} (hk : k < ts.length) :
    ∃ b o aa na ca, a = some ⟨b, o, none⟩ ∧ w.cell? ⟨b, o + k * 4 + 2, none⟩ = some (.slice aa na ca) ∧ (Calls Try.prog 33 #[.slice aa na ca, .string idS] w fun e w' => e = .returned (.tuple #[.string ((idAt ts k).getD ByteArray.empty), .bool (idAt ts k).isSome]) ∧ w' = w) := by
  obtain ⟨b, o, aa, ca, e, c2, hA⟩ := ats_row hR hk
  have h3 := hz _ (List.getElem_mem hk)
  rw [idAt_at hk]
  exact ⟨b, o, aa, _, ca, e, c2, cValueInS aa ca ts[k].attrs idS w hA h3.2.2.1 h3.2.1 (by decide)⟩

theorem idAt_sz {ts : List Tk} (hz : TksSz 1048576 ts) {k : Nat} {v : ByteArray} (hk : k < ts.length) (h : idAt ts k = some v) : v.size ≤ 1048576 := by
  rw [idAt_at hk] at h
  obtain ⟨x, hx, rfl⟩ := valF_mem h
  exact ((hz _ (List.getElem_mem hk)).2.2.1 _ hx).2

set_option maxRecDepth 4000 in
set_option maxHeartbeats 8000000 in
theorem cIdsOkS (a : Option Addr) (cap : Nat) (ts : List Tk) (w : World) (hR : TkRow w a ts) (hn : ts.length ≤ 1048576) (hz : TksSz 1048576 ts) :
    Calls Try.prog 18 #[.slice a ts.length cap] w fun e w' => e = .returned (.bool (idsB ts)) ∧ Below w.heap.size w w' := by
  obtain ⟨i0, hi, hz0, hz1, hz2⟩ := info_parts info9
  have HI := hid (And.intro hi (And.intro hz0 (And.intro hz1 hz2)))
  clear hi hz0 hz1 hz2
  have CT := hid (fun wx (hb : Below w.heap.size w wx) => cTreeOkS a cap ts wx (hR.below hb) hn hz)
  obtain ⟨V, hV⟩ : ∃ V, idsB ts = V := ⟨_, rfl⟩
  have HF : Hid (¬ IdsP ts ts.length → V = false) := fun h => by rw [← hV]; exact idsB_f h
  have HT : Hid (IdsP ts ts.length → V = treeB ts) := fun h => by rw [← hV]; exact idsB_is h
  have CA := hid (fun (k : Nat) (hk : k < ts.length) wx (hb : Below w.heap.size w wx) => cIdAtS (hR.below hb) hn hz hk)
  have CZ := hid (fun (k : Nat) (v : ByteArray) (hk : k < ts.length) (h : idAt ts k = some v) => idAt_sz hz hk h)
  rw [hV]
  clear hV hR hz
  generalize treeB ts = T at *
  obtain ⟨n, hnn⟩ : ∃ n, ts.length = n := ⟨_, rfl⟩
  have HN := hid hnn
  rw [hnn] at hn CT CA HF HT CZ ⊢
  clear hnn
  go_enter Try.func18, Try.ntmps18
  go_wp2_with fail
  go_loopw [3, 4] (fun v3 v4 wr => ∃ (i : Nat) (a3 : Option Addr) (c3 nk : Nat), v4 = .int .i64 (i : Int) ∧ i ≤ n ∧ v3 = .slice a3 nk c3 ∧ nk ≤ i ∧ Hid ((idsTo ts i).length = nk) ∧ Hid (IdsP ts i) ∧ Hid (wr.ownsRow w.heap.size 9 1 (.slice a3 nk c3) nk (keyV (idsTo ts i))) ∧ Hid (Below w.heap.size w wr)) (fun _ v4 _ => n - (intOf v4).toNat)
  case atStart => exact ⟨0, _, _, 0, rfl, Nat.zero_le _, rfl, Nat.zero_le _, rfl, idsP_zero ts, World.ownsRow_made _ _ _ (Nat.le_refl _) (by decide) rfl, (Below.refl _ _).alloc (Nat.le_refl _) _⟩
  case round =>
    obtain ⟨i, a3, c3, nk, rfl, hin, rfl, hki, HNK, HP, HO, HB⟩ := hrel
    by_cases hlt : i < n
    · have hit : (i : Int) < (n : Int) := by omega
      obtain ⟨b, o, aa, na, ca, rfl, c2, hcall⟩ := CA.out i hlt _ HB.out
      have HC := hid hcall
      clear hcall
      go_wp2_with fail
      refine HC.out.mono ?_
      rintro e w1 ⟨rfl, rfl⟩
      clear HC c2
      cases hv : idAt ts i with
      | none =>
        have HP2 := hid (idsP_none hv HP.out)
        have HE := hid (idsTo_none hv)
        clear hv
        go_wp2_with fail
        go_roundw
        case rel => exact ⟨i + 1, a3, c3, nk, by go_num, by omega, rfl, by omega, by rw [HE.out]; exact HNK.out, HP2.out, by rw [HE.out]; exact HO.out, HB.out⟩
        case measure => simp [intOf]; omega
      | some v =>
        have HV := hid hv
        have HVZ := hid (CZ.out i v hlt hv)
        clear hv
        go_wp2_with fail
        go_loop [7] (fun v7 => ∃ q : Nat, v7 = .int .i64 (q : Int) ∧ q ≤ nk ∧ Hid (¬ v ∈ (idsTo ts i).take q)) (fun v7 => nk - (intOf v7).toNat)
        case atStart => exact ⟨0, rfl, Nat.zero_le _, by rw [List.take_zero]; exact List.not_mem_nil⟩
        case round =>
          obtain ⟨q, rfl, hq, HNM⟩ := hrel
          by_cases hql : q < nk
          · have hqs : q < (idsTo ts i).length := by rw [HNK.out]; exact hql
            have hqn : (q : Int) < (nk : Int) := by omega
            obtain ⟨g, ea, cq⟩ := key_cell HO.out HNK.out hqs
            subst ea
            have hzz := str_beq (idsTo ts i)[q] v
            have HTS := hid (take_snocN hqs)
            have HME := hid (List.getElem_mem hqs)
            obtain ⟨kq, hkq⟩ : ∃ kq, (idsTo ts i)[q] = kq := ⟨_, rfl⟩
            rw [hkq] at cq hzz HTS HME
            clear hkq
            by_cases hd : kq = v
            · subst hd
              have HW := hid (HF.out (idsP_bad HV.out hlt (.inr HME.out)))
              rw [decide_eq_true rfl] at hzz
              go_wp2_with fail
              go_ret
              exact ⟨by rw [HW.out]; rfl, HB.out⟩
            · rw [decide_eq_false hd] at hzz
              have HN2 := hid (show ¬ v ∈ (idsTo ts i).take (q + 1) by
                rw [HTS.out, List.mem_append, List.mem_singleton]
                rintro (h | h)
                · exact HNM.out h
                · exact hd h.symm)
              clear hd HME HTS
              go_wp2_with fail
              go_round
              case rel => exact ⟨q + 1, by go_num, by omega, HN2.out⟩
              case measure => simp [intOf]; omega
          · have hqe : q = nk := by omega
            subst hqe
            have HFR := hid (show ¬ v ∈ idsTo ts i by
              have h := HNM.out
              rw [List.take_of_length_le (by rw [HNK.out]; exact Nat.le_refl _)] at h
              exact h)
            clear HNM
            have CI := hid (fun wx => c_spec_l12Id v wx HVZ.out)
            go_wp2_with fail
            refine (CI.out _).mono ?_
            rintro e w2 ⟨rfl, hb2⟩
            have HB2 := hid (bb HB.out hb2)
            have HO2 := hid (ownsRow_below HO.out hb2)
            clear hb2 CI HB HO
            cases hok : idOk v with
            | false =>
              have HW := hid (HF.out (idsP_bad HV.out hlt (.inl hok)))
              clear hok
              go_wp2_with fail
              go_ret
              exact ⟨by rw [HW.out]; rfl, HB2.out⟩
            | true =>
              have HP2 := hid (idsP_some HV.out HP.out hok HFR.out)
              have HE := hid (idsTo_some HV.out)
              have hsz := HB2.out.size
              clear hok
              go_wp2_with (at_builtin; refine wpList_append_own _ rfl _ _ 58 rfl w.heap.size 9 i0 (.string ByteArray.empty) 1 16 Try.underlying58 HI.out.1 HI.out.2.1 HI.out.2.2.1 HI.out.2.2.2 rfl (by decide) _ _ _ rfl (HO2.out.alloc _) ⟨w2.heap.size, 0, none⟩ 1 1 [.string v] rfl rfl (one_cell _ _ _) (one_str _) (by unfold maxLen; omega) (by omega) (by simp; omega) ?_)
              intro v' w7 hown' hgrow _
              have HB7 := hid ((HB2.out.alloc hsz _).grown hgrow (by simp; omega) (fun k hk => (HO2.out.lt k hk).1))
              have hle : (idsTo ts (i + 1)).length = q + 1 := by rw [HE.out, List.length_append, HNK.out]; rfl
              rw [← HNK.out] at hown'
              obtain ⟨a9, c9, rfl, ho9⟩ := key_more hown'
              rw [← HE.out, hle] at ho9 ⊢
              have HO9 := hid ho9
              have HLE := hid hle
              clear hown' hgrow ho9 hle
              go_wp2_with fail
              go_roundw
              case rel => exact ⟨i + 1, a9, c9, q + 1, by go_num, by omega, rfl, by omega, HLE.out, HP2.out, HO9.out, HB7.out⟩
              case measure => simp [intOf]; omega
    · have hie : i = n := by omega
      subst hie
      have HW := hid (HT.out HP.out)
      go_wp2_with fail
      refine (CT.out _ HB.out).mono ?_
      rintro e w2 ⟨rfl, hb2⟩
      have HB2 := hid (bb HB.out hb2)
      clear hb2
      go_wp2_with fail
      go_ret
      exact ⟨by rw [HW.out]; rfl, HB2.out⟩

end Go.Proofs.Ytbiblabmhlgnoaa

namespace Go.Proofs.Ytbiblabmhlgnoaa
open Go.RowKit
set_option linter.unusedVariables false
set_option linter.unusedSimpArgs false

set_option maxHeartbeats 4000000 in
theorem cFindIdS (a : Option Addr) (cap : Nat) (ts : List Tk) (id : ByteArray) (w : World) (hR : TkRow w a ts) (hn : ts.length ≤ 1048576) (hz : TksSz 1048576 ts) :
    Calls Try.prog 14 #[.slice a ts.length cap, .string id] w fun e w' => e = .returned (.int .i64 (findI ts id)) ∧ Below w.heap.size w w' := by
  have C := hid (cIdsOkS a cap ts w hR hn hz)
  cases hh : idsB ts with
  | false =>
    have HE := hid (show findI ts id = -1 by unfold findI; rw [hh]; rfl)
    rw [HE.out]
    rw [hh] at C
    clear hh HE hR hz
    generalize ts.length = n at *
    go_enter Try.func14, Try.ntmps14
    go_wp2_with fail
    refine C.out.mono ?_
    rintro e w1 ⟨rfl, hb1⟩
    have HB1 := hid hb1
    clear hb1 C
    go_wp2_with fail
    go_ret
    exact ⟨rfl, HB1.out⟩
  | true =>
    have CA := hid (fun (k : Nat) (hk : k < ts.length) wx (hb : Below w.heap.size w wx) => cIdAtS (hR.below hb) hn hz hk)
    have HE := hid (show findI ts id = findN ts id ts.length by unfold findI; rw [hh]; rfl)
    rw [HE.out]
    rw [hh] at C
    clear hh HE hR hz
    obtain ⟨V, hV⟩ : ∃ V, findN ts id ts.length = V := ⟨_, rfl⟩
    have HV := hid hV
    rw [hV]
    obtain ⟨n, hnn⟩ : ∃ n, ts.length = n := ⟨_, rfl⟩
    rw [hnn] at hn C CA HV ⊢
    clear hnn hV
    go_enter Try.func14, Try.ntmps14
    go_wp2_with fail
    refine C.out.mono ?_
    rintro e w1 ⟨rfl, hb1⟩
    have HB1 := hid hb1
    clear hb1 C
    go_wp2_with fail
    go_loop [5] (fun v => ∃ k : Nat, v = .int .i64 (k : Int) ∧ k ≤ n ∧ Hid (∀ j, j < k → ¬ idAt ts j = some id)) (fun v => n - (intOf v).toNat)
    case atStart => exact ⟨0, rfl, Nat.zero_le _, fun j h => absurd h (Nat.not_lt_zero _)⟩
    case round =>
      obtain ⟨k, rfl, hk, HA⟩ := hrel
      by_cases hlt : k < n
      · have hkn : (k : Int) < (n : Int) := by omega
        obtain ⟨b, o, aa, na, ca, rfl, c2, hcall⟩ := CA.out k hlt _ HB1.out
        have HC := hid hcall
        clear hcall
        go_wp2_with fail
        refine HC.out.mono ?_
        rintro e w2 ⟨rfl, rfl⟩
        clear HC c2
        have hs := str_beq ((idAt ts k).getD ByteArray.empty) id
        by_cases hd : idAt ts k = some id
        · have HW := hid (show V = (k : Int) by rw [← HV.out]; exact findN_at hlt HA.out hd)
          rw [hd] at hs ⊢
          simp only [Option.getD_some, decide_true] at hs
          clear hd
          go_wp2_with fail
          go_ret
          exact ⟨by rw [HW.out]; rfl, HB1.out⟩
        · have HA2 := hid (show ∀ j, j < k + 1 → ¬ idAt ts j = some id from fun j h => by
            rcases Nat.lt_or_eq_of_le (Nat.le_of_lt_succ h) with h' | rfl
            · exact HA.out j h'
            · exact hd)
          cases hv : idAt ts k with
          | none =>
            clear hs hd hv
            go_wp2_with fail
            go_round
            case rel => exact ⟨k + 1, by go_num, by omega, HA2.out⟩
            case measure => simp [intOf]; omega
          | some v =>
            rw [hv] at hd hs
            have h2 : ¬ v = id := fun e => hd (by rw [e])
            simp only [Option.getD_some] at hs
            rw [decide_eq_false h2] at hs
            clear hd h2 hv
            go_wp2_with fail
            go_round
            case rel => exact ⟨k + 1, by go_num, by omega, HA2.out⟩
            case measure => simp [intOf]; omega
      · have hke : k = n := by omega
        subst hke
        have HW := hid (show V = -1 by rw [← HV.out]; exact findN_none HA.out)
        go_wp2_with fail
        go_ret
        exact ⟨by rw [HW.out]; rfl, HB1.out⟩

set_option maxHeartbeats 4000000 in
theorem cIdOfS (a : Option Addr) (cap : Nat) (ts : List Tk) (x : Int) (w : World) (hR : TkRow w a ts) (hn : ts.length ≤ 1048576) (hz : TksSz 1048576 ts) :
    Calls Try.prog 16 #[.slice a ts.length cap, .int .i64 x] w fun e w' => e = .returned (.string (idI ts x)) ∧ Below w.heap.size w w' := by
  have C := hid (cIdsOkS a cap ts w hR hn hz)
  by_cases hq : idsB ts = true ∧ 0 ≤ x ∧ x < ts.length
  · obtain ⟨k, rfl⟩ : ∃ k : Nat, x = k := ⟨x.toNat, by omega⟩
    have hk : k < ts.length := by omega
    have HE := hid (show idI ts (k : Int) = (idAt ts k).getD ByteArray.empty by unfold idI; rw [if_pos hq]; rfl)
    rw [HE.out]
    rw [hq.1] at C
    have CA := hid (fun wx (hb : Below w.heap.size w wx) => cIdAtS (hR.below hb) hn hz hk)
    have h1 : (k : Int) < (ts.length : Int) := by omega
    have h2 : decide ((k : Int) < 0) = false := by simp
    have h3 : decide ((ts.length : Int) ≤ (k : Int)) = false := by simp; omega
    clear hq hR hz HE hk
    generalize (idAt ts k).getD ByteArray.empty = G at *
    generalize (idAt ts k).isSome = I at *
    generalize ts.length = n at *
    go_enter Try.func16, Try.ntmps16
    go_wp2_with fail
    refine C.out.mono ?_
    rintro e w1 ⟨rfl, hb1⟩
    have HB1 := hid hb1
    obtain ⟨b, o, aa, na, ca, rfl, c2, hcall⟩ := CA.out _ hb1
    have HC := hid hcall
    clear hb1 C CA hcall
    go_wp2_with fail
    refine HC.out.mono ?_
    rintro e w2 ⟨rfl, rfl⟩
    clear HC c2
    go_wp2_with fail
    go_ret
    exact ⟨rfl, HB1.out⟩
  · have HE := hid (show idI ts x = ByteArray.empty by unfold idI; rw [if_neg hq])
    rw [HE.out]
    cases hi : idsB ts with
    | false =>
      rw [hi] at C
      clear hi hq hR hz HE
      generalize ts.length = n at *
      go_enter Try.func16, Try.ntmps16
      go_wp2_with fail
      refine C.out.mono ?_
      rintro e w1 ⟨rfl, hb1⟩
      have HB1 := hid hb1
      clear hb1 C
      go_wp2_with fail
      go_ret
      exact ⟨rfl, HB1.out⟩
    | true =>
      rw [hi] at C
      by_cases h0 : x < 0
      · have h1 : decide (x < 0) = true := decide_eq_true h0
        clear hi hq hR hz HE h0
        generalize ts.length = n at *
        go_enter Try.func16, Try.ntmps16
        go_wp2_with fail
        refine C.out.mono ?_
        rintro e w1 ⟨rfl, hb1⟩
        have HB1 := hid hb1
        clear hb1 C
        go_wp2_with fail
        go_ret
        exact ⟨rfl, HB1.out⟩
      · have h1 : decide (x < 0) = false := decide_eq_false h0
        have h2 : (ts.length : Int) ≤ x := by
          rcases Int.lt_or_le x ts.length with h' | h'
          · exact absurd ⟨hi, by omega, h'⟩ hq
          · exact h'
        have h3 : decide ((ts.length : Int) ≤ x) = true := decide_eq_true h2
        clear hi hq hR hz HE
        generalize ts.length = n at *
        go_enter Try.func16, Try.ntmps16
        go_wp2_with fail
        refine C.out.mono ?_
        rintro e w1 ⟨rfl, hb1⟩
        have HB1 := hid hb1
        clear hb1 C
        go_wp2_with fail
        go_ret
        exact ⟨rfl, HB1.out⟩

end Go.Proofs.Ytbiblabmhlgnoaa

namespace Go.Proofs.Ytbiblabmhlgnoaa
open Go.RowKit
set_option linter.unusedVariables false
set_option linter.unusedSimpArgs false

/-- Nodes up to e whose parent it is. -/
def kidsTo (ts : List Tk) (k e : Nat) : List Nat := (List.range e).filter fun i => decide (k < i) && decide (parI ts i = (k : Int))

/-- Nodes whose parent it is. -/
def kidsN (ts : List Tk) (k : Nat) : List Nat := kidsTo ts k ts.length

theorem kidsTo_first (ts : List Tk) (k : Nat) : kidsTo ts k (k + 1) = [] := by
  unfold kidsTo
  rw [List.filter_eq_nil_iff]
  intro i hi
  have := List.mem_range.1 hi
  simp
  omega

theorem kidsTo_next {ts : List Tk} {k e : Nat} (h : k < e) : kidsTo ts k (e + 1) = kidsTo ts k e ++ (if parI ts e = (k : Int) then [e] else []) := by
  unfold kidsTo
  rw [List.range_succ, List.filter_append]
  congr 1
  by_cases q : parI ts e = (k : Int)
  · simp [h, q]
  · simp [q]

theorem kidsTo_len (ts : List Tk) (k e : Nat) : (kidsTo ts k e).length ≤ e := by
  have := List.length_filter_le (fun i => decide (k < i) && decide (parI ts i = (k : Int))) (List.range e)
  rw [List.length_range] at this
  exact this

theorem kidsN_lt {ts : List Tk} {k i : Nat} (h : i ∈ kidsN ts k) : i < ts.length := List.mem_range.1 (List.mem_filter.1 h).1

/-- Numbers as cells. -/
def intC (l : List Nat) : List Value := l.map fun (i : Nat) => .int .i64 (i : Int)

theorem intC_len (l : List Nat) : (intC l).length = l.length := by simp [intC]

theorem intC_app (l m : List Nat) : intC (l ++ m) = intC l ++ intC m := by simp [intC]

theorem info64 : (Try.prog.info? 2).map (fun i => (i.zero, i.size, i.bytes)) = some (some (.int .i64 0), 1, 8) := by kernel_rfl

theorem one_cell64 (w : World) (v : Value) : ∀ j u, [v][j]? = some u → (w.alloc (.cells #[v] 2)).cell? ((⟨w.heap.size, 0, none⟩ : Addr).add j) = some u := by
  intro j u hj
  match j, hj with
  | 0, hj => simp at hj; subst hj; simp [Addr.add]

theorem one_one64 (n : Int) : ∀ u ∈ [Value.int .i64 n], u.oneCell' = true := by
  intro u hu; simp at hu; subst hu; rfl

/-- A cell of a row of numbers of our own. -/
theorem row64 {w : World} {B : Nat} {v : Value} {l : List Nat} (h : w.ownsRow B 2 1 v l.length (intC l)) : (∃ a cap, v = .slice a l.length cap) ∧ ∀ i (hi : i < l.length), ∃ g cap, v = .slice (some ⟨g, 0, none⟩) l.length cap ∧ g < w.heap.size ∧ w.cell? ⟨g, i, none⟩ = some (.int .i64 (l[i] : Int)) := by
  rcases h.2 with ⟨rfl, h0⟩ | ⟨g, cap, cur, rfl, hg, hh, hn, hc, hs, ht⟩
  · have : l = [] := List.eq_nil_of_length_eq_zero h0
    subst this
    exact ⟨⟨none, 0, rfl⟩, fun i hi => absurd hi (Nat.not_lt_zero _)⟩
  · refine ⟨⟨_, _, rfl⟩, fun i hi => ⟨g, cap, rfl, lt_of_heap hh, ?_⟩⟩
    rw [Lib.cell_of_heap hh, ← Array.getElem?_toList]
    have hk : (intC l)[i]? = some (.int .i64 (l[i] : Int)) := by
      unfold intC
      rw [List.getElem?_map, List.getElem?_eq_getElem hi]
      rfl
    rw [← ht, List.getElem?_take] at hk
    split at hk
    · exact hk
    · cases hk

theorem row64_mono {w : World} {B B' n : Nat} {v : Value} {xs : List Value} {e : TypeId} (h : w.ownsRow B' e 1 v n xs) (hB : B ≤ B') : w.ownsRow B e 1 v n xs := by
  refine ⟨h.1, ?_⟩
  rcases h.2 with h' | ⟨g, cap, cur, h1, h2, h3⟩
  · exact .inl h'
  · exact .inr ⟨g, cap, cur, h1, Nat.le_trans hB h2, h3⟩

noncomputable def kidsI (ts : List Tk) (x : Int) : List Nat := if hasB ts x = true then kidsN ts x.toNat else []

def textAt (ts : List Tk) (k : Nat) : ByteArray := match ts[k]? with | some t => t.text | none => ⟨#[]⟩

theorem textAt_at {ts : List Tk} {k : Nat} (h : k < ts.length) : textAt ts k = ts[k].text := by unfold textAt; rw [List.getElem?_eq_getElem h]

/-- The texts of these, one behind the other. -/
def joinT (ts : List Tk) (ks : List Nat) : ByteArray := ks.foldl (fun s k => s ++ textAt ts k) ⟨#[]⟩

theorem joinT_snoc (ts : List Tk) (ks : List Nat) (k : Nat) : joinT ts (ks ++ [k]) = joinT ts ks ++ textAt ts k := by simp [joinT]

theorem tree_text {ts : List Tk} (h : TreeP ts) (k : Nat) : (textAt ts k).size ≤ 60 := by
  by_cases hk : k < ts.length
  · rw [textAt_at hk]
    obtain ⟨⟨_, hb⟩, _⟩ := h.2.2.2.2 k hk
    by_cases e : ts[k].name.size = 0
    · rw [nodeB_tx e] at hb
      simp only [Bool.and_eq_true, textB, decide_eq_true_eq] at hb
      exact hb.2.2.2
    · rw [nodeB_el e] at hb
      simp only [Bool.and_eq_true, decide_eq_true_eq] at hb
      omega
  · unfold textAt
    rw [List.getElem?_eq_none (by omega)]
    exact Nat.zero_le _

theorem joinT_size {ts : List Tk} (h : ∀ k, (textAt ts k).size ≤ 60) (ks : List Nat) : (joinT ts ks).size ≤ 60 * ks.length := by
  have H : ∀ (ks : List Nat) (s : ByteArray), (ks.foldl (fun s k => s ++ textAt ts k) s).size ≤ s.size + 60 * ks.length := by
    intro ks
    induction ks with
    | nil => intro s; simp
    | cons k ks ih =>
      intro s
      have := ih (s ++ textAt ts k)
      have h2 := h k
      rw [ByteArray.size_append] at this
      simp only [List.foldl_cons, List.length_cons]
      omega
  have := H ks ⟨#[]⟩
  rw [show (⟨#[]⟩ : ByteArray).size = 0 from rfl] at this
  unfold joinT
  omega

noncomputable def textI (ts : List Tk) (x : Int) : ByteArray := if hasB ts x = true then joinT ts (kidsN ts x.toNat) else ⟨#[]⟩

end Go.Proofs.Ytbiblabmhlgnoaa
