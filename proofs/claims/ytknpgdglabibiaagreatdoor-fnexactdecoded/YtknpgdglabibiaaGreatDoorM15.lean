/- Contracts of the methods by which a sign is written: reference, itself, inText, inQuotes. Contracts of the program's claimName, declaration (of the claims' own prefix), withKid. Contracts of the specification's l12Id, IdsOk, FindId, IdOf. -/
import Derived.Test.YtknpgdglabibiaaGreatDoorRows
import Derived.Test.YtknpgdglabibiaaGreatDoorM6
import Derived.Test.YtknpgdglabibiaaGreatDoorM1
import Derived.Test.YtknpgdglabibiaaGreatDoorM14
import Derived.Test.YtknpgdglabibiaaGreatDoorM7
import Derived.Test.YtknpgdglabibiaaGreatDoorM11
import Derived.WalkKit
import Derived.Deep.RegionHeld3
namespace Go.Proofs.YtknpgdglabibiaaGreatDoor
open Go.RowKit

theorem ret_str {a b : List UInt8} (h : a = b) : Ending.returned (.string ⟨a.toArray⟩) = .returned (.string ⟨b.toArray⟩) := by rw [h]

end Go.Proofs.YtknpgdglabibiaaGreatDoor

namespace Go.Proofs.YtknpgdglabibiaaGreatDoor
open Go.RowKit
set_option linter.unusedVariables false
set_option linter.unusedSimpArgs false

/-- A name with the prefix of the claims. -/
def cName (s : ByteArray) : ByteArray := (⟨#[99, 58]⟩ : ByteArray) ++ s

theorem q_box2 {w : World} {g : Nat} {x y : Value} {T : TypeId} (h : w.heap[g]? = some (.cells #[x, y] T (0, 0))) : (w.cell? ⟨g, 0, none⟩ = some x ∧ w.cell? ⟨g, 1, none⟩ = some y) ∧ w.frozen? ⟨g, 0, none⟩ = false ∧ w.frozen? ⟨g, 1, none⟩ = false :=
  ⟨⟨by rw [Lib.cell_of_heap h]; rfl, by rw [Lib.cell_of_heap h]; rfl⟩, Lib.frozen_of_heap h 0, Lib.frozen_of_heap h 1⟩

end Go.Proofs.YtknpgdglabibiaaGreatDoor

namespace Go.Proofs.YtknpgdglabibiaaGreatDoor
open Go.RowKit
set_option linter.unusedVariables false
set_option linter.unusedSimpArgs false

set_option maxHeartbeats 2000000 in
theorem c_spec_l12Id (s : ByteArray) (w : World) (hs : s.size ≤ 1048576) :
    Calls Tryz.prog 37 #[.string s] w fun e w' => e = .returned (.bool (idOk s)) ∧ Below w.heap.size w w' := by
  have C := hid (fun wx => c_spec_l1Of idLS 12 s wx hs (by decide) (by decide))
  have E := empty_is s
  unfold idOk
  generalize ofB idLS 12 s = V at *
  cases q : decide (s.size = 0) with
  | true =>
    rw [q] at E
    clear q hs
    go_enter Tryz.func37, Tryz.ntmps37
    go_wp2_with fail
    go_ret
    exact ⟨rfl, Below.refl _ _⟩
  | false =>
    rw [q] at E
    clear q hs
    go_enter Tryz.func37, Tryz.ntmps37
    go_wp2_with fail
    refine (C.out _).mono ?_
    rintro e w1 ⟨rfl, hb1⟩
    have HB1 := hid hb1
    clear hb1 C
    go_wp2_with fail
    go_ret
    exact ⟨rfl, HB1.out⟩

/-- The attributes of a node in its row. -/
theorem ats_row {w : World} {a : Option Addr} {ts : List Tk} (h : TkRow w a ts) {k : Nat} (hk : k < ts.length) : ∃ b o aa ca, a = some ⟨b, o, none⟩ ∧ w.cell? ⟨b, o + k * 4 + 2, none⟩ = some (.slice aa ts[k].attrs.length ca) ∧ AtRow w aa ts[k].attrs := by
  obtain ⟨b, o, aa, ca, e, hb, q0, q1, q2, q3, q4⟩ := h k hk
  exact ⟨b, o, aa, ca, e, q2, q4⟩

theorem valF_mem {l : List At} {name v : ByteArray} (h : valF l name = some v) : ∃ x ∈ l, x.value = v := by
  unfold valF at h
  rw [Option.map_eq_some_iff] at h
  obtain ⟨x, hx, e⟩ := h
  exact ⟨x, List.mem_of_find?_eq_some hx, e⟩

/-- ValueIn at a node of the row. -/
theorem cIdAtS {w : World} {a : Option Addr} {ts : List Tk} (hR : TkRow w a ts) (hn : ts.length ≤ 1048576) (hz : TksSz 1048576 ts) {k : Nat} (hk : k < ts.length) :
    ∃ b o aa na ca, a = some ⟨b, o, none⟩ ∧ w.cell? ⟨b, o + k * 4 + 2, none⟩ = some (.slice aa na ca) ∧ (Calls Tryz.prog 36 #[.slice aa na ca, .string idS] w fun e w' => e = .returned (.tuple #[.string ((idAt ts k).getD ByteArray.empty), .bool (idAt ts k).isSome]) ∧ w' = w) := by
  obtain ⟨b, o, aa, ca, e, c2, hA⟩ := ats_row hR hk
  have h3 := hz _ (List.getElem_mem hk)
  rw [idAt_at hk]
  exact ⟨b, o, aa, _, ca, e, c2, cValueInS aa ca ts[k].attrs idS w hA h3.2.2.1 h3.2.1 (by decide)⟩

theorem idAt_sz {ts : List Tk} (hz : TksSz 1048576 ts) {k : Nat} {v : ByteArray} (hk : k < ts.length) (h : idAt ts k = some v) : v.size ≤ 1048576 := by
  rw [idAt_at hk] at h
  obtain ⟨x, hx, rfl⟩ := valF_mem h
  exact ((hz _ (List.getElem_mem hk)).2.2.1 _ hx).2

set_option maxRecDepth 4000 in
set_option maxHeartbeats 8000000 in
theorem cIdsOkS (a : Option Addr) (cap : Nat) (ts : List Tk) (w : World) (hR : TkRow w a ts) (hn : ts.length ≤ 1048576) (hz : TksSz 1048576 ts) :
    Calls Tryz.prog 15 #[.slice a ts.length cap] w fun e w' => e = .returned (.bool (idsB ts)) ∧ Below w.heap.size w w' := by
  obtain ⟨i0, hi, hz0, hz1, hz2⟩ := info_parts info9
  have HI := hid (And.intro hi (And.intro hz0 (And.intro hz1 hz2)))
  clear hi hz0 hz1 hz2
  have CT := hid (fun wx (hb : Below w.heap.size w wx) => cTreeOkS a cap ts wx (hR.below hb) hn hz)
  obtain ⟨V, hV⟩ : ∃ V, idsB ts = V := ⟨_, rfl⟩
  have HF : Hid (¬ IdsP ts ts.length → V = false) := fun h => by rw [← hV]; exact idsB_f h
  have HT : Hid (IdsP ts ts.length → V = treeB ts) := fun h => by rw [← hV]; exact idsB_is h
  have CA := hid (fun (k : Nat) (hk : k < ts.length) wx (hb : Below w.heap.size w wx) => cIdAtS (hR.below hb) hn hz hk)
  have CZ := hid (fun (k : Nat) (v : ByteArray) (hk : k < ts.length) (h : idAt ts k = some v) => idAt_sz hz hk h)
  rw [hV]
  clear hV hR hz
  generalize treeB ts = T at *
  obtain ⟨n, hnn⟩ : ∃ n, ts.length = n := ⟨_, rfl⟩
  have HN := hid hnn
  rw [hnn] at hn CT CA HF HT CZ ⊢
  clear hnn
  go_enter Tryz.func15, Tryz.ntmps15
  go_wp2_with fail
  go_loopw [3, 4] (fun v3 v4 wr => ∃ (i : Nat) (a3 : Option Addr) (c3 nk : Nat), v4 = .int .i64 (i : Int) ∧ i ≤ n ∧ v3 = .slice a3 nk c3 ∧ nk ≤ i ∧ Hid ((idsTo ts i).length = nk) ∧ Hid (IdsP ts i) ∧ Hid (wr.ownsRow w.heap.size 9 1 (.slice a3 nk c3) nk (keyV (idsTo ts i))) ∧ Hid (Below w.heap.size w wr)) (fun _ v4 _ => n - (intOf v4).toNat)
  case atStart => exact ⟨0, _, _, 0, rfl, Nat.zero_le _, rfl, Nat.zero_le _, rfl, idsP_zero ts, World.ownsRow_made _ _ _ (Nat.le_refl _) (by decide) rfl, (Below.refl _ _).alloc (Nat.le_refl _) _⟩
  case round =>
    obtain ⟨i, a3, c3, nk, rfl, hin, rfl, hki, HNK, HP, HO, HB⟩ := hrel
    by_cases hlt : i < n
    · have hit : (i : Int) < (n : Int) := by omega
      obtain ⟨b, o, aa, na, ca, rfl, c2, hcall⟩ := CA.out i hlt _ HB.out
      have HC := hid hcall
      clear hcall
      go_wp2_with fail
      refine HC.out.mono ?_
      rintro e w1 ⟨rfl, rfl⟩
      clear HC c2
      cases hv : idAt ts i with
      | none =>
        have HP2 := hid (idsP_none hv HP.out)
        have HE := hid (idsTo_none hv)
        clear hv
        go_wp2_with fail
        go_roundw
        case rel => exact ⟨i + 1, a3, c3, nk, by go_num, by omega, rfl, by omega, by rw [HE.out]; exact HNK.out, HP2.out, by rw [HE.out]; exact HO.out, HB.out⟩
        case measure => simp [intOf]; omega
      | some v =>
        have HV := hid hv
        have HVZ := hid (CZ.out i v hlt hv)
        clear hv
        go_wp2_with fail
        go_loop [7] (fun v7 => ∃ q : Nat, v7 = .int .i64 (q : Int) ∧ q ≤ nk ∧ Hid (¬ v ∈ (idsTo ts i).take q)) (fun v7 => nk - (intOf v7).toNat)
        case atStart => exact ⟨0, rfl, Nat.zero_le _, by rw [List.take_zero]; exact List.not_mem_nil⟩
        case round =>
          obtain ⟨q, rfl, hq, HNM⟩ := hrel
          by_cases hql : q < nk
          · have hqs : q < (idsTo ts i).length := by rw [HNK.out]; exact hql
            have hqn : (q : Int) < (nk : Int) := by omega
            obtain ⟨g, ea, cq⟩ := key_cell HO.out HNK.out hqs
            subst ea
            have hzz := str_beq (idsTo ts i)[q] v
            have HTS := hid (take_snocN hqs)
            have HME := hid (List.getElem_mem hqs)
            obtain ⟨kq, hkq⟩ : ∃ kq, (idsTo ts i)[q] = kq := ⟨_, rfl⟩
            rw [hkq] at cq hzz HTS HME
            clear hkq
            by_cases hd : kq = v
            · subst hd
              have HW := hid (HF.out (idsP_bad HV.out hlt (.inr HME.out)))
              rw [decide_eq_true rfl] at hzz
              go_wp2_with fail
              go_ret
              exact ⟨by rw [HW.out]; rfl, HB.out⟩
            · rw [decide_eq_false hd] at hzz
              have HN2 := hid (show ¬ v ∈ (idsTo ts i).take (q + 1) by
                rw [HTS.out, List.mem_append, List.mem_singleton]
                rintro (h | h)
                · exact HNM.out h
                · exact hd h.symm)
              clear hd HME HTS
              go_wp2_with fail
              go_round
              case rel => exact ⟨q + 1, by go_num, by omega, HN2.out⟩
              case measure => simp [intOf]; omega
          · have hqe : q = nk := by omega
            subst hqe
            have HFR := hid (show ¬ v ∈ idsTo ts i by
              have h := HNM.out
              rw [List.take_of_length_le (by rw [HNK.out]; exact Nat.le_refl _)] at h
              exact h)
            clear HNM
            have CI := hid (fun wx => c_spec_l12Id v wx HVZ.out)
            go_wp2_with fail
            refine (CI.out _).mono ?_
            rintro e w2 ⟨rfl, hb2⟩
            have HB2 := hid (bb HB.out hb2)
            have HO2 := hid (ownsRow_below HO.out hb2)
            clear hb2 CI HB HO
            cases hok : idOk v with
            | false =>
              have HW := hid (HF.out (idsP_bad HV.out hlt (.inl hok)))
              clear hok
              go_wp2_with fail
              go_ret
              exact ⟨by rw [HW.out]; rfl, HB2.out⟩
            | true =>
              have HP2 := hid (idsP_some HV.out HP.out hok HFR.out)
              have HE := hid (idsTo_some HV.out)
              have hsz := HB2.out.size
              clear hok
              go_wp2_with (at_builtin; refine wpList_append_own _ rfl _ _ 66 rfl w.heap.size 9 i0 (.string ByteArray.empty) 1 16 Tryz.underlying66 HI.out.1 HI.out.2.1 HI.out.2.2.1 HI.out.2.2.2 rfl (by decide) _ _ _ rfl (HO2.out.alloc _) ⟨w2.heap.size, 0, none⟩ 1 1 [.string v] rfl rfl (one_cell _ _ _) (one_str _) (by unfold maxLen; omega) (by omega) (by simp; omega) ?_)
              intro v' w7 hown' hgrow _
              have HB7 := hid ((HB2.out.alloc hsz _).grown hgrow (by simp; omega) (fun k hk => (HO2.out.lt k hk).1))
              have hle : (idsTo ts (i + 1)).length = q + 1 := by rw [HE.out, List.length_append, HNK.out]; rfl
              rw [← HNK.out] at hown'
              obtain ⟨a9, c9, rfl, ho9⟩ := key_more hown'
              rw [← HE.out, hle] at ho9 ⊢
              have HO9 := hid ho9
              have HLE := hid hle
              clear hown' hgrow ho9 hle
              go_wp2_with fail
              go_roundw
              case rel => exact ⟨i + 1, a9, c9, q + 1, by go_num, by omega, rfl, by omega, HLE.out, HP2.out, HO9.out, HB7.out⟩
              case measure => simp [intOf]; omega
    · have hie : i = n := by omega
      subst hie
      have HW := hid (HT.out HP.out)
      go_wp2_with fail
      refine (CT.out _ HB.out).mono ?_
      rintro e w2 ⟨rfl, hb2⟩
      have HB2 := hid (bb HB.out hb2)
      clear hb2
      go_wp2_with fail
      go_ret
      exact ⟨by rw [HW.out]; rfl, HB2.out⟩

end Go.Proofs.YtknpgdglabibiaaGreatDoor
