/- Identifiers: what the document says of them, as functions of the nodes. Contracts of the specification's l12Id, IdsOk, FindId, IdOf. The tokens of a tree (plain mathematics). -/
import Derived.Test.YtkejmifkjgpdjaaGreatM14
import Derived.Test.YtkejmifkjgpdjaaGreatM8
namespace Go.Proofs.YtkejmifkjgpdjaaGreat
open Go.RowKit
set_option linter.unusedVariables false
set_option linter.unusedSimpArgs false

def idS : ByteArray := ⟨#[73, 100]⟩
def idLS : ByteArray := ⟨#[97, 98, 99, 100, 101, 102, 103, 104, 105, 106, 107, 108, 109, 110, 111, 112, 113, 114, 115, 116, 117, 118, 119, 120, 121, 122, 48, 49, 50, 51, 52, 53, 54, 55, 56, 57]⟩

/-- A text that may be an identifier. -/
def idOk (s : ByteArray) : Bool := !decide (s.size = 0) && ofB idLS 12 s

/-- The identifier of that node. -/
def idAt (ts : List Tk) (k : Nat) : Option ByteArray := (ts[k]?).bind fun t => valF t.attrs idS

theorem idAt_at {ts : List Tk} {k : Nat} (h : k < ts.length) : idAt ts k = valF ts[k].attrs idS := by
  unfold idAt
  rw [List.getElem?_eq_getElem h]
  rfl

/-- The identifiers of the nodes before e, in their order. -/
def idsTo (ts : List Tk) (e : Nat) : List ByteArray := (List.range e).filterMap (idAt ts)

theorem idsTo_next (ts : List Tk) (e : Nat) : idsTo ts (e + 1) = idsTo ts e ++ (idAt ts e).toList := by
  unfold idsTo
  rw [List.range_succ, List.filterMap_append]
  cases h : idAt ts e with
  | none => rw [List.filterMap_cons_none h]; rfl
  | some v => rw [List.filterMap_cons_some h]; rfl

theorem idsTo_none {ts : List Tk} {e : Nat} (h : idAt ts e = none) : idsTo ts (e + 1) = idsTo ts e := by
  rw [idsTo_next, h]
  exact List.append_nil _

theorem idsTo_some {ts : List Tk} {e : Nat} {v : ByteArray} (h : idAt ts e = some v) : idsTo ts (e + 1) = idsTo ts e ++ [v] := by
  rw [idsTo_next, h]
  rfl

theorem idsTo_len (ts : List Tk) (e : Nat) : (idsTo ts e).length ≤ e := by
  have := List.length_filterMap_le (idAt ts) (List.range e)
  rw [List.length_range] at this
  exact this

theorem mem_idsTo {ts : List Tk} {e : Nat} {v : ByteArray} : v ∈ idsTo ts e ↔ ∃ k, k < e ∧ idAt ts k = some v := by
  unfold idsTo
  rw [List.mem_filterMap]
  exact ⟨fun ⟨k, h, q⟩ => ⟨k, List.mem_range.1 h, q⟩, fun ⟨k, h, q⟩ => ⟨k, List.mem_range.2 h, q⟩⟩

/-- All before e are right, and no two are alike. -/
def IdsP (ts : List Tk) (e : Nat) : Prop := (∀ v ∈ idsTo ts e, idOk v = true) ∧ (idsTo ts e).Nodup

theorem idsP_zero (ts : List Tk) : IdsP ts 0 := ⟨fun v h => absurd h List.not_mem_nil, List.nodup_nil⟩

theorem idsP_none {ts : List Tk} {e : Nat} (h : idAt ts e = none) (hP : IdsP ts e) : IdsP ts (e + 1) := by
  unfold IdsP
  rw [idsTo_none h]
  exact hP

theorem idsP_some {ts : List Tk} {e : Nat} {v : ByteArray} (h : idAt ts e = some v) (hP : IdsP ts e) (ho : idOk v = true) (hf : ¬ v ∈ idsTo ts e) : IdsP ts (e + 1) := by
  unfold IdsP
  rw [idsTo_some h]
  refine ⟨fun x hx => ?_, ?_⟩
  · rcases List.mem_append.1 hx with h' | h'
    · exact hP.1 x h'
    · rw [List.mem_singleton.1 h']; exact ho
  · rw [List.nodup_append]
    refine ⟨hP.2, by simp, fun x hx y hy => ?_⟩
    rw [List.mem_singleton.1 hy]
    exact fun e => hf (e ▸ hx)

theorem idsP_step {ts : List Tk} {e : Nat} (h : IdsP ts (e + 1)) : IdsP ts e := by
  unfold IdsP at h
  rw [idsTo_next] at h
  exact ⟨fun v hv => h.1 v (List.mem_append_left _ hv), (List.nodup_append.1 h.2).1⟩

theorem idsP_le {ts : List Tk} {e : Nat} : ∀ n, e ≤ n → IdsP ts n → IdsP ts e
  | 0, h, hP => by
    have : e = 0 := by omega
    subst this
    exact hP
  | n + 1, h, hP => by
    rcases Nat.lt_or_ge n e with h' | h'
    · have : e = n + 1 := by omega
      subst this
      exact hP
    · exact idsP_le n h' (idsP_step hP)

theorem idsP_bad {ts : List Tk} {e n : Nat} {v : ByteArray} (h : idAt ts e = some v) (he : e < n) (hb : idOk v = false ∨ v ∈ idsTo ts e) : ¬ IdsP ts n := by
  intro hP
  have h1 := idsP_le (e := e + 1) n he hP
  unfold IdsP at h1
  rw [idsTo_some h] at h1
  rcases hb with h' | h'
  · have := h1.1 v (by simp)
    rw [h'] at this
    cases this
  · exact (List.nodup_append.1 h1.2).2.2 v h' v (by simp) rfl

/-- No two nodes have the same identifier. -/
theorem ids_one {ts : List Tk} : ∀ {n : Nat}, IdsP ts n → ∀ {j k : Nat} {v : ByteArray}, j < n → k < n → idAt ts j = some v → idAt ts k = some v → j = k := by
  intro n hP j k v hj hk h1 h2
  rcases Nat.lt_trichotomy j k with h' | h' | h'
  · exact absurd hP (idsP_bad h2 hk (.inr (mem_idsTo.2 ⟨j, h', h1⟩)))
  · exact h'
  · exact absurd hP (idsP_bad h1 hj (.inr (mem_idsTo.2 ⟨k, h', h2⟩)))

noncomputable def idsB (ts : List Tk) : Bool := open Classical in decide (IdsP ts ts.length) && treeB ts

theorem idsB_f {ts : List Tk} (h : ¬ IdsP ts ts.length) : idsB ts = false := by unfold idsB; simp [h]

theorem idsB_is {ts : List Tk} (h : IdsP ts ts.length) : idsB ts = treeB ts := by unfold idsB; simp [h]

theorem idsB_t {ts : List Tk} (h : idsB ts = true) : IdsP ts ts.length ∧ treeB ts = true := by
  by_cases q : IdsP ts ts.length
  · exact ⟨q, by rw [← idsB_is q]; exact h⟩
  · rw [idsB_f q] at h; cases h

/-- Where the identifier stands, or -1. -/
def findN (ts : List Tk) (id : ByteArray) (n : Nat) : Int := match (List.range n).find? (fun k => decide (idAt ts k = some id)) with | some k => (k : Int) | none => -1

theorem findN_none {ts : List Tk} {id : ByteArray} {n : Nat} (h : ∀ j, j < n → ¬ idAt ts j = some id) : findN ts id n = -1 := by
  unfold findN
  rw [List.find?_eq_none.2 (fun x hx => by simpa using h x (List.mem_range.1 hx))]

theorem findN_at {ts : List Tk} {id : ByteArray} {n k : Nat} (hk : k < n) (h : ∀ j, j < k → ¬ idAt ts j = some id) (he : idAt ts k = some id) : findN ts id n = (k : Int) := by
  have e : (List.range n).find? (fun k => decide (idAt ts k = some id)) = some k := by
    rw [List.find?_range_eq_some]
    exact ⟨by simpa using he, List.mem_range.2 hk, fun j hj => by simpa using h j hj⟩
  unfold findN
  rw [e]

noncomputable def findI (ts : List Tk) (id : ByteArray) : Int := if idsB ts = true then findN ts id ts.length else -1

/-- The identifier of that node, or none. -/
noncomputable def idI (ts : List Tk) (x : Int) : ByteArray := if idsB ts = true ∧ 0 ≤ x ∧ x < ts.length then (idAt ts x.toNat).getD ByteArray.empty else ByteArray.empty

/-- The elements before e that bear that name. -/
noncomputable def allTo (ts : List Tk) (l m : ByteArray) (e : Nat) : List Nat := (List.range e).filter fun k => !decide ((nameI ts k).size = 0) && knownN ts k l m

theorem allTo_next (ts : List Tk) (l m : ByteArray) (e : Nat) : allTo ts l m (e + 1) = allTo ts l m e ++ (if (!decide ((nameI ts e).size = 0) && knownN ts e l m) = true then [e] else []) := by
  unfold allTo
  rw [List.range_succ, List.filter_append]
  congr 1
  cases q : (!decide ((nameI ts e).size = 0) && knownN ts e l m) with
  | false => rw [List.filter_cons_of_neg (by rw [q]; exact Bool.false_ne_true)]; rfl
  | true => rw [List.filter_cons_of_pos (by rw [q])]; rfl

theorem allTo_len (ts : List Tk) (l m : ByteArray) (e : Nat) : (allTo ts l m e).length ≤ e := by
  have := List.length_filter_le (fun k => !decide ((nameI ts k).size = 0) && knownN ts k l m) (List.range e)
  rw [List.length_range] at this
  exact this

noncomputable def allI (ts : List Tk) (l m : ByteArray) : List Nat := if namesB ts = true then allTo ts l m ts.length else []

theorem allI_len (ts : List Tk) (l m : ByteArray) : (allI ts l m).length ≤ ts.length := by
  unfold allI
  split
  · exact allTo_len ts l m _
  · exact Nat.zero_le _

end Go.Proofs.YtkejmifkjgpdjaaGreat

namespace Go.Proofs.YtkejmifkjgpdjaaGreat
open Go.RowKit
set_option linter.unusedVariables false
set_option linter.unusedSimpArgs false

set_option maxHeartbeats 2000000 in
theorem c_spec_l12Id (s : ByteArray) (w : World) (hs : s.size ≤ 1048576) :
    Calls Tryz.prog 36 #[.string s] w fun e w' => e = .returned (.bool (idOk s)) ∧ Below w.heap.size w w' := by
  have C := hid (fun wx => c_spec_l1Of idLS 12 s wx hs (by decide) (by decide))
  have E := empty_is s
  unfold idOk
  generalize ofB idLS 12 s = V at *
  cases q : decide (s.size = 0) with
  | true =>
    rw [q] at E
    clear q hs
    go_enter Tryz.func36, Tryz.ntmps36
    go_wp2_with fail
    go_ret
    exact ⟨rfl, Below.refl _ _⟩
  | false =>
    rw [q] at E
    clear q hs
    go_enter Tryz.func36, Tryz.ntmps36
    go_wp2_with fail
    refine (C.out _).mono ?_
    rintro e w1 ⟨rfl, hb1⟩
    have HB1 := hid hb1
    clear hb1 C
    go_wp2_with fail
    go_ret
    exact ⟨rfl, HB1.out⟩

/-- The attributes of a node in its row. -/
theorem ats_row {w : World} {a : Option Addr} {ts : List Tk} (h : TkRow w a ts) {k : Nat} (hk : k < ts.length) : ∃ b o aa ca, a = some ⟨b, o, none⟩ ∧ w.cell? ⟨b, o + k * 4 + 2, none⟩ = some (.slice aa ts[k].attrs.length ca) ∧ AtRow w aa ts[k].attrs := by
  obtain ⟨b, o, aa, ca, e, hb, q0, q1, q2, q3, q4⟩ := h k hk
  exact ⟨b, o, aa, ca, e, q2, q4⟩

theorem valF_mem {l : List At} {name v : ByteArray} (h : valF l name = some v) : ∃ x ∈ l, x.value = v := by
  unfold valF at h
  rw [Option.map_eq_some_iff] at h
  obtain ⟨x, hx, e⟩ := h
  exact ⟨x, List.mem_of_find?_eq_some hx, e⟩

/-- ValueIn at a node of the row. -/
theorem cIdAtS {w : World} {a : Option Addr} {ts : List Tk} (hR : TkRow w a ts) (hn : ts.length ≤ 1048576) (hz : TksSz 1048576 ts) {k : Nat} (hk : k < ts.length) :
    ∃ b o aa na ca, a = some ⟨b, o, none⟩ ∧ w.cell? ⟨b, o + k * 4 + 2, none⟩ = some (.slice aa na ca) ∧ (Calls Tryz.prog 35 #[.slice aa na ca, .string idS] w fun e w' => e = .returned (.tuple #[.string ((idAt ts k).getD ByteArray.empty), .bool (idAt ts k).isSome]) ∧ w' = w) := by
  obtain ⟨b, o, aa, ca, e, c2, hA⟩ := ats_row hR hk
  have h3 := hz _ (List.getElem_mem hk)
  rw [idAt_at hk]
  exact ⟨b, o, aa, _, ca, e, c2, cValueInS aa ca ts[k].attrs idS w hA h3.2.2.1 h3.2.1 (by decide)⟩

theorem idAt_sz {ts : List Tk} (hz : TksSz 1048576 ts) {k : Nat} {v : ByteArray} (hk : k < ts.length) (h : idAt ts k = some v) : v.size ≤ 1048576 := by
  rw [idAt_at hk] at h
  obtain ⟨x, hx, rfl⟩ := valF_mem h
  exact ((hz _ (List.getElem_mem hk)).2.2.1 _ hx).2

set_option maxRecDepth 4000 in
set_option maxHeartbeats 8000000 in
theorem cIdsOkS (a : Option Addr) (cap : Nat) (ts : List Tk) (w : World) (hR : TkRow w a ts) (hn : ts.length ≤ 1048576) (hz : TksSz 1048576 ts) :
    Calls Tryz.prog 15 #[.slice a ts.length cap] w fun e w' => e = .returned (.bool (idsB ts)) ∧ Below w.heap.size w w' := by
  obtain ⟨i0, hi, hz0, hz1, hz2⟩ := info_parts info9
  have HI := hid (And.intro hi (And.intro hz0 (And.intro hz1 hz2)))
  clear hi hz0 hz1 hz2
  have CT := hid (fun wx (hb : Below w.heap.size w wx) => cTreeOkS a cap ts wx (hR.below hb) hn hz)
  obtain ⟨V, hV⟩ : ∃ V, idsB ts = V := ⟨_, rfl⟩
  have HF : Hid (¬ IdsP ts ts.length → V = false) := fun h => by rw [← hV]; exact idsB_f h
  have HT : Hid (IdsP ts ts.length → V = treeB ts) := fun h => by rw [← hV]; exact idsB_is h
  have CA := hid (fun (k : Nat) (hk : k < ts.length) wx (hb : Below w.heap.size w wx) => cIdAtS (hR.below hb) hn hz hk)
  have CZ := hid (fun (k : Nat) (v : ByteArray) (hk : k < ts.length) (h : idAt ts k = some v) => idAt_sz hz hk h)
  rw [hV]
  clear hV hR hz
  generalize treeB ts = T at *
  obtain ⟨n, hnn⟩ : ∃ n, ts.length = n := ⟨_, rfl⟩
  have HN := hid hnn
  rw [hnn] at hn CT CA HF HT CZ ⊢
  clear hnn
  go_enter Tryz.func15, Tryz.ntmps15
  go_wp2_with fail
  go_loopw [3, 4] (fun v3 v4 wr => ∃ (i : Nat) (a3 : Option Addr) (c3 nk : Nat), v4 = .int .i64 (i : Int) ∧ i ≤ n ∧ v3 = .slice a3 nk c3 ∧ nk ≤ i ∧ Hid ((idsTo ts i).length = nk) ∧ Hid (IdsP ts i) ∧ Hid (wr.ownsRow w.heap.size 9 1 (.slice a3 nk c3) nk (keyV (idsTo ts i))) ∧ Hid (Below w.heap.size w wr)) (fun _ v4 _ => n - (intOf v4).toNat)
  case atStart => exact ⟨0, _, _, 0, rfl, Nat.zero_le _, rfl, Nat.zero_le _, rfl, idsP_zero ts, World.ownsRow_made _ _ _ (Nat.le_refl _) (by decide) rfl, (Below.refl _ _).alloc (Nat.le_refl _) _⟩
  case round =>
    obtain ⟨i, a3, c3, nk, rfl, hin, rfl, hki, HNK, HP, HO, HB⟩ := hrel
    by_cases hlt : i < n
    · have hit : (i : Int) < (n : Int) := by omega
      obtain ⟨b, o, aa, na, ca, rfl, c2, hcall⟩ := CA.out i hlt _ HB.out
      have HC := hid hcall
      clear hcall
      go_wp2_with fail
      refine HC.out.mono ?_
      rintro e w1 ⟨rfl, rfl⟩
      clear HC c2
      cases hv : idAt ts i with
      | none =>
        have HP2 := hid (idsP_none hv HP.out)
        have HE := hid (idsTo_none hv)
        clear hv
        go_wp2_with fail
        go_roundw
        case rel => exact ⟨i + 1, a3, c3, nk, by go_num, by omega, rfl, by omega, by rw [HE.out]; exact HNK.out, HP2.out, by rw [HE.out]; exact HO.out, HB.out⟩
        case measure => simp [intOf]; omega
      | some v =>
        have HV := hid hv
        have HVZ := hid (CZ.out i v hlt hv)
        clear hv
        go_wp2_with fail
        go_loop [7] (fun v7 => ∃ q : Nat, v7 = .int .i64 (q : Int) ∧ q ≤ nk ∧ Hid (¬ v ∈ (idsTo ts i).take q)) (fun v7 => nk - (intOf v7).toNat)
        case atStart => exact ⟨0, rfl, Nat.zero_le _, by rw [List.take_zero]; exact List.not_mem_nil⟩
        case round =>
          obtain ⟨q, rfl, hq, HNM⟩ := hrel
          by_cases hql : q < nk
          · have hqs : q < (idsTo ts i).length := by rw [HNK.out]; exact hql
            have hqn : (q : Int) < (nk : Int) := by omega
            obtain ⟨g, ea, cq⟩ := key_cell HO.out HNK.out hqs
            subst ea
            have hzz := str_beq (idsTo ts i)[q] v
            have HTS := hid (take_snocN hqs)
            have HME := hid (List.getElem_mem hqs)
            obtain ⟨kq, hkq⟩ : ∃ kq, (idsTo ts i)[q] = kq := ⟨_, rfl⟩
            rw [hkq] at cq hzz HTS HME
            clear hkq
            by_cases hd : kq = v
            · subst hd
              have HW := hid (HF.out (idsP_bad HV.out hlt (.inr HME.out)))
              rw [decide_eq_true rfl] at hzz
              go_wp2_with fail
              go_ret
              exact ⟨by rw [HW.out]; rfl, HB.out⟩
            · rw [decide_eq_false hd] at hzz
              have HN2 := hid (show ¬ v ∈ (idsTo ts i).take (q + 1) by
                rw [HTS.out, List.mem_append, List.mem_singleton]
                rintro (h | h)
                · exact HNM.out h
                · exact hd h.symm)
              clear hd HME HTS
              go_wp2_with fail
              go_round
              case rel => exact ⟨q + 1, by go_num, by omega, HN2.out⟩
              case measure => simp [intOf]; omega
          · have hqe : q = nk := by omega
            subst hqe
            have HFR := hid (show ¬ v ∈ idsTo ts i by
              have h := HNM.out
              rw [List.take_of_length_le (by rw [HNK.out]; exact Nat.le_refl _)] at h
              exact h)
            clear HNM
            have CI := hid (fun wx => c_spec_l12Id v wx HVZ.out)
            go_wp2_with fail
            refine (CI.out _).mono ?_
            rintro e w2 ⟨rfl, hb2⟩
            have HB2 := hid (bb HB.out hb2)
            have HO2 := hid (ownsRow_below HO.out hb2)
            clear hb2 CI HB HO
            cases hok : idOk v with
            | false =>
              have HW := hid (HF.out (idsP_bad HV.out hlt (.inl hok)))
              clear hok
              go_wp2_with fail
              go_ret
              exact ⟨by rw [HW.out]; rfl, HB2.out⟩
            | true =>
              have HP2 := hid (idsP_some HV.out HP.out hok HFR.out)
              have HE := hid (idsTo_some HV.out)
              have hsz := HB2.out.size
              clear hok
              go_wp2_with (at_builtin; refine wpList_append_own _ rfl _ _ 24 rfl w.heap.size 9 i0 (.string ByteArray.empty) 1 16 Tryz.underlying24 HI.out.1 HI.out.2.1 HI.out.2.2.1 HI.out.2.2.2 rfl (by decide) _ _ _ rfl (HO2.out.alloc _) ⟨w2.heap.size, 0, none⟩ 1 1 [.string v] rfl rfl (one_cell _ _ _) (one_str _) (by unfold maxLen; omega) (by omega) (by simp; omega) ?_)
              intro v' w7 hown' hgrow _
              have HB7 := hid ((HB2.out.alloc hsz _).grown hgrow (by simp; omega) (fun k hk => (HO2.out.lt k hk).1))
              have hle : (idsTo ts (i + 1)).length = q + 1 := by rw [HE.out, List.length_append, HNK.out]; rfl
              rw [← HNK.out] at hown'
              obtain ⟨a9, c9, rfl, ho9⟩ := key_more hown'
              rw [← HE.out, hle] at ho9 ⊢
              have HO9 := hid ho9
              have HLE := hid hle
              clear hown' hgrow ho9 hle
              go_wp2_with fail
              go_roundw
              case rel => exact ⟨i + 1, a9, c9, q + 1, by go_num, by omega, rfl, by omega, HLE.out, HP2.out, HO9.out, HB7.out⟩
              case measure => simp [intOf]; omega
    · have hie : i = n := by omega
      subst hie
      have HW := hid (HT.out HP.out)
      go_wp2_with fail
      refine (CT.out _ HB.out).mono ?_
      rintro e w2 ⟨rfl, hb2⟩
      have HB2 := hid (bb HB.out hb2)
      clear hb2
      go_wp2_with fail
      go_ret
      exact ⟨by rw [HW.out]; rfl, HB2.out⟩

end Go.Proofs.YtkejmifkjgpdjaaGreat

namespace Go.Proofs.YtkejmifkjgpdjaaGreat
set_option linter.unusedVariables false

def nodeAt (ts : List Tk) (k : Nat) : Tk := match ts[k]? with | some t => t | none => ⟨0, ⟨#[]⟩, [], ⟨#[]⟩⟩

theorem nodeAt_at {ts : List Tk} {k : Nat} (h : k < ts.length) : nodeAt ts k = ts[k] := by unfold nodeAt; rw [List.getElem?_eq_getElem h]

/-- TkOpen, TkClose and TkText of a node. -/
def opT (t : Tk) : Tk := ⟨1, t.name, t.attrs, ⟨#[]⟩⟩
def clT (t : Tk) : Tk := ⟨2, t.name, [], ⟨#[]⟩⟩
def txT (t : Tk) : Tk := ⟨3, ⟨#[]⟩, [], t.text⟩

/-- The tokens of the node there and of all that it has. -/
def tokN (ts : List Tk) : Nat → Nat → List Tk
  | 0, _ => []
  | f + 1, k => if (nodeAt ts k).name.size = 0 then [txT (nodeAt ts k)] else opT (nodeAt ts k) :: ((kidsTo ts k (endN ts k)).flatMap (tokN ts f) ++ [clT (nodeAt ts k)])

theorem endN_stop {ts : List Tk} {k : Nat} (h : k < ts.length) : endN ts k = ts.length ∨ parI ts (endN ts k) < (k : Int) := by
  rcases Nat.lt_or_ge (endN ts k) ts.length with h' | h'
  · right
    by_cases q : parI ts (endN ts k) < (k : Int)
    · exact q
    · exfalso
      have hle := endN_le h
      have key : ∀ m, k + 1 + m ≤ ts.length → ((ts.drop (k + 1)).takeWhile fun t => decide ((k : Int) ≤ t.kind)).length = m → k + 1 + m < ts.length → parI ts (k + 1 + m) < (k : Int) := by
        intro m hm hl hlt
        have hsub := List.takeWhile_append_dropWhile (p := fun t : Tk => decide ((k : Int) ≤ t.kind)) (l := ts.drop (k + 1))
        have hd : m < (ts.drop (k + 1)).length := by rw [List.length_drop]; omega
        have e1 : (ts.drop (k + 1))[m] = ts[k + 1 + m] := List.getElem_drop ..
        have hne : ((ts.drop (k + 1)).dropWhile fun t => decide ((k : Int) ≤ t.kind)) ≠ [] := by
          intro e0
          have := congrArg List.length hsub
          rw [List.length_append, e0, hl, List.length_nil] at this
          omega
        have hhd := List.head_dropWhile_not (fun t : Tk => decide ((k : Int) ≤ t.kind)) hne
        have e2 : ((ts.drop (k + 1)).dropWhile fun t => decide ((k : Int) ≤ t.kind)).head hne = ts[k + 1 + m] := by
          rw [← e1, List.head_eq_getElem]
          have : (ts.drop (k + 1))[m]? = some (((ts.drop (k + 1)).dropWhile fun t => decide ((k : Int) ≤ t.kind))[0]'(List.length_pos_iff.2 hne)) := by
            conv => lhs; rw [← hsub]
            rw [List.getElem?_append_right (by omega), hl, Nat.sub_self, List.getElem?_eq_getElem (List.length_pos_iff.2 hne)]
          rw [List.getElem?_eq_getElem hd] at this
          exact (Option.some.inj this).symm
        rw [e2] at hhd
        rw [parI_at hlt]
        simpa using hhd
      exact q (key _ hle.2 rfl h')
  · left
    have := endN_le h
    omega

theorem endN_min {ts : List Tk} {k e : Nat} (hk : k < ts.length) (he : k < e) (hp : e < ts.length → parI ts e < (k : Int)) (hle : e ≤ ts.length) : endN ts k ≤ e := by
  rcases Nat.lt_or_ge e (endN ts k) with h | h
  · exfalso
    have h2 := endN_le hk
    have h3 := hp (by omega)
    have h4 : (k : Int) ≤ parI ts e := by
      have hm : e - (k + 1) < ((ts.drop (k + 1)).takeWhile fun t => decide ((k : Int) ≤ t.kind)).length := by unfold endN at h; omega
      have h5 := List.all_eq_true.1 (List.all_takeWhile (p := fun t : Tk => decide ((k : Int) ≤ t.kind)) (l := ts.drop (k + 1))) _ (List.getElem_mem hm)
      have e1 : ((ts.drop (k + 1)).takeWhile fun t => decide ((k : Int) ≤ t.kind))[e - (k + 1)] = (ts.drop (k + 1))[e - (k + 1)]'(by rw [List.length_drop]; omega) :=
        (List.takeWhile_prefix _).getElem hm
      rw [e1, List.getElem_drop] at h5
      have e2 : k + 1 + (e - (k + 1)) = e := by omega
      simp only [e2] at h5
      rw [parI_at (by omega)]
      simpa using h5
    omega
  · exact h

/-- Of a kid: it ends ahead of the next one, and within. -/
theorem kid_end {ts : List Tk} {k i : Nat} (hk : k < ts.length) (hi : k < i) (hie : i < endN ts k) : endN ts i ≤ endN ts k ∧ ∀ j, i < j → j < ts.length → parI ts j = (k : Int) → endN ts i ≤ j := by
  have hle := endN_le hk
  refine ⟨?_, fun j hj hjn hp => ?_⟩
  · rcases endN_stop hk with h | h
    · rw [h]
      exact (endN_le (by omega)).2
    · exact endN_min (by omega) hie (fun _ => by omega) hle.2
  · exact endN_min (by omega) hj (fun _ => by omega) (by omega)

theorem kids_len {ts : List Tk} {k : Nat} (L : Nat → Nat) (hk : k < ts.length) (hL : ∀ i, k < i → i < endN ts k → L i ≤ 2 * (endN ts i - i)) :
    ∀ e, k < e → e ≤ endN ts k → ∃ m, k + 1 ≤ m ∧ m ≤ endN ts k ∧ ((kidsTo ts k e).map L).sum ≤ 2 * (m - (k + 1)) ∧ ∀ j, e ≤ j → j < endN ts k → parI ts j = (k : Int) → m ≤ j := by
  have hle := endN_le hk
  intro e
  induction e with
  | zero => intro h; omega
  | succ e ih =>
    intro h1 h2
    by_cases he : e = k
    · subst he
      refine ⟨e + 1, Nat.le_refl _, h2, ?_, fun j hj _ _ => by omega⟩
      rw [kidsTo_first]
      simp
    · obtain ⟨m, m1, m2, m3, m4⟩ := ih (by omega) (by omega)
      rw [kidsTo_next (by omega)]
      by_cases q : parI ts e = (k : Int)
      · rw [if_pos q, List.map_append, List.sum_append]
        obtain ⟨q1, q2⟩ := kid_end hk (show k < e by omega) (by omega)
        have hm := m4 e (Nat.le_refl _) (by omega) q
        have hl := hL e (by omega) (by omega)
        have he2 := endN_le (ts := ts) (k := e) (by omega)
        refine ⟨endN ts e, by omega, q1, ?_, fun j hj hjn hp => q2 j (by omega) (by omega) hp⟩
        simp only [List.map_cons, List.map_nil, List.sum_cons, List.sum_nil]
        omega
      · rw [if_neg q, List.append_nil]
        exact ⟨m, m1, m2, m3, fun j hj hjn hp => m4 j (by omega) hjn hp⟩

theorem flatMap_len {α β : Type} (f : α → List β) (l : List α) : (l.flatMap f).length = (l.map fun x => (f x).length).sum := by
  rw [List.length_flatMap]

theorem tokN_len {ts : List Tk} : ∀ f k, k < ts.length → (tokN ts f k).length ≤ 2 * (endN ts k - k)
  | 0, k, h => by simp [tokN]
  | f + 1, k, h => by
    have hle := endN_le h
    unfold tokN
    split
    · simp; omega
    · obtain ⟨m, m1, m2, m3, _⟩ := kids_len (fun i => (tokN ts f i).length) h (fun i h1 h2 => tokN_len f i (by omega)) (endN ts k) hle.1 (Nat.le_refl _)
      simp only [List.length_cons, List.length_append, List.length_nil, flatMap_len]
      omega

theorem tokKids_len {ts : List Tk} (f : Nat) {k e : Nat} (h : k < ts.length) (h1 : k < e) (h2 : e ≤ endN ts k) : ((kidsTo ts k e).flatMap (tokN ts f)).length ≤ 2 * (endN ts k - (k + 1)) := by
  obtain ⟨m, m1, m2, m3, _⟩ := kids_len (fun i => (tokN ts f i).length) h (fun i h1 h2 => tokN_len f i (by have := endN_le h; omega)) e h1 h2
  rw [flatMap_len]
  omega

theorem tokN_sz {ts : List Tk} (hz : TksSz 1048576 ts) : ∀ f k, TksSz 1048576 (tokN ts f k)
  | 0, k => fun t ht => by simp [tokN] at ht
  | f + 1, k => by
    have hk : TkSz 1048576 (nodeAt ts k) := by
      by_cases h : k < ts.length
      · rw [nodeAt_at h]; exact hz _ (List.getElem_mem h)
      · unfold nodeAt
        rw [List.getElem?_eq_none (by omega)]
        exact ⟨Nat.zero_le _, Nat.zero_le _, fun x hx => absurd hx List.not_mem_nil, Nat.zero_le _⟩
    obtain ⟨z1, z2, z3, z4⟩ := hk
    intro t ht
    unfold tokN at ht
    split at ht
    · rw [List.mem_singleton] at ht
      subst ht
      exact ⟨Nat.zero_le _, Nat.zero_le _, fun x hx => absurd hx List.not_mem_nil, z4⟩
    · rcases List.mem_cons.1 ht with rfl | ht
      · exact ⟨z1, z2, z3, Nat.zero_le _⟩
      · rcases List.mem_append.1 ht with ht | ht
        · obtain ⟨i, _, hi⟩ := List.mem_flatMap.1 ht
          exact tokN_sz hz f i t hi
        · rw [List.mem_singleton] at ht
          subst ht
          exact ⟨z1, Nat.zero_le _, fun x hx => absurd hx List.not_mem_nil, Nat.zero_le _⟩

end Go.Proofs.YtkejmifkjgpdjaaGreat
