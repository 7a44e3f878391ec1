/- Contract of the specification's ToLetters: it writes what toL says. The iterator over a text's bytes: bytesOf and its closure, for every loop body that keeps the box of the text. -/
import Derived.Test.YtcjeodgfpnecgaaRows
import Derived.Test.YtcjeodgfpnecgaaM32
import Derived.Test.YtcjeodgfpnecgaaM1
import Derived.Test.YtcjeodgfpnecgaaM33
import Derived.WalkKit
import Derived.OwnWalk
import Derived.RangeFuncNested
import Derived.RangeFuncBound
import Derived.RangeFuncCalls
import Derived.RangeFuncLeaves
import Derived.RangeFuncFrom
import Derived.Shelf.Abstract
import Derived.Shelf.RegionOpen
import Derived.OwnWalkIn
import Derived.TacticsInMore
import Derived.LoopNIn
import Derived.LoopIn
namespace Go.Proofs.Ytcjeodgfpnecgaa
open Go.RowKit
set_option linter.unusedVariables false
set_option linter.unusedSimpArgs false

theorem e_info5 : (Try.prog.info? 5).map (fun i => (i.zero, i.size, i.bytes)) = some (some (.int .u8 0), 1, 1) := by kernel_rfl

def grpL (N left : Nat) : List UInt8 := [grpE N left 0, grpE N left 1, grpE N left 2, grpE N left 3]

theorem grpL_eq (N left : Nat) : grpL N left = [grpE N left 0, grpE N left 1, grpE N left 2, grpE N left 3] := rfl

def meas (v : Value) : Nat := 4 - (intOf v).toNat

theorem drop1 (s : ByteArray) (j : Nat) (h : j < s.size) : s.data.toList.drop j = s[j] :: s.data.toList.drop (j + 1) := List.drop_eq_getElem_cons (by rw [← e_sz s]; exact h)

theorem dropE (s : ByteArray) (j : Nat) (h : s.size ≤ j) : s.data.toList.drop j = [] := List.drop_eq_nil_of_le (by rw [← e_sz s]; exact h)

theorem drop3 (s : ByteArray) (j : Nat) (h : j + 2 < s.size) : s.data.toList.drop j = s[j] :: s[j + 1] :: s[j + 2] :: s.data.toList.drop (j + 3) := by
  rw [drop1 s j (by omega), drop1 s (j + 1) (by omega), drop1 s (j + 1 + 1) (by omega)]

theorem e_one_cell (w : World) (v : Value) : ∀ j u, [v][j]? = some u → (w.alloc (.cells #[v] 5)).cell? ((⟨w.heap.size, 0, none⟩ : Addr).add j) = some u := by
  intro j u hj
  match j, hj with
  | 0, hj => simp at hj; subst hj; simp [Addr.add]

theorem e_one_one (n : Int) : ∀ u ∈ [Value.int .u8 n], u.oneCell' = true := by
  intro u hu; simp at hu; subst hu; rfl

theorem own_snoc {w : World} {B : Nat} {v : Value} {acc acc' : List UInt8} {x : UInt8} (e : acc' = acc ++ [x]) (h : w.ownsRow B 5 1 v (acc.length + 1) (Lib.byteCells acc ++ [.int .u8 x.toNat])) : w.ownsRow B 5 1 v acc'.length (Lib.byteCells acc') := by
  have : Lib.byteCells acc ++ [.int .u8 x.toNat] = Lib.byteCells (acc ++ [x]) := by simp [Lib.byteCells]
  rw [e, ← this, List.length_append]
  exact h

theorem grp_snoc (acc : List UInt8) (N left m : Nat) (x : UInt8) (h : (grpL N left)[m]? = some x) : acc ++ (grpL N left).take (m + 1) = (acc ++ (grpL N left).take m) ++ [x] := by
  rw [List.take_add_one, h, List.append_assoc]
  rfl

theorem hl_of {acc : List UInt8} {N left j : Nat} (h : acc.length ≤ 2 * j) : (acc ++ grpL N left).length ≤ 2 * (j + 3) := by
  simp only [List.length_append]
  have : (grpL N left).length = 4 := rfl
  omega

set_option maxRecDepth 16000 in
set_option maxHeartbeats 8000000 in
theorem cEncS (s : ByteArray) (w : World) (h0 : s.size ≤ 1048576) :
    Calls Try.prog 11 #[.string s] w fun e w' => e = .returned (.string ⟨(toL s.data.toList).toArray⟩) ∧ Below w.heap.size w w' := by
  obtain ⟨i0, hi, hz0, hz1, hz2⟩ := info_parts e_info5
  go_enter Try.func11, Try.ntmps11
  go_wp2
  go_loopw [3, 4] (fun v i wr => ∃ (j : Nat) (acc : List UInt8), i = .int .i64 (j : Int) ∧ j ≤ s.size + 2 ∧ acc ++ toL (s.data.toList.drop j) = toL s.data.toList ∧ acc.length ≤ 2 * j ∧ wr.ownsRow w.heap.size 5 1 v acc.length (Lib.byteCells acc) ∧ Below w.heap.size w wr) (fun _ i _ => s.size - (intOf i).toNat)
  case atStart => exact ⟨0, [], rfl, Nat.zero_le _, by simp, by simp, World.ownsRow_made _ _ _ (Nat.le_refl _) (by decide) rfl, (Below.refl _ _).alloc (Nat.le_refl _) _⟩
  case round =>
    obtain ⟨j, acc, rfl, hj, hacc, hlen, hown, hB⟩ := hrel
    have hsz := hB.size
    by_cases hlt : j < s.size
    · have HA : Hid (acc ++ toL (s.data.toList.drop j) = toL s.data.toList) := hacc
      clear hacc
      rcases (show j + 1 = s.size ∨ j + 2 = s.size ∨ j + 3 ≤ s.size by omega) with hq | hq | hq
      · have q1 : (s.size : Int) - (j : Int) ≤ 1 := by omega
        have qs : s.size - j = 1 := by omega
        have HQ : Hid (s.size - j = 1) := qs
        have wa := wrapA s[j]
        obtain ⟨N, hN⟩ : ∃ N : Nat, s[j].toNat * 65536 = N := ⟨_, rfl⟩
        have hN24 : N < 16777216 := by rw [← hN]; have := n24 s[j] 0 0; simpa using this
        have wa' : wrap64 ((s[j].toNat : Int) * 65536) = (N : Int) := by rw [wrapA16, ← hN]; simp
        have HG : Hid (acc ++ grpL N (s.size - j) ++ toL (s.data.toList.drop (j + 3)) = toL s.data.toList) := by
          show _ = _
          rw [← HA.out, drop1 s j hlt, dropE s (j + 1) (by omega), dropE s (j + 3) (by omega), qs, grp1, hN, ← grpL_eq]
          exact List.append_nil _
        clear hN qs HA
        go_wp2
        rw [wa']
        clear wa wa'
        go_loopw [3, 7] (fun v k wi => ∃ m : Nat, m ≤ 4 ∧ k = .int .i64 (m : Int) ∧ wi.ownsRow w.heap.size 5 1 v (acc ++ (grpL N (s.size - j)).take m).length (Lib.byteCells (acc ++ (grpL N (s.size - j)).take m)) ∧ Below w.heap.size w wi) (fun _ k _ => meas k)
        case atStart => exact ⟨0, by omega, rfl, by simpa using hown, hB⟩
        case round =>
          clear hown hB hsz
          obtain ⟨m, hm, rfl, hown, hB⟩ := hrel
          have hsz := hB.size
          have hl : (acc ++ (grpL N (s.size - j)).take m).length ≤ 2 * j + 4 := by
            simp only [List.length_append, List.length_take]
            have : (grpL N (s.size - j)).length = 4 := rfl
            omega
          obtain ⟨cur, hcur⟩ : ∃ cur, acc ++ (grpL N (s.size - j)).take m = cur := ⟨_, rfl⟩
          rw [hcur] at hown hl
          rcases (show m = 0 ∨ m = 1 ∨ m = 2 ∨ m = 3 ∨ m = 4 from by omega) with rfl | rfl | rfl | rfl | rfl
          · obtain ⟨K, hK⟩ : ∃ K : Nat, N / 262144 % 64 = K := ⟨_, rfl⟩
            have hK64 : K < 64 := by omega
            have hand : bits BinOp.and IntKind.i64 ((N : Int) / 262144) 63 = (K : Int) := by rw [← hK]; exact and63 (N / 262144) (by omega)
            have hix := alpha_index K hK64 .i64
            have HT := grp_snoc acc N (s.size - j) 0 (letN K) (by show (grpL N (s.size - j))[0]? = _; simp only [grpL]; rw [grpE_0, hK]; rfl)
            have HT2 : Hid (acc ++ (grpL N (s.size - j)).take 1 = cur ++ [letN K]) := by show _ = _; rw [← hcur]; exact HT
            clear HT hcur hK
            go_wp2_with (at_builtin; refine wpList_append_own _ rfl _ _ 41 rfl w.heap.size 5 i0 (.int .u8 0) 1 1 Try.underlying41 hi hz0 hz1 hz2 rfl (by decide) _ _ _ rfl (hown.alloc _) ⟨wr.heap.size, 0, none⟩ 1 1 [.int .u8 ((letN K).toNat : Int)] rfl rfl (e_one_cell _ _) (e_one_one _) (by unfold maxLen; omega) (by omega) (by simp; omega) ?_)
            intro v' w1 hown' hgrow _
            have R := own_snoc HT2.out hown'
            have hB1 := (hB.alloc hsz _).grown hgrow (by simp; omega) (fun k hk => (hown.lt k hk).1)
            clear hown' hgrow hown hand hix
            go_wp2
            go_roundw
            case rel => exact ⟨1, by omega, by go_num, R, hB1⟩
            case measure => simp [meas, intOf]
          · obtain ⟨K, hK⟩ : ∃ K : Nat, N / 4096 % 64 = K := ⟨_, rfl⟩
            have hK64 : K < 64 := by omega
            have hand : bits BinOp.and IntKind.i64 ((N : Int) / 4096) 63 = (K : Int) := by rw [← hK]; exact and63 (N / 4096) (by omega)
            have hix := alpha_index K hK64 .i64
            have HT := grp_snoc acc N (s.size - j) 1 (letN K) (by show (grpL N (s.size - j))[1]? = _; simp only [grpL]; rw [grpE_1 _ _ (by have := HQ.out; omega), hK]; rfl)
            have HT2 : Hid (acc ++ (grpL N (s.size - j)).take 2 = cur ++ [letN K]) := by show _ = _; rw [← hcur]; exact HT
            clear HT hcur hK
            go_wp2_with (at_builtin; refine wpList_append_own _ rfl _ _ 41 rfl w.heap.size 5 i0 (.int .u8 0) 1 1 Try.underlying41 hi hz0 hz1 hz2 rfl (by decide) _ _ _ rfl (hown.alloc _) ⟨wr.heap.size, 0, none⟩ 1 1 [.int .u8 ((letN K).toNat : Int)] rfl rfl (e_one_cell _ _) (e_one_one _) (by unfold maxLen; omega) (by omega) (by simp; omega) ?_)
            intro v' w1 hown' hgrow _
            have R := own_snoc HT2.out hown'
            have hB1 := (hB.alloc hsz _).grown hgrow (by simp; omega) (fun k hk => (hown.lt k hk).1)
            clear hown' hgrow hown hand hix
            go_wp2
            go_roundw
            case rel => exact ⟨2, by omega, by go_num, R, hB1⟩
            case measure => simp [meas, intOf]
          · have HT := grp_snoc acc N (s.size - j) 2 61 (by rw [HQ.out]; rfl)
            have HT2 : Hid (acc ++ (grpL N (s.size - j)).take 3 = cur ++ [61]) := by show _ = _; rw [← hcur]; exact HT
            clear HT hcur
            go_wp2_with (at_builtin; refine wpList_append_own _ rfl _ _ 41 rfl w.heap.size 5 i0 (.int .u8 0) 1 1 Try.underlying41 hi hz0 hz1 hz2 rfl (by decide) _ _ _ rfl (hown.alloc _) ⟨wr.heap.size, 0, none⟩ 1 1 [.int .u8 61] rfl rfl (e_one_cell _ _) (e_one_one _) (by unfold maxLen; omega) (by omega) (by simp; omega) ?_)
            intro v' w1 hown' hgrow _
            have R := own_snoc HT2.out hown'
            have hB1 := (hB.alloc hsz _).grown hgrow (by simp; omega) (fun k hk => (hown.lt k hk).1)
            clear hown' hgrow hown
            go_wp2
            go_roundw
            case rel => exact ⟨3, by omega, by go_num, R, hB1⟩
            case measure => simp [meas, intOf]
          · have HT := grp_snoc acc N (s.size - j) 3 61 (by rw [HQ.out]; rfl)
            have HT2 : Hid (acc ++ (grpL N (s.size - j)).take 4 = cur ++ [61]) := by show _ = _; rw [← hcur]; exact HT
            clear HT hcur
            go_wp2_with (at_builtin; refine wpList_append_own _ rfl _ _ 41 rfl w.heap.size 5 i0 (.int .u8 0) 1 1 Try.underlying41 hi hz0 hz1 hz2 rfl (by decide) _ _ _ rfl (hown.alloc _) ⟨wr.heap.size, 0, none⟩ 1 1 [.int .u8 61] rfl rfl (e_one_cell _ _) (e_one_one _) (by unfold maxLen; omega) (by omega) (by simp; omega) ?_)
            intro v' w1 hown' hgrow _
            have R := own_snoc HT2.out hown'
            have hB1 := (hB.alloc hsz _).grown hgrow (by simp; omega) (fun k hk => (hown.lt k hk).1)
            clear hown' hgrow hown
            go_wp2
            go_roundw
            case rel => exact ⟨4, by omega, by go_num, R, hB1⟩
            case measure => simp [meas, intOf]
          · have e4 : acc ++ grpL N (s.size - j) = cur := hcur
            have hle : (acc ++ grpL N (s.size - j)).length ≤ 2 * (j + 3) := hl_of hlen
            have R : wr.ownsRow w.heap.size 5 1 u3 (acc ++ grpL N (s.size - j)).length (Lib.byteCells (acc ++ grpL N (s.size - j))) := by rw [e4]; exact hown
            have HR : Hid (wr.ownsRow w.heap.size 5 1 u3 (acc ++ grpL N (s.size - j)).length (Lib.byteCells (acc ++ grpL N (s.size - j)))) := R
            clear hown R e4 hcur
            go_wp2
            go_roundw
            case rel => exact ⟨j + 3, acc ++ grpL N (s.size - j), by go_num, by omega, HG.out, hle, HR.out, hB⟩
            case measure => simp [intOf]; omega
      · have h2 : j + 1 < s.size := by omega
        have q1 : 1 < (s.size : Int) - (j : Int) := by omega
        have q2 : (s.size : Int) - (j : Int) ≤ 2 := by omega
        have qs : s.size - j = 2 := by omega
        have HQ : Hid (s.size - j = 2) := qs
        have wa := wrapA s[j]
        have wa' := wrapA16 s[j]
        have wb := wrapA s[j + 1]
        have wb' := wrapA8 s[j + 1]
        obtain ⟨N, hN⟩ : ∃ N : Nat, s[j].toNat * 65536 + s[j + 1].toNat * 256 = N := ⟨_, rfl⟩
        have hN24 : N < 16777216 := by rw [← hN]; have := n24 s[j] s[j + 1] 0; simpa using this
        have o1 : bits BinOp.or IntKind.i64 ((s[j].toNat : Int) * 65536) ((s[j + 1].toNat : Int) * 256) = (N : Int) := by rw [orAB, ← hN]; simp
        have HG : Hid (acc ++ grpL N (s.size - j) ++ toL (s.data.toList.drop (j + 3)) = toL s.data.toList) := by
          show _ = _
          rw [← HA.out, drop1 s j hlt, drop1 s (j + 1) h2, dropE s (j + 1 + 1) (by omega), dropE s (j + 3) (by omega), qs, grp2, hN, ← grpL_eq]
          exact List.append_nil _
        clear hN qs HA
        go_wp2
        try rw [o1]
        clear wa wa' wb wb' o1
        go_loopw [3, 7] (fun v k wi => ∃ m : Nat, m ≤ 4 ∧ k = .int .i64 (m : Int) ∧ wi.ownsRow w.heap.size 5 1 v (acc ++ (grpL N (s.size - j)).take m).length (Lib.byteCells (acc ++ (grpL N (s.size - j)).take m)) ∧ Below w.heap.size w wi) (fun _ k _ => meas k)
        case atStart => exact ⟨0, by omega, rfl, by simpa using hown, hB⟩
        case round =>
          clear hown hB hsz
          obtain ⟨m, hm, rfl, hown, hB⟩ := hrel
          have hsz := hB.size
          have hl : (acc ++ (grpL N (s.size - j)).take m).length ≤ 2 * j + 4 := by
            simp only [List.length_append, List.length_take]
            have : (grpL N (s.size - j)).length = 4 := rfl
            omega
          obtain ⟨cur, hcur⟩ : ∃ cur, acc ++ (grpL N (s.size - j)).take m = cur := ⟨_, rfl⟩
          rw [hcur] at hown hl
          rcases (show m = 0 ∨ m = 1 ∨ m = 2 ∨ m = 3 ∨ m = 4 from by omega) with rfl | rfl | rfl | rfl | rfl
          · obtain ⟨K, hK⟩ : ∃ K : Nat, N / 262144 % 64 = K := ⟨_, rfl⟩
            have hK64 : K < 64 := by omega
            have hand : bits BinOp.and IntKind.i64 ((N : Int) / 262144) 63 = (K : Int) := by rw [← hK]; exact and63 (N / 262144) (by omega)
            have hix := alpha_index K hK64 .i64
            have HT := grp_snoc acc N (s.size - j) 0 (letN K) (by show (grpL N (s.size - j))[0]? = _; simp only [grpL]; rw [grpE_0, hK]; rfl)
            have HT2 : Hid (acc ++ (grpL N (s.size - j)).take 1 = cur ++ [letN K]) := by show _ = _; rw [← hcur]; exact HT
            clear HT hcur hK
            go_wp2_with (at_builtin; refine wpList_append_own _ rfl _ _ 41 rfl w.heap.size 5 i0 (.int .u8 0) 1 1 Try.underlying41 hi hz0 hz1 hz2 rfl (by decide) _ _ _ rfl (hown.alloc _) ⟨wr.heap.size, 0, none⟩ 1 1 [.int .u8 ((letN K).toNat : Int)] rfl rfl (e_one_cell _ _) (e_one_one _) (by unfold maxLen; omega) (by omega) (by simp; omega) ?_)
            intro v' w1 hown' hgrow _
            have R := own_snoc HT2.out hown'
            have hB1 := (hB.alloc hsz _).grown hgrow (by simp; omega) (fun k hk => (hown.lt k hk).1)
            clear hown' hgrow hown hand hix
            go_wp2
            go_roundw
            case rel => exact ⟨1, by omega, by go_num, R, hB1⟩
            case measure => simp [meas, intOf]
          · obtain ⟨K, hK⟩ : ∃ K : Nat, N / 4096 % 64 = K := ⟨_, rfl⟩
            have hK64 : K < 64 := by omega
            have hand : bits BinOp.and IntKind.i64 ((N : Int) / 4096) 63 = (K : Int) := by rw [← hK]; exact and63 (N / 4096) (by omega)
            have hix := alpha_index K hK64 .i64
            have HT := grp_snoc acc N (s.size - j) 1 (letN K) (by show (grpL N (s.size - j))[1]? = _; simp only [grpL]; rw [grpE_1 _ _ (by have := HQ.out; omega), hK]; rfl)
            have HT2 : Hid (acc ++ (grpL N (s.size - j)).take 2 = cur ++ [letN K]) := by show _ = _; rw [← hcur]; exact HT
            clear HT hcur hK
            go_wp2_with (at_builtin; refine wpList_append_own _ rfl _ _ 41 rfl w.heap.size 5 i0 (.int .u8 0) 1 1 Try.underlying41 hi hz0 hz1 hz2 rfl (by decide) _ _ _ rfl (hown.alloc _) ⟨wr.heap.size, 0, none⟩ 1 1 [.int .u8 ((letN K).toNat : Int)] rfl rfl (e_one_cell _ _) (e_one_one _) (by unfold maxLen; omega) (by omega) (by simp; omega) ?_)
            intro v' w1 hown' hgrow _
            have R := own_snoc HT2.out hown'
            have hB1 := (hB.alloc hsz _).grown hgrow (by simp; omega) (fun k hk => (hown.lt k hk).1)
            clear hown' hgrow hown hand hix
            go_wp2
            go_roundw
            case rel => exact ⟨2, by omega, by go_num, R, hB1⟩
            case measure => simp [meas, intOf]
          · obtain ⟨K, hK⟩ : ∃ K : Nat, N / 64 % 64 = K := ⟨_, rfl⟩
            have hK64 : K < 64 := by omega
            have hand : bits BinOp.and IntKind.i64 ((N : Int) / 64) 63 = (K : Int) := by rw [← hK]; exact and63 (N / 64) (by omega)
            have hix := alpha_index K hK64 .i64
            have HT := grp_snoc acc N (s.size - j) 2 (letN K) (by show (grpL N (s.size - j))[2]? = _; simp only [grpL]; rw [grpE_2 _ _ (by have := HQ.out; omega), hK]; rfl)
            have HT2 : Hid (acc ++ (grpL N (s.size - j)).take 3 = cur ++ [letN K]) := by show _ = _; rw [← hcur]; exact HT
            clear HT hcur hK
            go_wp2_with (at_builtin; refine wpList_append_own _ rfl _ _ 41 rfl w.heap.size 5 i0 (.int .u8 0) 1 1 Try.underlying41 hi hz0 hz1 hz2 rfl (by decide) _ _ _ rfl (hown.alloc _) ⟨wr.heap.size, 0, none⟩ 1 1 [.int .u8 ((letN K).toNat : Int)] rfl rfl (e_one_cell _ _) (e_one_one _) (by unfold maxLen; omega) (by omega) (by simp; omega) ?_)
            intro v' w1 hown' hgrow _
            have R := own_snoc HT2.out hown'
            have hB1 := (hB.alloc hsz _).grown hgrow (by simp; omega) (fun k hk => (hown.lt k hk).1)
            clear hown' hgrow hown hand hix
            go_wp2
            go_roundw
            case rel => exact ⟨3, by omega, by go_num, R, hB1⟩
            case measure => simp [meas, intOf]
          · have HT := grp_snoc acc N (s.size - j) 3 61 (by rw [HQ.out]; rfl)
            have HT2 : Hid (acc ++ (grpL N (s.size - j)).take 4 = cur ++ [61]) := by show _ = _; rw [← hcur]; exact HT
            clear HT hcur
            go_wp2_with (at_builtin; refine wpList_append_own _ rfl _ _ 41 rfl w.heap.size 5 i0 (.int .u8 0) 1 1 Try.underlying41 hi hz0 hz1 hz2 rfl (by decide) _ _ _ rfl (hown.alloc _) ⟨wr.heap.size, 0, none⟩ 1 1 [.int .u8 61] rfl rfl (e_one_cell _ _) (e_one_one _) (by unfold maxLen; omega) (by omega) (by simp; omega) ?_)
            intro v' w1 hown' hgrow _
            have R := own_snoc HT2.out hown'
            have hB1 := (hB.alloc hsz _).grown hgrow (by simp; omega) (fun k hk => (hown.lt k hk).1)
            clear hown' hgrow hown
            go_wp2
            go_roundw
            case rel => exact ⟨4, by omega, by go_num, R, hB1⟩
            case measure => simp [meas, intOf]
          · have e4 : acc ++ grpL N (s.size - j) = cur := hcur
            have hle : (acc ++ grpL N (s.size - j)).length ≤ 2 * (j + 3) := hl_of hlen
            have R : wr.ownsRow w.heap.size 5 1 u3 (acc ++ grpL N (s.size - j)).length (Lib.byteCells (acc ++ grpL N (s.size - j))) := by rw [e4]; exact hown
            have HR : Hid (wr.ownsRow w.heap.size 5 1 u3 (acc ++ grpL N (s.size - j)).length (Lib.byteCells (acc ++ grpL N (s.size - j)))) := R
            clear hown R e4 hcur
            go_wp2
            go_roundw
            case rel => exact ⟨j + 3, acc ++ grpL N (s.size - j), by go_num, by omega, HG.out, hle, HR.out, hB⟩
            case measure => simp [intOf]; omega
      · have h2 : j + 1 < s.size := by omega
        have h3 : j + 2 < s.size := by omega
        have q2 : 2 < (s.size : Int) - (j : Int) := by omega
        have qs : 3 ≤ s.size - j := by omega
        have HQ : Hid (s.size - j ≥ 3) := qs
        have wa := wrapA s[j]
        have wa' := wrapA16 s[j]
        have wb := wrapA s[j + 1]
        have wc := wrapA s[j + 2]
        have wb' := wrapA8 s[j + 1]
        obtain ⟨N, hN⟩ : ∃ N : Nat, s[j].toNat * 65536 + s[j + 1].toNat * 256 + s[j + 2].toNat = N := ⟨_, rfl⟩
        have hN24 : N < 16777216 := by rw [← hN]; exact n24 _ _ _
        have o1 := orAB s[j] s[j + 1]
        have o2 := orABC s[j] s[j + 1] s[j + 2]
        rw [hN] at o2
        have HG : Hid (acc ++ grpL N (s.size - j) ++ toL (s.data.toList.drop (j + 3)) = toL s.data.toList) := by
          show _ = _
          have e := grp3 s[j] s[j + 1] s[j + 2] (s.data.toList.drop (j + 3)) (s.size - j) qs
          rw [hN, ← grpL_eq] at e
          rw [← HA.out, drop3 s j h3, e, List.append_assoc]
        clear hN qs HA
        go_wp2
        clear wa wa' wb wc wb' o1 o2
        go_loopw [3, 7] (fun v k wi => ∃ m : Nat, m ≤ 4 ∧ k = .int .i64 (m : Int) ∧ wi.ownsRow w.heap.size 5 1 v (acc ++ (grpL N (s.size - j)).take m).length (Lib.byteCells (acc ++ (grpL N (s.size - j)).take m)) ∧ Below w.heap.size w wi) (fun _ k _ => meas k)
        case atStart => exact ⟨0, by omega, rfl, by simpa using hown, hB⟩
        case round =>
          clear hown hB hsz
          obtain ⟨m, hm, rfl, hown, hB⟩ := hrel
          have hsz := hB.size
          have hl : (acc ++ (grpL N (s.size - j)).take m).length ≤ 2 * j + 4 := by
            simp only [List.length_append, List.length_take]
            have : (grpL N (s.size - j)).length = 4 := rfl
            omega
          obtain ⟨cur, hcur⟩ : ∃ cur, acc ++ (grpL N (s.size - j)).take m = cur := ⟨_, rfl⟩
          rw [hcur] at hown hl
          rcases (show m = 0 ∨ m = 1 ∨ m = 2 ∨ m = 3 ∨ m = 4 from by omega) with rfl | rfl | rfl | rfl | rfl
          · obtain ⟨K, hK⟩ : ∃ K : Nat, N / 262144 % 64 = K := ⟨_, rfl⟩
            have hK64 : K < 64 := by omega
            have hand : bits BinOp.and IntKind.i64 ((N : Int) / 262144) 63 = (K : Int) := by rw [← hK]; exact and63 (N / 262144) (by omega)
            have hix := alpha_index K hK64 .i64
            have HT := grp_snoc acc N (s.size - j) 0 (letN K) (by show (grpL N (s.size - j))[0]? = _; simp only [grpL]; rw [grpE_0, hK]; rfl)
            have HT2 : Hid (acc ++ (grpL N (s.size - j)).take 1 = cur ++ [letN K]) := by show _ = _; rw [← hcur]; exact HT
            clear HT hcur hK
            go_wp2_with (at_builtin; refine wpList_append_own _ rfl _ _ 41 rfl w.heap.size 5 i0 (.int .u8 0) 1 1 Try.underlying41 hi hz0 hz1 hz2 rfl (by decide) _ _ _ rfl (hown.alloc _) ⟨wr.heap.size, 0, none⟩ 1 1 [.int .u8 ((letN K).toNat : Int)] rfl rfl (e_one_cell _ _) (e_one_one _) (by unfold maxLen; omega) (by omega) (by simp; omega) ?_)
            intro v' w1 hown' hgrow _
            have R := own_snoc HT2.out hown'
            have hB1 := (hB.alloc hsz _).grown hgrow (by simp; omega) (fun k hk => (hown.lt k hk).1)
            clear hown' hgrow hown hand hix
            go_wp2
            go_roundw
            case rel => exact ⟨1, by omega, by go_num, R, hB1⟩
            case measure => simp [meas, intOf]
          · obtain ⟨K, hK⟩ : ∃ K : Nat, N / 4096 % 64 = K := ⟨_, rfl⟩
            have hK64 : K < 64 := by omega
            have hand : bits BinOp.and IntKind.i64 ((N : Int) / 4096) 63 = (K : Int) := by rw [← hK]; exact and63 (N / 4096) (by omega)
            have hix := alpha_index K hK64 .i64
            have HT := grp_snoc acc N (s.size - j) 1 (letN K) (by show (grpL N (s.size - j))[1]? = _; simp only [grpL]; rw [grpE_1 _ _ (by have := HQ.out; omega), hK]; rfl)
            have HT2 : Hid (acc ++ (grpL N (s.size - j)).take 2 = cur ++ [letN K]) := by show _ = _; rw [← hcur]; exact HT
            clear HT hcur hK
            go_wp2_with (at_builtin; refine wpList_append_own _ rfl _ _ 41 rfl w.heap.size 5 i0 (.int .u8 0) 1 1 Try.underlying41 hi hz0 hz1 hz2 rfl (by decide) _ _ _ rfl (hown.alloc _) ⟨wr.heap.size, 0, none⟩ 1 1 [.int .u8 ((letN K).toNat : Int)] rfl rfl (e_one_cell _ _) (e_one_one _) (by unfold maxLen; omega) (by omega) (by simp; omega) ?_)
            intro v' w1 hown' hgrow _
            have R := own_snoc HT2.out hown'
            have hB1 := (hB.alloc hsz _).grown hgrow (by simp; omega) (fun k hk => (hown.lt k hk).1)
            clear hown' hgrow hown hand hix
            go_wp2
            go_roundw
            case rel => exact ⟨2, by omega, by go_num, R, hB1⟩
            case measure => simp [meas, intOf]
          · obtain ⟨K, hK⟩ : ∃ K : Nat, N / 64 % 64 = K := ⟨_, rfl⟩
            have hK64 : K < 64 := by omega
            have hand : bits BinOp.and IntKind.i64 ((N : Int) / 64) 63 = (K : Int) := by rw [← hK]; exact and63 (N / 64) (by omega)
            have hix := alpha_index K hK64 .i64
            have HT := grp_snoc acc N (s.size - j) 2 (letN K) (by show (grpL N (s.size - j))[2]? = _; simp only [grpL]; rw [grpE_2 _ _ (by have := HQ.out; omega), hK]; rfl)
            have HT2 : Hid (acc ++ (grpL N (s.size - j)).take 3 = cur ++ [letN K]) := by show _ = _; rw [← hcur]; exact HT
            clear HT hcur hK
            go_wp2_with (at_builtin; refine wpList_append_own _ rfl _ _ 41 rfl w.heap.size 5 i0 (.int .u8 0) 1 1 Try.underlying41 hi hz0 hz1 hz2 rfl (by decide) _ _ _ rfl (hown.alloc _) ⟨wr.heap.size, 0, none⟩ 1 1 [.int .u8 ((letN K).toNat : Int)] rfl rfl (e_one_cell _ _) (e_one_one _) (by unfold maxLen; omega) (by omega) (by simp; omega) ?_)
            intro v' w1 hown' hgrow _
            have R := own_snoc HT2.out hown'
            have hB1 := (hB.alloc hsz _).grown hgrow (by simp; omega) (fun k hk => (hown.lt k hk).1)
            clear hown' hgrow hown hand hix
            go_wp2
            go_roundw
            case rel => exact ⟨3, by omega, by go_num, R, hB1⟩
            case measure => simp [meas, intOf]
          · obtain ⟨K, hK⟩ : ∃ K : Nat, N % 64 = K := ⟨_, rfl⟩
            have hK64 : K < 64 := by omega
            have hand : bits BinOp.and IntKind.i64 (N : Int) 63 = (K : Int) := by rw [← hK]; exact and63 (N) (by omega)
            have hix := alpha_index K hK64 .i64
            have HT := grp_snoc acc N (s.size - j) 3 (letN K) (by show (grpL N (s.size - j))[3]? = _; simp only [grpL]; rw [grpE_3 _ _ (by have := HQ.out; omega), hK]; rfl)
            have HT2 : Hid (acc ++ (grpL N (s.size - j)).take 4 = cur ++ [letN K]) := by show _ = _; rw [← hcur]; exact HT
            clear HT hcur hK
            go_wp2_with (at_builtin; refine wpList_append_own _ rfl _ _ 41 rfl w.heap.size 5 i0 (.int .u8 0) 1 1 Try.underlying41 hi hz0 hz1 hz2 rfl (by decide) _ _ _ rfl (hown.alloc _) ⟨wr.heap.size, 0, none⟩ 1 1 [.int .u8 ((letN K).toNat : Int)] rfl rfl (e_one_cell _ _) (e_one_one _) (by unfold maxLen; omega) (by omega) (by simp; omega) ?_)
            intro v' w1 hown' hgrow _
            have R := own_snoc HT2.out hown'
            have hB1 := (hB.alloc hsz _).grown hgrow (by simp; omega) (fun k hk => (hown.lt k hk).1)
            clear hown' hgrow hown hand hix
            go_wp2
            go_roundw
            case rel => exact ⟨4, by omega, by go_num, R, hB1⟩
            case measure => simp [meas, intOf]
          · have e4 : acc ++ grpL N (s.size - j) = cur := hcur
            have hle : (acc ++ grpL N (s.size - j)).length ≤ 2 * (j + 3) := hl_of hlen
            have R : wr.ownsRow w.heap.size 5 1 u3 (acc ++ grpL N (s.size - j)).length (Lib.byteCells (acc ++ grpL N (s.size - j))) := by rw [e4]; exact hown
            have HR : Hid (wr.ownsRow w.heap.size 5 1 u3 (acc ++ grpL N (s.size - j)).length (Lib.byteCells (acc ++ grpL N (s.size - j)))) := R
            clear hown R e4 hcur
            go_wp2
            go_roundw
            case rel => exact ⟨j + 3, acc ++ grpL N (s.size - j), by go_num, by omega, HG.out, hle, HR.out, hB⟩
            case measure => simp [intOf]; omega
    · have e : s.data.toList.drop j = [] := dropE s j (by omega)
      rw [e] at hacc
      have hacc' : acc = toL s.data.toList := by simpa [toL] using hacc
      subst hacc'
      have hr := run_str_own (P := Try.prog) (src := 41) (dst := 9) Try.underlying41 Try.underlying5 Try.underlying9 hown
      clear hown hacc e hlen
      go_wp2
      go_ret
      exact ⟨rfl, hB⟩

end Go.Proofs.Ytcjeodgfpnecgaa

namespace Go.Proofs.Ytcjeodgfpnecgaa
open Go.RowKit Go.Shelf
attribute [local go_sem] Oper.semAt_some
set_option linter.unusedVariables false
set_option linter.unusedSimpArgs false

/-- What a round keeps for the iterator: the block of the text's box. -/
def KeepsBox (b : Nat) (W W' : World) : Prop := W'.heap[b]? = W.heap[b]?

theorem keepsBox_t {b : Nat} {A B C : World} (h : KeepsBox b A B) (k : KeepsBox b B C) : KeepsBox b A C := Eq.trans k h

theorem keepsBox_b {b : Nat} {w : World} (hb : b < w.heap.size) (W : World) (l : Nat) (o o' : Obj) (hl : w.heap.size ≤ l) (h : W.heap[l]? = some o) (_ : o.isCells = false) (_ : o.isWalk = false) : KeepsBox b W (W.putObj l o') :=
  World.putObj_heap_other (by omega)

theorem e_take_snoc (s : ByteArray) (k : Nat) (h : k < s.size) : s.data.toList.take (k + 1) = s.data.toList.take k ++ [s[k]] := by
  rw [List.take_succ_eq_append_getElem (by simpa using h)]; rfl

theorem take_len (s : ByteArray) (k : Nat) (h : k ≤ s.size) : (s.data.toList.take k).length = k := by
  rw [List.length_take, ← e_sz s]; omega

theorem boxed_cell {W : World} {B : Nat} {v : Value} {t : TypeId} (h : W.heap[B]? = some (.cells #[v] t (0, 0))) : W.cell? ⟨B, 0, none⟩ = some v := Boxed.cell (t := t) h

set_option maxRecDepth 100000 in
set_option maxRecDepth 16000 in
set_option maxHeartbeats 2000000 in
theorem iter1_in (F : Fence) (n : Nat) (hf : F.fn 50) (hro : F.round = none) (hn : 1 ≤ n) (l Bn : Nat) (s : ByteArray) (hs : s.size ≤ 1073741824) (J Jx : List UInt8 → World → Prop)
    (hY : ∀ pre x W, J pre W → pre.length < s.size → YieldAt F (n - 1) Try.prog l #[.int .u8 (x.toNat : Int)] W fun e W' =>
      (e = .returned (.bool true) ∧ J (pre ++ [x]) W' ∧ KeepsBox Bn W W') ∨ (e = .returned (.bool false) ∧ Jx (pre ++ [x]) W'))
    (W : World) (hBn : W.heap[Bn]? = some (.cells #[.string s] 9 (0, 0))) (h0 : J [] W) :
    CallsIn F n Try.prog 50 #[.func (.yield l) #[] #[], .pointer (some ⟨Bn, 0, none⟩)] W fun e W' => (∃ v, e = .returned v) ∧
      ((∃ ys, ys = s.data.toList ∧ J ys W') ∨ (∃ pre, pre <+: s.data.toList ∧ Jx pre W')) := by
  refine callsIn_of_wp Try.func50 rfl hf ?_ hro
  simp only [Try.ntmps50, List.size_toArray, List.length_cons, List.length_nil, Nat.reduceAdd, Nat.reduceSub, Array.replicate_succ, Array.replicate_zero, List.push_toArray, List.append_toArray, List.nil_append, List.cons_append]
  have hc0 := boxed_cell hBn
  gi_wp2
  gi_loopw [6] (fun i wr => ∃ k : Nat, k ≤ s.size ∧ i = .int .i64 k ∧ J (s.data.toList.take k) wr ∧ wr.heap[Bn]? = some (.cells #[.string s] 9 (0, 0)))
    (fun i _ => s.size - (intOf i).toNat)
  case atStart => exact ⟨0, Nat.zero_le _, rfl, h0, hBn⟩
  case round =>
    clear hc0
    obtain ⟨k, hk, rfl, hJs, hbx⟩ := hrel
    by_cases hlt : k < s.size
    · obtain ⟨fn, tmps, assign, body, hy, hR⟩ := hY _ s[k] wr hJs (by rw [take_len s k hk]; exact hlt)
      have hc1 := boxed_cell hbx
      gi_wp2
      refine hR.mono ?_
      rintro e W3 (⟨rfl, hJ3, hk3⟩ | ⟨rfl, hJx3⟩)
      · gi_wp2
        go_roundw
        case rel => exact ⟨k + 1, by omega, by go_num, by rw [e_take_snoc s k hlt]; exact hJ3, Eq.trans hk3 hbx⟩
        case measure => simp [intOf]; omega
      · gi_wp2
        refine bodyPost_ret (results_none rfl _ _ _) rfl ?_
        exact ⟨⟨_, rfl⟩, .inr ⟨_, by rw [← e_take_snoc s k hlt]; exact List.take_prefix _ _, hJx3⟩⟩
    · have hk' : s.data.toList.take k = s.data.toList := List.take_of_length_le (by rw [← e_sz s]; omega)
      rw [hk'] at hJs
      gi_wp2
      go_end0
      exact ⟨⟨_, rfl⟩, .inl ⟨_, rfl, hJs⟩⟩

set_option maxRecDepth 16000 in
set_option maxHeartbeats 1000000 in
theorem iter_in (F : Fence) (n : Nat) (hf : F.fn 24) (hro : F.round = none) (s : ByteArray) (w : World) :
    CallsIn F n Try.prog 24 #[.string s] w fun e w' => e = .returned (.func (.func 50) #[] #[.pointer (some ⟨w.heap.size, 0, none⟩)]) ∧ w' = w.alloc (.cells #[.string s] 9) := by
  refine callsIn_of_wp Try.func24 rfl hf ?_ hro
  simp only [Try.ntmps24, List.size_toArray, List.length_cons, List.length_nil, Nat.reduceAdd, Nat.reduceSub, Array.replicate_succ, Array.replicate_zero, List.push_toArray, List.append_toArray, List.nil_append, List.cons_append]
  gi_wp2
  go_ret
  exact ⟨rfl, rfl⟩

/-- All bytes of the text in their order, or a part of them where a round said no more. -/
theorem iter_stops (F : Fence) (n : Nat) (hf : F.fn 50) (hro : F.round = none) (hn : 1 ≤ n) (Bn : Nat) (s : ByteArray) (hs : s.size ≤ 1073741824) (w : World)
    (hBn : w.heap[Bn]? = some (.cells #[.string s] 9 (0, 0))) :
    SeqStopsK F n Try.prog 50 #[.pointer (some ⟨Bn, 0, none⟩)] (fun x : UInt8 => #[Value.int .u8 (x.toNat : Int)]) (KeepsBox Bn) (fun ys => ys = s.data.toList) (fun pre => pre <+: s.data.toList) s.size w := fun l J Jx W hW _ _ hY h0 => by
  exact iter1_in F n hf hro hn l Bn s hs J Jx hY W ((hW.block Bn (lt_of_heap hBn)).trans hBn) h0

end Go.Proofs.Ytcjeodgfpnecgaa
