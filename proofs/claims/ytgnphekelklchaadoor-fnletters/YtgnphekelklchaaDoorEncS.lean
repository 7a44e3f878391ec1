/- Contract of the specification's ToLetters: it writes what toL says. -/
import Derived.Test.YtgnphekelklchaaDoorRows
import Derived.Test.YtgnphekelklchaaDoorMath
import Derived.Test.YtgnphekelklchaaDoorKit
import Derived.Test.YtgnphekelklchaaDoorSmall
import Derived.Test.YtgnphekelklchaaDoorBits
import Derived.WalkKit
import Derived.OwnWalk
namespace Go.Proofs.YtgnphekelklchaaDoor
open Go.RowKit
set_option linter.unusedVariables false
set_option linter.unusedSimpArgs false

theorem info5 : (Tryd.prog.info? 5).map (fun i => (i.zero, i.size, i.bytes)) = some (some (.int .u8 0), 1, 1) := by kernel_rfl

def grpL (N left : Nat) : List UInt8 := [grpE N left 0, grpE N left 1, grpE N left 2, grpE N left 3]

theorem grpL_eq (N left : Nat) : grpL N left = [grpE N left 0, grpE N left 1, grpE N left 2, grpE N left 3] := rfl

def meas (v : Value) : Nat := 4 - (intOf v).toNat

theorem drop1 (s : ByteArray) (j : Nat) (h : j < s.size) : s.data.toList.drop j = s[j] :: s.data.toList.drop (j + 1) := List.drop_eq_getElem_cons (by rw [← sz s]; exact h)

theorem dropE (s : ByteArray) (j : Nat) (h : s.size ≤ j) : s.data.toList.drop j = [] := List.drop_eq_nil_of_le (by rw [← sz s]; exact h)

theorem drop3 (s : ByteArray) (j : Nat) (h : j + 2 < s.size) : s.data.toList.drop j = s[j] :: s[j + 1] :: s[j + 2] :: s.data.toList.drop (j + 3) := by
  rw [drop1 s j (by omega), drop1 s (j + 1) (by omega), drop1 s (j + 1 + 1) (by omega)]

theorem one_cell (w : World) (v : Value) : ∀ j u, [v][j]? = some u → (w.alloc (.cells #[v] 5)).cell? ((⟨w.heap.size, 0, none⟩ : Addr).add j) = some u := by
  intro j u hj
  match j, hj with
  | 0, hj => simp at hj; subst hj; simp [Addr.add]

theorem one_one (n : Int) : ∀ u ∈ [Value.int .u8 n], u.oneCell' = true := by
  intro u hu; simp at hu; subst hu; rfl

theorem own_snoc {w : World} {B : Nat} {v : Value} {acc acc' : List UInt8} {x : UInt8} (e : acc' = acc ++ [x]) (h : w.ownsRow B 5 1 v (acc.length + 1) (Lib.byteCells acc ++ [.int .u8 x.toNat])) : w.ownsRow B 5 1 v acc'.length (Lib.byteCells acc') := by
  have : Lib.byteCells acc ++ [.int .u8 x.toNat] = Lib.byteCells (acc ++ [x]) := by simp [Lib.byteCells]
  rw [e, ← this, List.length_append]
  exact h

theorem grp_snoc (acc : List UInt8) (N left m : Nat) (x : UInt8) (h : (grpL N left)[m]? = some x) : acc ++ (grpL N left).take (m + 1) = (acc ++ (grpL N left).take m) ++ [x] := by
  rw [List.take_add_one, h, List.append_assoc]
  rfl

theorem hl_of {acc : List UInt8} {N left j : Nat} (h : acc.length ≤ 2 * j) : (acc ++ grpL N left).length ≤ 2 * (j + 3) := by
  simp only [List.length_append]
  have : (grpL N left).length = 4 := rfl
  omega

set_option maxHeartbeats 8000000 in
theorem cEncS (s : ByteArray) (w : World) (h0 : s.size ≤ 1048576) :
    Calls Tryd.prog 13 #[.string s] w fun e w' => e = .returned (.string ⟨(toL s.data.toList).toArray⟩) ∧ Below w.heap.size w w' := by
  obtain ⟨i0, hi, hz0, hz1, hz2⟩ := info_parts info5
  go_enter Tryd.func13, Tryd.ntmps13
  go_wp2
  go_loopw [3, 4] (fun v i wr => ∃ (j : Nat) (acc : List UInt8), i = .int .i64 (j : Int) ∧ j ≤ s.size + 2 ∧ acc ++ toL (s.data.toList.drop j) = toL s.data.toList ∧ acc.length ≤ 2 * j ∧ wr.ownsRow w.heap.size 5 1 v acc.length (Lib.byteCells acc) ∧ Below w.heap.size w wr) (fun _ i _ => s.size - (intOf i).toNat)
  case atStart => exact ⟨0, [], rfl, Nat.zero_le _, by simp, by simp, World.ownsRow_made _ _ _ (Nat.le_refl _) (by decide) rfl, (Below.refl _ _).alloc (Nat.le_refl _) _⟩
  case round =>
    obtain ⟨j, acc, rfl, hj, hacc, hlen, hown, hB⟩ := hrel
    have hsz := hB.size
    by_cases hlt : j < s.size
    · have HA : Hid (acc ++ toL (s.data.toList.drop j) = toL s.data.toList) := hacc
      clear hacc
      rcases (show j + 1 = s.size ∨ j + 2 = s.size ∨ j + 3 ≤ s.size by omega) with hq | hq | hq
      · have q1 : (s.size : Int) - (j : Int) ≤ 1 := by omega
        have qs : s.size - j = 1 := by omega
        have HQ : Hid (s.size - j = 1) := qs
        have wa := wrapA s[j]
        obtain ⟨N, hN⟩ : ∃ N : Nat, s[j].toNat * 65536 = N := ⟨_, rfl⟩
        have hN24 : N < 16777216 := by rw [← hN]; have := n24 s[j] 0 0; simpa using this
        have wa' : wrap64 ((s[j].toNat : Int) * 65536) = (N : Int) := by rw [wrapA16, ← hN]; simp
        have HG : Hid (acc ++ grpL N (s.size - j) ++ toL (s.data.toList.drop (j + 3)) = toL s.data.toList) := by
          show _ = _
          rw [← HA.out, drop1 s j hlt, dropE s (j + 1) (by omega), dropE s (j + 3) (by omega), qs, grp1, hN, ← grpL_eq]
          exact List.append_nil _
        clear hN qs HA
        go_wp2
        rw [wa']
        clear wa wa'
        go_loopw [3, 7] (fun v k wi => ∃ m : Nat, m ≤ 4 ∧ k = .int .i64 (m : Int) ∧ wi.ownsRow w.heap.size 5 1 v (acc ++ (grpL N (s.size - j)).take m).length (Lib.byteCells (acc ++ (grpL N (s.size - j)).take m)) ∧ Below w.heap.size w wi) (fun _ k _ => meas k)
        case atStart => exact ⟨0, by omega, rfl, by simpa using hown, hB⟩
        case round =>
          clear hown hB hsz
          obtain ⟨m, hm, rfl, hown, hB⟩ := hrel
          have hsz := hB.size
          have hl : (acc ++ (grpL N (s.size - j)).take m).length ≤ 2 * j + 4 := by
            simp only [List.length_append, List.length_take]
            have : (grpL N (s.size - j)).length = 4 := rfl
            omega
          obtain ⟨cur, hcur⟩ : ∃ cur, acc ++ (grpL N (s.size - j)).take m = cur := ⟨_, rfl⟩
          rw [hcur] at hown hl
          rcases (show m = 0 ∨ m = 1 ∨ m = 2 ∨ m = 3 ∨ m = 4 from by omega) with rfl | rfl | rfl | rfl | rfl
          · obtain ⟨K, hK⟩ : ∃ K : Nat, N / 262144 % 64 = K := ⟨_, rfl⟩
            have hK64 : K < 64 := by omega
            have hand : bits BinOp.and IntKind.i64 ((N : Int) / 262144) 63 = (K : Int) := by rw [← hK]; exact and63 (N / 262144) (by omega)
            have hix := alpha_index K hK64 .i64
            have HT := grp_snoc acc N (s.size - j) 0 (letN K) (by show (grpL N (s.size - j))[0]? = _; simp only [grpL]; rw [grpE_0, hK]; rfl)
            have HT2 : Hid (acc ++ (grpL N (s.size - j)).take 1 = cur ++ [letN K]) := by show _ = _; rw [← hcur]; exact HT
            clear HT hcur hK
            go_wp2_with (at_builtin; refine wpList_append_own _ rfl _ _ 22 rfl w.heap.size 5 i0 (.int .u8 0) 1 1 Tryd.underlying22 hi hz0 hz1 hz2 rfl (by decide) _ _ _ rfl (hown.alloc _) ⟨wr.heap.size, 0, none⟩ 1 1 [.int .u8 ((letN K).toNat : Int)] rfl rfl (one_cell _ _) (one_one _) (by unfold maxLen; omega) (by omega) (by simp; omega) ?_)
            intro v' w1 hown' hgrow _
            have R := own_snoc HT2.out hown'
            have hB1 := (hB.alloc hsz _).grown hgrow (by simp; omega) (fun k hk => (hown.lt k hk).1)
            clear hown' hgrow hown hand hix
            go_wp2
            go_roundw
            case rel => exact ⟨1, by omega, by go_num, R, hB1⟩
            case measure => simp [meas, intOf]
          · obtain ⟨K, hK⟩ : ∃ K : Nat, N / 4096 % 64 = K := ⟨_, rfl⟩
            have hK64 : K < 64 := by omega
            have hand : bits BinOp.and IntKind.i64 ((N : Int) / 4096) 63 = (K : Int) := by rw [← hK]; exact and63 (N / 4096) (by omega)
            have hix := alpha_index K hK64 .i64
            have HT := grp_snoc acc N (s.size - j) 1 (letN K) (by show (grpL N (s.size - j))[1]? = _; simp only [grpL]; rw [grpE_1 _ _ (by have := HQ.out; omega), hK]; rfl)
            have HT2 : Hid (acc ++ (grpL N (s.size - j)).take 2 = cur ++ [letN K]) := by show _ = _; rw [← hcur]; exact HT
            clear HT hcur hK
            go_wp2_with (at_builtin; refine wpList_append_own _ rfl _ _ 22 rfl w.heap.size 5 i0 (.int .u8 0) 1 1 Tryd.underlying22 hi hz0 hz1 hz2 rfl (by decide) _ _ _ rfl (hown.alloc _) ⟨wr.heap.size, 0, none⟩ 1 1 [.int .u8 ((letN K).toNat : Int)] rfl rfl (one_cell _ _) (one_one _) (by unfold maxLen; omega) (by omega) (by simp; omega) ?_)
            intro v' w1 hown' hgrow _
            have R := own_snoc HT2.out hown'
            have hB1 := (hB.alloc hsz _).grown hgrow (by simp; omega) (fun k hk => (hown.lt k hk).1)
            clear hown' hgrow hown hand hix
            go_wp2
            go_roundw
            case rel => exact ⟨2, by omega, by go_num, R, hB1⟩
            case measure => simp [meas, intOf]
          · have HT := grp_snoc acc N (s.size - j) 2 61 (by rw [HQ.out]; rfl)
            have HT2 : Hid (acc ++ (grpL N (s.size - j)).take 3 = cur ++ [61]) := by show _ = _; rw [← hcur]; exact HT
            clear HT hcur
            go_wp2_with (at_builtin; refine wpList_append_own _ rfl _ _ 22 rfl w.heap.size 5 i0 (.int .u8 0) 1 1 Tryd.underlying22 hi hz0 hz1 hz2 rfl (by decide) _ _ _ rfl (hown.alloc _) ⟨wr.heap.size, 0, none⟩ 1 1 [.int .u8 61] rfl rfl (one_cell _ _) (one_one _) (by unfold maxLen; omega) (by omega) (by simp; omega) ?_)
            intro v' w1 hown' hgrow _
            have R := own_snoc HT2.out hown'
            have hB1 := (hB.alloc hsz _).grown hgrow (by simp; omega) (fun k hk => (hown.lt k hk).1)
            clear hown' hgrow hown
            go_wp2
            go_roundw
            case rel => exact ⟨3, by omega, by go_num, R, hB1⟩
            case measure => simp [meas, intOf]
          · have HT := grp_snoc acc N (s.size - j) 3 61 (by rw [HQ.out]; rfl)
            have HT2 : Hid (acc ++ (grpL N (s.size - j)).take 4 = cur ++ [61]) := by show _ = _; rw [← hcur]; exact HT
            clear HT hcur
            go_wp2_with (at_builtin; refine wpList_append_own _ rfl _ _ 22 rfl w.heap.size 5 i0 (.int .u8 0) 1 1 Tryd.underlying22 hi hz0 hz1 hz2 rfl (by decide) _ _ _ rfl (hown.alloc _) ⟨wr.heap.size, 0, none⟩ 1 1 [.int .u8 61] rfl rfl (one_cell _ _) (one_one _) (by unfold maxLen; omega) (by omega) (by simp; omega) ?_)
            intro v' w1 hown' hgrow _
            have R := own_snoc HT2.out hown'
            have hB1 := (hB.alloc hsz _).grown hgrow (by simp; omega) (fun k hk => (hown.lt k hk).1)
            clear hown' hgrow hown
            go_wp2
            go_roundw
            case rel => exact ⟨4, by omega, by go_num, R, hB1⟩
            case measure => simp [meas, intOf]
          · have e4 : acc ++ grpL N (s.size - j) = cur := hcur
            have hle : (acc ++ grpL N (s.size - j)).length ≤ 2 * (j + 3) := hl_of hlen
            have R : wr.ownsRow w.heap.size 5 1 u3 (acc ++ grpL N (s.size - j)).length (Lib.byteCells (acc ++ grpL N (s.size - j))) := by rw [e4]; exact hown
            have HR : Hid (wr.ownsRow w.heap.size 5 1 u3 (acc ++ grpL N (s.size - j)).length (Lib.byteCells (acc ++ grpL N (s.size - j)))) := R
            clear hown R e4 hcur
            go_wp2
            go_roundw
            case rel => exact ⟨j + 3, acc ++ grpL N (s.size - j), by go_num, by omega, HG.out, hle, HR.out, hB⟩
            case measure => simp [intOf]; omega
      · have h2 : j + 1 < s.size := by omega
        have q1 : 1 < (s.size : Int) - (j : Int) := by omega
        have q2 : (s.size : Int) - (j : Int) ≤ 2 := by omega
        have qs : s.size - j = 2 := by omega
        have HQ : Hid (s.size - j = 2) := qs
        have wa := wrapA s[j]
        have wa' := wrapA16 s[j]
        have wb := wrapA s[j + 1]
        have wb' := wrapA8 s[j + 1]
        obtain ⟨N, hN⟩ : ∃ N : Nat, s[j].toNat * 65536 + s[j + 1].toNat * 256 = N := ⟨_, rfl⟩
        have hN24 : N < 16777216 := by rw [← hN]; have := n24 s[j] s[j + 1] 0; simpa using this
        have o1 : bits BinOp.or IntKind.i64 ((s[j].toNat : Int) * 65536) ((s[j + 1].toNat : Int) * 256) = (N : Int) := by rw [orAB, ← hN]; simp
        have HG : Hid (acc ++ grpL N (s.size - j) ++ toL (s.data.toList.drop (j + 3)) = toL s.data.toList) := by
          show _ = _
          rw [← HA.out, drop1 s j hlt, drop1 s (j + 1) h2, dropE s (j + 1 + 1) (by omega), dropE s (j + 3) (by omega), qs, grp2, hN, ← grpL_eq]
          exact List.append_nil _
        clear hN qs HA
        go_wp2
        try rw [o1]
        clear wa wa' wb wb' o1
        go_loopw [3, 7] (fun v k wi => ∃ m : Nat, m ≤ 4 ∧ k = .int .i64 (m : Int) ∧ wi.ownsRow w.heap.size 5 1 v (acc ++ (grpL N (s.size - j)).take m).length (Lib.byteCells (acc ++ (grpL N (s.size - j)).take m)) ∧ Below w.heap.size w wi) (fun _ k _ => meas k)
        case atStart => exact ⟨0, by omega, rfl, by simpa using hown, hB⟩
        case round =>
          clear hown hB hsz
          obtain ⟨m, hm, rfl, hown, hB⟩ := hrel
          have hsz := hB.size
          have hl : (acc ++ (grpL N (s.size - j)).take m).length ≤ 2 * j + 4 := by
            simp only [List.length_append, List.length_take]
            have : (grpL N (s.size - j)).length = 4 := rfl
            omega
          obtain ⟨cur, hcur⟩ : ∃ cur, acc ++ (grpL N (s.size - j)).take m = cur := ⟨_, rfl⟩
          rw [hcur] at hown hl
          rcases (show m = 0 ∨ m = 1 ∨ m = 2 ∨ m = 3 ∨ m = 4 from by omega) with rfl | rfl | rfl | rfl | rfl
          · obtain ⟨K, hK⟩ : ∃ K : Nat, N / 262144 % 64 = K := ⟨_, rfl⟩
            have hK64 : K < 64 := by omega
            have hand : bits BinOp.and IntKind.i64 ((N : Int) / 262144) 63 = (K : Int) := by rw [← hK]; exact and63 (N / 262144) (by omega)
            have hix := alpha_index K hK64 .i64
            have HT := grp_snoc acc N (s.size - j) 0 (letN K) (by show (grpL N (s.size - j))[0]? = _; simp only [grpL]; rw [grpE_0, hK]; rfl)
            have HT2 : Hid (acc ++ (grpL N (s.size - j)).take 1 = cur ++ [letN K]) := by show _ = _; rw [← hcur]; exact HT
            clear HT hcur hK
            go_wp2_with (at_builtin; refine wpList_append_own _ rfl _ _ 22 rfl w.heap.size 5 i0 (.int .u8 0) 1 1 Tryd.underlying22 hi hz0 hz1 hz2 rfl (by decide) _ _ _ rfl (hown.alloc _) ⟨wr.heap.size, 0, none⟩ 1 1 [.int .u8 ((letN K).toNat : Int)] rfl rfl (one_cell _ _) (one_one _) (by unfold maxLen; omega) (by omega) (by simp; omega) ?_)
            intro v' w1 hown' hgrow _
            have R := own_snoc HT2.out hown'
            have hB1 := (hB.alloc hsz _).grown hgrow (by simp; omega) (fun k hk => (hown.lt k hk).1)
            clear hown' hgrow hown hand hix
            go_wp2
            go_roundw
            case rel => exact ⟨1, by omega, by go_num, R, hB1⟩
            case measure => simp [meas, intOf]
          · obtain ⟨K, hK⟩ : ∃ K : Nat, N / 4096 % 64 = K := ⟨_, rfl⟩
            have hK64 : K < 64 := by omega
            have hand : bits BinOp.and IntKind.i64 ((N : Int) / 4096) 63 = (K : Int) := by rw [← hK]; exact and63 (N / 4096) (by omega)
            have hix := alpha_index K hK64 .i64
            have HT := grp_snoc acc N (s.size - j) 1 (letN K) (by show (grpL N (s.size - j))[1]? = _; simp only [grpL]; rw [grpE_1 _ _ (by have := HQ.out; omega), hK]; rfl)
            have HT2 : Hid (acc ++ (grpL N (s.size - j)).take 2 = cur ++ [letN K]) := by show _ = _; rw [← hcur]; exact HT
            clear HT hcur hK
            go_wp2_with (at_builtin; refine wpList_append_own _ rfl _ _ 22 rfl w.heap.size 5 i0 (.int .u8 0) 1 1 Tryd.underlying22 hi hz0 hz1 hz2 rfl (by decide) _ _ _ rfl (hown.alloc _) ⟨wr.heap.size, 0, none⟩ 1 1 [.int .u8 ((letN K).toNat : Int)] rfl rfl (one_cell _ _) (one_one _) (by unfold maxLen; omega) (by omega) (by simp; omega) ?_)
            intro v' w1 hown' hgrow _
            have R := own_snoc HT2.out hown'
            have hB1 := (hB.alloc hsz _).grown hgrow (by simp; omega) (fun k hk => (hown.lt k hk).1)
            clear hown' hgrow hown hand hix
            go_wp2
            go_roundw
            case rel => exact ⟨2, by omega, by go_num, R, hB1⟩
            case measure => simp [meas, intOf]
          · obtain ⟨K, hK⟩ : ∃ K : Nat, N / 64 % 64 = K := ⟨_, rfl⟩
            have hK64 : K < 64 := by omega
            have hand : bits BinOp.and IntKind.i64 ((N : Int) / 64) 63 = (K : Int) := by rw [← hK]; exact and63 (N / 64) (by omega)
            have hix := alpha_index K hK64 .i64
            have HT := grp_snoc acc N (s.size - j) 2 (letN K) (by show (grpL N (s.size - j))[2]? = _; simp only [grpL]; rw [grpE_2 _ _ (by have := HQ.out; omega), hK]; rfl)
            have HT2 : Hid (acc ++ (grpL N (s.size - j)).take 3 = cur ++ [letN K]) := by show _ = _; rw [← hcur]; exact HT
            clear HT hcur hK
            go_wp2_with (at_builtin; refine wpList_append_own _ rfl _ _ 22 rfl w.heap.size 5 i0 (.int .u8 0) 1 1 Tryd.underlying22 hi hz0 hz1 hz2 rfl (by decide) _ _ _ rfl (hown.alloc _) ⟨wr.heap.size, 0, none⟩ 1 1 [.int .u8 ((letN K).toNat : Int)] rfl rfl (one_cell _ _) (one_one _) (by unfold maxLen; omega) (by omega) (by simp; omega) ?_)
            intro v' w1 hown' hgrow _
            have R := own_snoc HT2.out hown'
            have hB1 := (hB.alloc hsz _).grown hgrow (by simp; omega) (fun k hk => (hown.lt k hk).1)
            clear hown' hgrow hown hand hix
            go_wp2
            go_roundw
            case rel => exact ⟨3, by omega, by go_num, R, hB1⟩
            case measure => simp [meas, intOf]
          · have HT := grp_snoc acc N (s.size - j) 3 61 (by rw [HQ.out]; rfl)
            have HT2 : Hid (acc ++ (grpL N (s.size - j)).take 4 = cur ++ [61]) := by show _ = _; rw [← hcur]; exact HT
            clear HT hcur
            go_wp2_with (at_builtin; refine wpList_append_own _ rfl _ _ 22 rfl w.heap.size 5 i0 (.int .u8 0) 1 1 Tryd.underlying22 hi hz0 hz1 hz2 rfl (by decide) _ _ _ rfl (hown.alloc _) ⟨wr.heap.size, 0, none⟩ 1 1 [.int .u8 61] rfl rfl (one_cell _ _) (one_one _) (by unfold maxLen; omega) (by omega) (by simp; omega) ?_)
            intro v' w1 hown' hgrow _
            have R := own_snoc HT2.out hown'
            have hB1 := (hB.alloc hsz _).grown hgrow (by simp; omega) (fun k hk => (hown.lt k hk).1)
            clear hown' hgrow hown
            go_wp2
            go_roundw
            case rel => exact ⟨4, by omega, by go_num, R, hB1⟩
            case measure => simp [meas, intOf]
          · have e4 : acc ++ grpL N (s.size - j) = cur := hcur
            have hle : (acc ++ grpL N (s.size - j)).length ≤ 2 * (j + 3) := hl_of hlen
            have R : wr.ownsRow w.heap.size 5 1 u3 (acc ++ grpL N (s.size - j)).length (Lib.byteCells (acc ++ grpL N (s.size - j))) := by rw [e4]; exact hown
            have HR : Hid (wr.ownsRow w.heap.size 5 1 u3 (acc ++ grpL N (s.size - j)).length (Lib.byteCells (acc ++ grpL N (s.size - j)))) := R
            clear hown R e4 hcur
            go_wp2
            go_roundw
            case rel => exact ⟨j + 3, acc ++ grpL N (s.size - j), by go_num, by omega, HG.out, hle, HR.out, hB⟩
            case measure => simp [intOf]; omega
      · have h2 : j + 1 < s.size := by omega
        have h3 : j + 2 < s.size := by omega
        have q2 : 2 < (s.size : Int) - (j : Int) := by omega
        have qs : 3 ≤ s.size - j := by omega
        have HQ : Hid (s.size - j ≥ 3) := qs
        have wa := wrapA s[j]
        have wa' := wrapA16 s[j]
        have wb := wrapA s[j + 1]
        have wc := wrapA s[j + 2]
        have wb' := wrapA8 s[j + 1]
        obtain ⟨N, hN⟩ : ∃ N : Nat, s[j].toNat * 65536 + s[j + 1].toNat * 256 + s[j + 2].toNat = N := ⟨_, rfl⟩
        have hN24 : N < 16777216 := by rw [← hN]; exact n24 _ _ _
        have o1 := orAB s[j] s[j + 1]
        have o2 := orABC s[j] s[j + 1] s[j + 2]
        rw [hN] at o2
        have HG : Hid (acc ++ grpL N (s.size - j) ++ toL (s.data.toList.drop (j + 3)) = toL s.data.toList) := by
          show _ = _
          have e := grp3 s[j] s[j + 1] s[j + 2] (s.data.toList.drop (j + 3)) (s.size - j) qs
          rw [hN, ← grpL_eq] at e
          rw [← HA.out, drop3 s j h3, e, List.append_assoc]
        clear hN qs HA
        go_wp2
        clear wa wa' wb wc wb' o1 o2
        go_loopw [3, 7] (fun v k wi => ∃ m : Nat, m ≤ 4 ∧ k = .int .i64 (m : Int) ∧ wi.ownsRow w.heap.size 5 1 v (acc ++ (grpL N (s.size - j)).take m).length (Lib.byteCells (acc ++ (grpL N (s.size - j)).take m)) ∧ Below w.heap.size w wi) (fun _ k _ => meas k)
        case atStart => exact ⟨0, by omega, rfl, by simpa using hown, hB⟩
        case round =>
          clear hown hB hsz
          obtain ⟨m, hm, rfl, hown, hB⟩ := hrel
          have hsz := hB.size
          have hl : (acc ++ (grpL N (s.size - j)).take m).length ≤ 2 * j + 4 := by
            simp only [List.length_append, List.length_take]
            have : (grpL N (s.size - j)).length = 4 := rfl
            omega
          obtain ⟨cur, hcur⟩ : ∃ cur, acc ++ (grpL N (s.size - j)).take m = cur := ⟨_, rfl⟩
          rw [hcur] at hown hl
          rcases (show m = 0 ∨ m = 1 ∨ m = 2 ∨ m = 3 ∨ m = 4 from by omega) with rfl | rfl | rfl | rfl | rfl
          · obtain ⟨K, hK⟩ : ∃ K : Nat, N / 262144 % 64 = K := ⟨_, rfl⟩
            have hK64 : K < 64 := by omega
            have hand : bits BinOp.and IntKind.i64 ((N : Int) / 262144) 63 = (K : Int) := by rw [← hK]; exact and63 (N / 262144) (by omega)
            have hix := alpha_index K hK64 .i64
            have HT := grp_snoc acc N (s.size - j) 0 (letN K) (by show (grpL N (s.size - j))[0]? = _; simp only [grpL]; rw [grpE_0, hK]; rfl)
            have HT2 : Hid (acc ++ (grpL N (s.size - j)).take 1 = cur ++ [letN K]) := by show _ = _; rw [← hcur]; exact HT
            clear HT hcur hK
            go_wp2_with (at_builtin; refine wpList_append_own _ rfl _ _ 22 rfl w.heap.size 5 i0 (.int .u8 0) 1 1 Tryd.underlying22 hi hz0 hz1 hz2 rfl (by decide) _ _ _ rfl (hown.alloc _) ⟨wr.heap.size, 0, none⟩ 1 1 [.int .u8 ((letN K).toNat : Int)] rfl rfl (one_cell _ _) (one_one _) (by unfold maxLen; omega) (by omega) (by simp; omega) ?_)
            intro v' w1 hown' hgrow _
            have R := own_snoc HT2.out hown'
            have hB1 := (hB.alloc hsz _).grown hgrow (by simp; omega) (fun k hk => (hown.lt k hk).1)
            clear hown' hgrow hown hand hix
            go_wp2
            go_roundw
            case rel => exact ⟨1, by omega, by go_num, R, hB1⟩
            case measure => simp [meas, intOf]
          · obtain ⟨K, hK⟩ : ∃ K : Nat, N / 4096 % 64 = K := ⟨_, rfl⟩
            have hK64 : K < 64 := by omega
            have hand : bits BinOp.and IntKind.i64 ((N : Int) / 4096) 63 = (K : Int) := by rw [← hK]; exact and63 (N / 4096) (by omega)
            have hix := alpha_index K hK64 .i64
            have HT := grp_snoc acc N (s.size - j) 1 (letN K) (by show (grpL N (s.size - j))[1]? = _; simp only [grpL]; rw [grpE_1 _ _ (by have := HQ.out; omega), hK]; rfl)
            have HT2 : Hid (acc ++ (grpL N (s.size - j)).take 2 = cur ++ [letN K]) := by show _ = _; rw [← hcur]; exact HT
            clear HT hcur hK
            go_wp2_with (at_builtin; refine wpList_append_own _ rfl _ _ 22 rfl w.heap.size 5 i0 (.int .u8 0) 1 1 Tryd.underlying22 hi hz0 hz1 hz2 rfl (by decide) _ _ _ rfl (hown.alloc _) ⟨wr.heap.size, 0, none⟩ 1 1 [.int .u8 ((letN K).toNat : Int)] rfl rfl (one_cell _ _) (one_one _) (by unfold maxLen; omega) (by omega) (by simp; omega) ?_)
            intro v' w1 hown' hgrow _
            have R := own_snoc HT2.out hown'
            have hB1 := (hB.alloc hsz _).grown hgrow (by simp; omega) (fun k hk => (hown.lt k hk).1)
            clear hown' hgrow hown hand hix
            go_wp2
            go_roundw
            case rel => exact ⟨2, by omega, by go_num, R, hB1⟩
            case measure => simp [meas, intOf]
          · obtain ⟨K, hK⟩ : ∃ K : Nat, N / 64 % 64 = K := ⟨_, rfl⟩
            have hK64 : K < 64 := by omega
            have hand : bits BinOp.and IntKind.i64 ((N : Int) / 64) 63 = (K : Int) := by rw [← hK]; exact and63 (N / 64) (by omega)
            have hix := alpha_index K hK64 .i64
            have HT := grp_snoc acc N (s.size - j) 2 (letN K) (by show (grpL N (s.size - j))[2]? = _; simp only [grpL]; rw [grpE_2 _ _ (by have := HQ.out; omega), hK]; rfl)
            have HT2 : Hid (acc ++ (grpL N (s.size - j)).take 3 = cur ++ [letN K]) := by show _ = _; rw [← hcur]; exact HT
            clear HT hcur hK
            go_wp2_with (at_builtin; refine wpList_append_own _ rfl _ _ 22 rfl w.heap.size 5 i0 (.int .u8 0) 1 1 Tryd.underlying22 hi hz0 hz1 hz2 rfl (by decide) _ _ _ rfl (hown.alloc _) ⟨wr.heap.size, 0, none⟩ 1 1 [.int .u8 ((letN K).toNat : Int)] rfl rfl (one_cell _ _) (one_one _) (by unfold maxLen; omega) (by omega) (by simp; omega) ?_)
            intro v' w1 hown' hgrow _
            have R := own_snoc HT2.out hown'
            have hB1 := (hB.alloc hsz _).grown hgrow (by simp; omega) (fun k hk => (hown.lt k hk).1)
            clear hown' hgrow hown hand hix
            go_wp2
            go_roundw
            case rel => exact ⟨3, by omega, by go_num, R, hB1⟩
            case measure => simp [meas, intOf]
          · obtain ⟨K, hK⟩ : ∃ K : Nat, N % 64 = K := ⟨_, rfl⟩
            have hK64 : K < 64 := by omega
            have hand : bits BinOp.and IntKind.i64 (N : Int) 63 = (K : Int) := by rw [← hK]; exact and63 (N) (by omega)
            have hix := alpha_index K hK64 .i64
            have HT := grp_snoc acc N (s.size - j) 3 (letN K) (by show (grpL N (s.size - j))[3]? = _; simp only [grpL]; rw [grpE_3 _ _ (by have := HQ.out; omega), hK]; rfl)
            have HT2 : Hid (acc ++ (grpL N (s.size - j)).take 4 = cur ++ [letN K]) := by show _ = _; rw [← hcur]; exact HT
            clear HT hcur hK
            go_wp2_with (at_builtin; refine wpList_append_own _ rfl _ _ 22 rfl w.heap.size 5 i0 (.int .u8 0) 1 1 Tryd.underlying22 hi hz0 hz1 hz2 rfl (by decide) _ _ _ rfl (hown.alloc _) ⟨wr.heap.size, 0, none⟩ 1 1 [.int .u8 ((letN K).toNat : Int)] rfl rfl (one_cell _ _) (one_one _) (by unfold maxLen; omega) (by omega) (by simp; omega) ?_)
            intro v' w1 hown' hgrow _
            have R := own_snoc HT2.out hown'
            have hB1 := (hB.alloc hsz _).grown hgrow (by simp; omega) (fun k hk => (hown.lt k hk).1)
            clear hown' hgrow hown hand hix
            go_wp2
            go_roundw
            case rel => exact ⟨4, by omega, by go_num, R, hB1⟩
            case measure => simp [meas, intOf]
          · have e4 : acc ++ grpL N (s.size - j) = cur := hcur
            have hle : (acc ++ grpL N (s.size - j)).length ≤ 2 * (j + 3) := hl_of hlen
            have R : wr.ownsRow w.heap.size 5 1 u3 (acc ++ grpL N (s.size - j)).length (Lib.byteCells (acc ++ grpL N (s.size - j))) := by rw [e4]; exact hown
            have HR : Hid (wr.ownsRow w.heap.size 5 1 u3 (acc ++ grpL N (s.size - j)).length (Lib.byteCells (acc ++ grpL N (s.size - j)))) := R
            clear hown R e4 hcur
            go_wp2
            go_roundw
            case rel => exact ⟨j + 3, acc ++ grpL N (s.size - j), by go_num, by omega, HG.out, hle, HR.out, hB⟩
            case measure => simp [intOf]; omega
    · have e : s.data.toList.drop j = [] := dropE s j (by omega)
      rw [e] at hacc
      have hacc' : acc = toL s.data.toList := by simpa [toL] using hacc
      subst hacc'
      have hr := run_str_own (P := Tryd.prog) (src := 22) (dst := 9) Tryd.underlying22 Tryd.underlying5 Tryd.underlying9 hown
      clear hown hacc e hlen
      go_wp2
      go_ret
      exact ⟨rfl, hB⟩

end Go.Proofs.YtgnphekelklchaaDoor
