/-  -/
import Derived.Test.YtlpbbkaelbafdaaGreatDoorRows
import Derived.Test.YtlpbbkaelbafdaaGreatDoorM13
import Derived.Test.YtlpbbkaelbafdaaGreatDoorProg
import Derived.Test.YtlpbbkaelbafdaaGreatDoorM1
import Derived.Lib.LaidTab
import Derived.Lib.ItoaNum
import Derived.MakeChecks
import Derived.Shelf.Strings.Repeat
import Derived.Shelf.Strconv.Itoa4
import Derived.Shelf.LaysM
import Derived.Shelf.Strings.Builder1
import Derived.Shelf.Strings.Prefix
import Derived.Lib.Repeat
import Derived.WalkKit
import Derived.Lib.AppendIntMem
set_option linter.unusedVariables false
set_option linter.unusedSimpArgs false
namespace Go.Proofs.YtlpbbkaelbafdaaGreatDoor
open Go.RowKit

theorem laid_mem {P : Program} {w : World} {name : String} {d : DataW Unit} : ∀ {l : List (String × DataW Unit)} {ps : List MemPlace}, DataW.LaidVars P w l ps -> (name, d) ∈ l ->
  ∃ g t cs fuel p, P.globalNamed name = some g /\ (P.globals[g]?).map (·.type) = some t /\ w.var? P name = some cs /\ DataW.trod (fun _ => ()) P w 0 (fun _ => true) false fuel t cs.toList = some (d, p)
 | [], _, _, hm => by cases hm
 | (n, x) :: l, _, h, hm => by
  obtain ⟨g, t, cs, fuel, p, q, h1, h2, h3, h4, hs, _⟩ := h
  rcases List.mem_cons.1 hm with e | hm
  ·cases e
   exact ⟨g, t, cs, fuel, p, h1, h2, h3, h4⟩
  ·exact laid_mem hs hm

theorem heap_of_var {P : Program} {w : World} {name : String} {g : Nat} {cs : Array Value} (hg : P.globalNamed name = some g) (h : w.var? P name = some cs) : ∃ t fr, w.heap[g]? = some (.cells cs t fr) := by
 unfold World.var? at h
 rw [hg] at h
 simp only [Option.bind_some] at h
 split at h
 ·rename_i c t fr hh
  cases h
  exact ⟨t, fr, hh⟩
 ·cases h

theorem tab_of {P : Program} {w : World} {l : List (String × DataW Unit)} {name : String} {k : IntKind} {zs : List Int} {g : Nat} {t e : TypeId} {n : Nat} (h : laidMet P l w) (hm : (name, Lib.tabData k zs) ∈ l)
  (hg : P.globalNamed name = some g) (hty : (P.globals[g]?).map (·.type) = some t) (ht : P.underlying t = some (.array n e)) (he : P.underlying e = some (.int k)) (hce : P.cellsOf e = 1) (hct : P.cellsOf t = n) : Lib.TabIs P w name k zs := by
 obtain ⟨ps, hv, _⟩ := h
 obtain ⟨g', t', cs, fuel, p, h1, h2, h3, h4⟩ := laid_mem hv hm
 obtain rfl := Option.some.inj (hg.symm.trans h1)
 obtain rfl := Option.some.inj (hty.symm.trans h2)
 unfold Lib.TabIs
 rw [h3, <- Lib.cells_of_tab ht he hce hct h4]

def longZ : List Int := [31, 29, 31, 30, 31, 30, 31, 31, 30, 31, 30, 31]
def shortZ : List Int := [31, 28, 31, 30, 31, 30, 31, 31, 30, 31, 30, 31]

def longName : String := "loop.example/g00379/impl.longYear"
def shortName : String := "loop.example/g00379/impl.shortYear"

theorem mon_of {l : List (String × DataW Unit)} {w : World} (h : laidMet Tryz.prog l w) (h0 : (longName, Lib.tabData .i64 longZ) ∈ l) (h1 : (shortName, Lib.tabData .i64 shortZ) ∈ l) : Mon w := by
 have a := tab_of h h0 (g := 0) (t := 162) (by kernel_rfl) (by kernel_rfl) Tryz.underlying162 Tryz.underlying2 (by kernel_rfl) (by kernel_rfl)
 have b := tab_of h h1 (g := 1) (t := 162) (by kernel_rfl) (by kernel_rfl) Tryz.underlying162 Tryz.underlying2 (by kernel_rfl) (by kernel_rfl)
 exact ⟨heap_of_var (by kernel_rfl) a, heap_of_var (by kernel_rfl) b⟩

end Go.Proofs.YtlpbbkaelbafdaaGreatDoor

namespace Go.Proofs
open Go.Shelf
def Tryz.lays169_ren : Go.Shelf.Ren := ⟨fun | 169 => 133 | n => n, fun | 70 => 141 | 9 => 9 | 0 => 0 | 72 => 143 | 37 => 22 | 127 => 160 | 3 => 3 | 5 => 5 | n => n, fun | n => n⟩
theorem Tryz.lays169 : Go.Proofs.Lays.n169 Tryz.prog Tryz.lays169_ren := {
 mixed := by kernel_rfl
 f169 := Tryz.func133.trans (congrArg some (by kernel_rfl))
 t0 := Tryz.underlying0
 a0 := Tryz.isAgg0
 z0 := Tryz.sizeOf0
 v0 := Tryz.zeroValue0
 t3 := Tryz.underlying3
 a3 := Tryz.isAgg3
 z3 := Tryz.sizeOf3
 v3 := Tryz.zeroValue3
 t9 := Tryz.underlying9
 a9 := Tryz.isAgg9
 z9 := Tryz.sizeOf9
 v9 := Tryz.zeroValue9
 t37 := Tryz.underlying22
 a37 := Tryz.isAgg22
 z37 := Tryz.sizeOf22
 v37 := Tryz.zeroValue22
 t70 := Tryz.underlying141
 a70 := Tryz.isAgg141
 z70 := Tryz.sizeOf141
 v70 := Tryz.zeroValue141
 t72 := Tryz.underlying143
 a72 := Tryz.isAgg143
 z72 := Tryz.sizeOf143
 v72 := Tryz.zeroValue143
 t127 := Tryz.underlying160
 a127 := Tryz.isAgg160
 z127 := Tryz.sizeOf160
 v127 := Tryz.zeroValue160 }
theorem Tryz.Builder_Extra_169 : Builder.Extra Tryz.prog Tryz.lays169_ren := {
 sizeBuilder := by kernel_rfl
 liesBuilder := by kernel_rfl
 t5 := Tryz.underlying5
 a5 := Tryz.isAgg5
 z5 := Tryz.sizeOf5
 v5 := Tryz.zeroValue5
 infoByte := by kernel_rfl
 cellsByte := by kernel_rfl
 sizeByte := by kernel_rfl
 neB5 := by decide }
open Go.RowKit in
theorem Tryz.Builder_String_any (B b : Nat) (l : List UInt8) (w : World) (h : Lib.IsBuilder 143 5 B b (Lib.byteCells l) w) (hBw : B <= w.heap.size) :
  Calls Tryz.prog 133 #[.pointer (some ⟨b, 0, none⟩)] w fun e w' => e = .returned (.string ⟨l.toArray⟩) /\ Below B w w' := Any.Builder_String_any Tryz.lays169 Tryz.Builder_Extra_169 B b l w h hBw
def Tryz.laysM173_ren : Go.Shelf.Ren := ⟨fun | 173 => 165 | 246 => 172 | 283 => 178 | 284 => 179 | 285 => 180 | 286 => 181 | 129 => 187 | 317 => 186 | 318 => 188 | 319 => 189 | 320 => 190 | 337 => 192 | 338 => 193 | n => n, fun | 2 => 2 | 3 => 3 | 9 => 9 | 4 => 4 | 171 => 176 | 0 => 0 | 53 => 177 | 37 => 22 | 5 => 5 | 173 => 180 | 212 => 189 | 51 => 182 | 20 => 20 | 213 => 190 | 46 => 126 | 232 => 195 | 233 => 196 | n => n, fun | 17 => 2 | 18 => 4 | 19 => 5 | n => n⟩
theorem Tryz.laysM173 : Go.Proofs.LaysM.n173 Tryz.prog Tryz.laysM173_ren := {
 mixed := by kernel_rfl
 f129 := Tryz.func187.trans (congrArg some (by kernel_rfl))
 f173 := Tryz.func165.trans (congrArg some (by kernel_rfl))
 f246 := Tryz.func172.trans (congrArg some (by kernel_rfl))
 f283 := Tryz.func178.trans (congrArg some (by kernel_rfl))
 f284 := Tryz.func179.trans (congrArg some (by kernel_rfl))
 f285 := Tryz.func180.trans (congrArg some (by kernel_rfl))
 f286 := Tryz.func181.trans (congrArg some (by kernel_rfl))
 f317 := Tryz.func186.trans (congrArg some (by kernel_rfl))
 f318 := Tryz.func188.trans (congrArg some (by kernel_rfl))
 f319 := Tryz.func189.trans (congrArg some (by kernel_rfl))
 f320 := Tryz.func190.trans (congrArg some (by kernel_rfl))
 f337 := Tryz.func192.trans (congrArg some (by kernel_rfl))
 f338 := Tryz.func193.trans (congrArg some (by kernel_rfl))
 t0 := Tryz.underlying0
 a0 := Tryz.isAgg0
 z0 := Tryz.sizeOf0
 v0 := Tryz.zeroValue0
 t2 := Tryz.underlying2
 a2 := Tryz.isAgg2
 z2 := Tryz.sizeOf2
 v2 := Tryz.zeroValue2
 t3 := Tryz.underlying3
 a3 := Tryz.isAgg3
 z3 := Tryz.sizeOf3
 v3 := Tryz.zeroValue3
 t4 := Tryz.underlying4
 a4 := Tryz.isAgg4
 z4 := Tryz.sizeOf4
 v4 := Tryz.zeroValue4
 t5 := Tryz.underlying5
 a5 := Tryz.isAgg5
 z5 := Tryz.sizeOf5
 v5 := Tryz.zeroValue5
 t9 := Tryz.underlying9
 a9 := Tryz.isAgg9
 z9 := Tryz.sizeOf9
 v9 := Tryz.zeroValue9
 t20 := Tryz.underlying20
 a20 := Tryz.isAgg20
 z20 := Tryz.sizeOf20
 v20 := Tryz.zeroValue20
 t37 := Tryz.underlying22
 a37 := Tryz.isAgg22
 z37 := Tryz.sizeOf22
 v37 := Tryz.zeroValue22
 t46 := Tryz.underlying126
 a46 := Tryz.isAgg126
 z46 := Tryz.sizeOf126
 v46 := Tryz.zeroValue126
 t51 := Tryz.underlying182
 a51 := Tryz.isAgg182
 z51 := Tryz.sizeOf182
 v51 := Tryz.zeroValue182
 t53 := Tryz.underlying177
 a53 := Tryz.isAgg177
 z53 := Tryz.sizeOf177
 v53 := Tryz.zeroValue177
 t171 := Tryz.underlying176
 a171 := Tryz.isAgg176
 z171 := Tryz.sizeOf176
 v171 := Tryz.zeroValue176
 t173 := Tryz.underlying180
 a173 := Tryz.isAgg180
 z173 := Tryz.sizeOf180
 v173 := Tryz.zeroValue180
 t212 := Tryz.underlying189
 a212 := Tryz.isAgg189
 z212 := Tryz.sizeOf189
 v212 := Tryz.zeroValue189
 t213 := Tryz.underlying190
 a213 := Tryz.isAgg190
 z213 := Tryz.sizeOf190
 t232 := Tryz.underlying195
 a232 := Tryz.isAgg195
 z232 := Tryz.sizeOf195
 v232 := Tryz.zeroValue195
 t233 := Tryz.underlying196
 a233 := Tryz.isAgg196
 z233 := Tryz.sizeOf196
 v233 := Tryz.zeroValue196
 g17 := by kernel_rfl
 g18 := by kernel_rfl
 g19 := by kernel_rfl
 i0 := by kernel_rfl
 i2 := by kernel_rfl
 i3 := by kernel_rfl
 i4 := by kernel_rfl
 i5 := by kernel_rfl
 i9 := by kernel_rfl
 i20 := by kernel_rfl
 i37 := by kernel_rfl
 i46 := by kernel_rfl
 i51 := by kernel_rfl
 i53 := by kernel_rfl
 i171 := by kernel_rfl
 i173 := by kernel_rfl
 i212 := by kernel_rfl
 i232 := by kernel_rfl
 i233 := by kernel_rfl
 m17 := by kernel_rfl
 m18 := by kernel_rfl
 m19 := by kernel_rfl }
open Go.RowKit Go.Sort Go.Lib in
theorem Tryz.strconv_FormatInt_10 (n : Int) (h0 : -9223372036854775808 <= n) (h1 : n <= 9223372036854775807) (w : World) (htab : Lib.TabIs Tryz.prog w "internal/strconv.uint64pow10" .u64 Lib.pow10Tab) :
  Calls Tryz.prog 165 #[.int .i64 n, .int .i64 10] w fun e w' => e = .returned (.string ⟨(Lib.itoa n).toArray⟩) /\ ∃ k os, w' = grow (w.drewN k) os := Any.strconv_FormatInt_10 Tryz.laysM173 n h0 h1 w htab
def Tryz.lays105_ren : Go.Shelf.Ren := ⟨fun | 105 => 166 | 212 => 173 | 99 => 174 | 165 => 175 | 166 => 132 | 170 => 176 | 169 => 133 | 263 => 182 | 264 => 183 | 206 => 184 | 240 => 160 | 241 => 185 | 276 => 171 | 277 => 191 | n => n, fun | 9 => 9 | 3 => 3 | 4 => 4 | 20 => 20 | 0 => 0 | 46 => 126 | 109 => 172 | 5 => 5 | 72 => 143 | 76 => 146 | 51 => 182 | 146 => 183 | 53 => 177 | 148 => 185 | 70 => 141 | 37 => 22 | 75 => 145 | 127 => 160 | 164 => 170 | 80 => 89 | n => n, fun | n => n⟩
theorem Tryz.lays105 : Go.Proofs.Lays.n105 Tryz.prog Tryz.lays105_ren := {
 mixed := by kernel_rfl
 f99 := Tryz.func174.trans (congrArg some (by kernel_rfl))
 f105 := Tryz.func166.trans (congrArg some (by kernel_rfl))
 f165 := Tryz.func175.trans (congrArg some (by kernel_rfl))
 f166 := Tryz.func132.trans (congrArg some (by kernel_rfl))
 f169 := Tryz.func133.trans (congrArg some (by kernel_rfl))
 f170 := Tryz.func176.trans (congrArg some (by kernel_rfl))
 f206 := Tryz.func184.trans (congrArg some (by kernel_rfl))
 f212 := Tryz.func173.trans (congrArg some (by kernel_rfl))
 f240 := Tryz.func160.trans (congrArg some (by kernel_rfl))
 f241 := Tryz.func185.trans (congrArg some (by kernel_rfl))
 f263 := Tryz.func182.trans (congrArg some (by kernel_rfl))
 f264 := Tryz.func183.trans (congrArg some (by kernel_rfl))
 f276 := Tryz.func171.trans (congrArg some (by kernel_rfl))
 f277 := Tryz.func191.trans (congrArg some (by kernel_rfl))
 t0 := Tryz.underlying0
 a0 := Tryz.isAgg0
 z0 := Tryz.sizeOf0
 v0 := Tryz.zeroValue0
 t3 := Tryz.underlying3
 a3 := Tryz.isAgg3
 z3 := Tryz.sizeOf3
 v3 := Tryz.zeroValue3
 t4 := Tryz.underlying4
 a4 := Tryz.isAgg4
 z4 := Tryz.sizeOf4
 v4 := Tryz.zeroValue4
 t5 := Tryz.underlying5
 a5 := Tryz.isAgg5
 z5 := Tryz.sizeOf5
 v5 := Tryz.zeroValue5
 t9 := Tryz.underlying9
 a9 := Tryz.isAgg9
 z9 := Tryz.sizeOf9
 v9 := Tryz.zeroValue9
 t20 := Tryz.underlying20
 a20 := Tryz.isAgg20
 z20 := Tryz.sizeOf20
 v20 := Tryz.zeroValue20
 t37 := Tryz.underlying22
 a37 := Tryz.isAgg22
 z37 := Tryz.sizeOf22
 v37 := Tryz.zeroValue22
 t46 := Tryz.underlying126
 a46 := Tryz.isAgg126
 z46 := Tryz.sizeOf126
 v46 := Tryz.zeroValue126
 t51 := Tryz.underlying182
 a51 := Tryz.isAgg182
 z51 := Tryz.sizeOf182
 v51 := Tryz.zeroValue182
 t53 := Tryz.underlying177
 a53 := Tryz.isAgg177
 z53 := Tryz.sizeOf177
 v53 := Tryz.zeroValue177
 t70 := Tryz.underlying141
 a70 := Tryz.isAgg141
 z70 := Tryz.sizeOf141
 v70 := Tryz.zeroValue141
 t72 := Tryz.underlying143
 a72 := Tryz.isAgg143
 z72 := Tryz.sizeOf143
 v72 := Tryz.zeroValue143
 t75 := Tryz.underlying145
 a75 := Tryz.isAgg145
 z75 := Tryz.sizeOf145
 v75 := Tryz.zeroValue145
 t76 := Tryz.underlying146
 a76 := Tryz.isAgg146
 z76 := Tryz.sizeOf146
 v76 := Tryz.zeroValue146
 t109 := Tryz.underlying172
 a109 := Tryz.isAgg172
 z109 := Tryz.sizeOf172
 v109 := Tryz.zeroValue172
 t127 := Tryz.underlying160
 a127 := Tryz.isAgg160
 z127 := Tryz.sizeOf160
 v127 := Tryz.zeroValue160
 t146 := Tryz.underlying183
 a146 := Tryz.isAgg183
 z146 := Tryz.sizeOf183
 v146 := Tryz.zeroValue183
 t148 := Tryz.underlying185
 a148 := Tryz.isAgg185
 z148 := Tryz.sizeOf185
 v148 := Tryz.zeroValue185
 t164 := Tryz.underlying170
 a164 := Tryz.isAgg170
 z164 := Tryz.sizeOf170
 v164 := Tryz.zeroValue170 }
theorem Tryz.Builder_Extra_105 : Builder.Extra Tryz.prog Tryz.lays105_ren := {
 sizeBuilder := by kernel_rfl
 liesBuilder := by kernel_rfl
 t5 := Tryz.underlying5
 a5 := Tryz.isAgg5
 z5 := Tryz.sizeOf5
 v5 := Tryz.zeroValue5
 infoByte := by kernel_rfl
 cellsByte := by kernel_rfl
 sizeByte := by kernel_rfl
 neB5 := by decide }
open Go.RowKit Go.Lib in
theorem Tryz.strings_Repeat (s : ByteArray) (c : Nat) (w : World) (hc : c <= 9223372036854775807) (hlen : s.size * c <= 140737488355328) :
  Calls Tryz.prog 166 #[.string s, .int .i64 c] w fun e w' => e = .returned (.string ⟨(Lib.repeatL s.data.toList c).toArray⟩) /\ Below w.heap.size w w' := Any.strings_Repeat Tryz.lays105 Tryz.Builder_Extra_105 s c w hc hlen
end Go.Proofs

namespace Go.Proofs.YtlpbbkaelbafdaaGreatDoor
open Go.RowKit

def padL (n wd : Nat) : List UInt8 := List.replicate (wd - (Lib.decDigits n).length) 48 ++ Lib.decDigits n

theorem dec_small {n : Nat} (h : n < 10) : Lib.decDigits n = [dgt n] := Lib.decDigits_one h

theorem dec_big {n : Nat} (h : ¬ n < 10) : Lib.decDigits n = Lib.decDigits (n / 10) ++ [dgt (n % 10)] := by
 rw [Lib.decDigits, dif_neg h]
 rfl

theorem padL_two {n : Nat} (h : n < 100) : padL n 2 = two n := by
 unfold padL two
 by_cases h1 : n < 10
 ·rw [dec_small h1, show n / 10 = 0 by omega, show n % 10 = n by omega]
  rfl
 ·rw [dec_big h1, dec_small (by omega : n / 10 < 10)]
  rfl

theorem padL_four {k : Nat} (h : k < 100) : padL (2000 + k) 4 = [50, 48] ++ two k := by
 unfold padL two
 rw [dec_big (by omega), dec_big (by omega : ¬ (2000 + k) / 10 < 10), dec_big (by omega : ¬ (2000 + k) / 10 / 10 < 10), dec_small (by omega : (2000 + k) / 10 / 10 / 10 < 10)]
 rw [show (2000 + k) / 10 / 10 / 10 = 2 by omega, show (2000 + k) / 10 / 10 % 10 = 0 by omega, show (2000 + k) / 10 % 10 = k / 10 by omega, show (2000 + k) % 10 = k % 10 by omega]
 rfl

theorem dec_ne (n : Nat) : Lib.decDigits n ≠ [] := by
 intro h
 have := Lib.decDigits_length n
 rw [h] at this
 have := Lib.nDigits_pos n
 simp at *
 omega

theorem dec_le (n : Nat) (h : n < 9223372036854775808) : (Lib.decDigits n).length <= 19 := by
 rw [Lib.decDigits_length]
 have key : ∀ (k : Nat) (u : Nat), u < 10 ^ (k + 1) -> Lib.nDigits u <= k + 1 := by
  intro k
  induction k with
  | zero => intro u hu; rw [Lib.nDigits_small (by simpa using hu)]; exact Nat.le_refl _
  | succ k ih =>
   intro u hu
   by_cases h : u < 10
   ·rw [Lib.nDigits_small h]; omega
   ·rw [Lib.nDigits_big h]
    have := ih (u / 10) (by rw [Nat.pow_succ] at hu; omega)
    omega
 exact key 18 n (by omega)

def Writ (N n : Nat) (l : List UInt8) : Prop := (l = [] /\ n = N) \/ (l ≠ [] /\ (if n = 0 then [] else Lib.decDigits n) ++ l = Lib.decDigits N)

theorem Writ.step {N n : Nat} {l : List UInt8} (h : Writ N n l) (hgo : l = [] \/ n ≠ 0) : Writ N (n / 10) (dgt (n % 10) :: l) := by
 refine .inr ⟨by simp, ?_⟩
 have key : (if n / 10 = 0 then [] else Lib.decDigits (n / 10)) ++ dgt (n % 10) :: l = Lib.decDigits n ++ l := by
  by_cases h1 : n < 10
  ·rw [if_pos (by omega), dec_small h1, show n % 10 = n by omega]
   rfl
  ·rw [if_neg (by omega), dec_big h1]
   simp
 rw [key]
 rcases h with ⟨rfl, rfl⟩ | ⟨h1, h2⟩
 ·simp
 ·rcases hgo with h | h
  ·exact absurd h h1
  ·rw [if_neg h] at h2
   exact h2

theorem Writ.done {N : Nat} {l : List UInt8} (h : Writ N 0 l) (hl : l ≠ []) : l = Lib.decDigits N := by
 rcases h with ⟨h, _⟩ | ⟨_, h⟩
 ·exact absurd h hl
 ·simpa using h

theorem Writ.len {N n : Nat} {l : List UInt8} (h : Writ N n l) : l.length <= (Lib.decDigits N).length := by
 rcases h with ⟨rfl, _⟩ | ⟨_, h⟩
 ·simp
 ·rw [<- h]; simp

theorem t_conv1 (W : World) (b : UInt8) : (convert 22 9 (.slice (some ⟨W.heap.size, 0, none⟩) 1 1)).run Tryz.prog (W.alloc (.cells #[.int .u8 b.toNat] 5)) = .ok (.string ⟨#[b]⟩) (W.alloc (.cells #[.int .u8 b.toNat] 5)) := by
 have hown : (W.alloc (.cells #[.int .u8 b.toNat] 5)).ownsRow 0 5 1 (.slice (some ⟨W.heap.size, 0, none⟩) [b].length 1) [b].length (Lib.byteCells [b]) :=
  ⟨rfl, .inr ⟨W.heap.size, 1, #[.int .u8 b.toNat], rfl, Nat.zero_le _, heap_alloc_new W _, Nat.le_refl _, by decide, rfl, rfl⟩⟩
 exact run_str_own (P := Tryz.prog) (src := 22) (dst := 9) Tryz.underlying22 Tryz.underlying5 Tryz.underlying9 hown

theorem strEmpty (b : ByteArray) (h : b.data.toList = []) : b = ⟨#[]⟩ := by
 apply ByteArray.ext
 apply Array.toList_inj.1
 exact h

theorem u8_in (k : Nat) : IntKind.u8.wrap (48 + (k : Int) % 10) = ((48 + k % 10 : Nat) : Int) := by
 rw [IntWalk.u8_in _ (by omega)]
 omega

theorem str_ne (b : ByteArray) (h : ¬ b.data.toList = []) : (b.toList == []) = false /\ (b.toList == (ByteArray.mk #[]).toList) = false := by
 have e : b.toList = b.data.toList := ByteArray.toList_eq b
 have e2 : (ByteArray.mk #[]).toList = [] := ByteArray.toList_eq _
 rw [e2, e]
 have : (b.data.toList == []) = false := by
  rw [beq_eq_false_iff_ne]
  exact h
 exact ⟨this, this⟩

def measI (n s : Value) : Nat := 2 * (intOf n).toNat + match s with
 | .string b => if b.data.toList = [] then 1 else 0
 | _ => 0

theorem cons_str (D : UInt8) (b : ByteArray) : ((⟨#[D]⟩ : ByteArray) ++ b).data.toList = D :: b.data.toList := by
 simp [ByteArray.data_append]

theorem measI_lt (k : Nat) (D : UInt8) (b : ByteArray) (h : b.data.toList = [] \/ k ≠ 0) : measI (.int .i64 ((k : Int) / 10)) (.string (⟨#[D]⟩ ++ b)) < measI (.int .i64 k) (.string b) := by
 unfold measI
 simp only [intOf, cons_str]
 have e : ((k : Int) / 10).toNat = k / 10 := by omega
 rw [e]
 by_cases hb : b.data.toList = []
 ·simp [hb]; omega
 ·rcases h with h | h
  ·exact absurd h hb
  ·simp [hb]; omega

set_option maxHeartbeats 2000000 in
theorem cInt (N : Nat) (w : World) (hN : N < 9223372036854775808) :
  Calls Tryz.prog 147 #[.int .i64 N] w fun e w' => e = .returned (.string ⟨(Lib.decDigits N).toArray⟩) /\ Below w.heap.size w w' := by
 go_enter Tryz.func147, Tryz.ntmps147
 go_wp2
 go_loopw [0, 3] (fun n s wr => ∃ (k : Nat) (b : ByteArray), n = .int .i64 (k : Int) /\ k <= N /\ s = .string b /\ Writ N k b.data.toList /\ Below w.heap.size w wr) (fun n s _ => measI n s)
 case atStart => exact ⟨N, _, rfl, Nat.le_refl _, rfl, .inl ⟨rfl, rfl⟩, Below.refl _ _⟩
 case round =>
  obtain ⟨k, b, rfl, hk, rfl, hW, hB⟩ := hrel
  have HW : Hid (Writ N k b.data.toList) := hW
  clear hW
  have hsz := hB.size
  obtain ⟨D, hD⟩ : ∃ D : UInt8, dgt (k % 10) = D := ⟨_, rfl⟩
  have hcv := fun W => t_conv1 W D
  have hDn : D.toNat = 48 + k % 10 := by rw [<- hD]; exact dgt_toNat _ (by omega)
  have e1 : IntKind.u8.wrap (48 + (k : Int) % 10) = (D.toNat : Int) := by rw [hDn]; exact u8_in k
  have e2 : decide ((k : Int) % 10 < 0) = false := by simp; omega
  have HD : Hid (dgt (k % 10) = D) := hD
  clear hD hDn
  by_cases hb : b.data.toList = []
  ·obtain rfl := strEmpty b hb
   clear hb
   go_wp2
   go_roundw
   case rel => exact ⟨k / 10, _, by rfl, by omega, rfl, by rw [cons_str, <- HD.out]; exact HW.out.step (.inl rfl), hB.alloc hsz _⟩
   case measure => exact measI_lt _ _ _ (.inl rfl)
  ·obtain ⟨hbe, hbf⟩ := str_ne b hb
   have hbs : b.size <= 19 := by
    have h1 := HW.out.len
    have h2 := dec_le N hN
    have h3 : b.size = b.data.toList.length := by rw [Array.length_toList]; rfl
    omega
   have HB : Hid (¬ b.data.toList = []) := hb
   clear hb
   by_cases hk0 : k = 0
   ·subst hk0
    clear e1 e2 hcv HD
    go_wp2
    go_ret
    have := HW.out.done HB.out
    exact ⟨by rw [<- this]; rfl, hB⟩
   ·have hkn : ¬ (k : Int) = 0 := by omega
    have HK : Hid (¬ k = 0) := hk0
    clear hk0
    go_wp2
    go_roundw
    case rel => exact ⟨k / 10, _, by rfl, by omega, rfl, by rw [cons_str, <- HD.out]; exact HW.out.step (.inr HK.out), hB.alloc hsz _⟩
    case measure => exact measI_lt _ _ _ (.inr HK.out)

theorem nought_str (l : List UInt8) (j : Nat) : (⟨#[48]⟩ : ByteArray) ++ ⟨(List.replicate j 48 ++ l).toArray⟩ = ⟨(List.replicate (j + 1) 48 ++ l).toArray⟩ := by
 apply ByteArray.ext
 apply Array.toList_inj.1
 simp [ByteArray.data_append, List.replicate_succ]

def sizeV (s : Value) : Nat := match s with
 | .string b => b.size
 | _ => 0

theorem t_size_mk (l : List UInt8) : (⟨l.toArray⟩ : ByteArray).size = l.length := by
 show l.toArray.size = _
 simp

set_option maxHeartbeats 2000000 in
theorem cPadS (n wd : Nat) (w : World) (hn : n < 9223372036854775808) (hw : wd <= 100) :
  Calls Tryz.prog 118 #[.int .i64 n, .int .i64 wd] w fun e w' => e = .returned (.string ⟨(padL n wd).toArray⟩) /\ Below w.heap.size w w' := by
 have hl := dec_le n hn
 unfold padL
 obtain ⟨l, hle⟩ : ∃ l, Lib.decDigits n = l := ⟨_, rfl⟩
 have C := cInt n w hn
 rw [hle] at C hl ⊢
 clear hle hn
 go_enter Tryz.func118, Tryz.ntmps118
 go_wp2_with fail
 refine C.mono ?_
 rintro e w1 ⟨rfl, hb1⟩
 go_wp2_with fail
 go_loop [5] (fun s => ∃ j : Nat, j <= wd - l.length /\ s = .string ⟨(List.replicate j 48 ++ l).toArray⟩) (fun s => wd - sizeV s)
 case atStart => exact ⟨0, Nat.zero_le _, rfl⟩
 case round =>
  obtain ⟨j, hj, rfl⟩ := hrel
  obtain ⟨b, hbe⟩ : ∃ b : ByteArray, (⟨(List.replicate j 48 ++ l).toArray⟩ : ByteArray) = b := ⟨_, rfl⟩
  have hs : b.size = j + l.length := by rw [<- hbe, t_size_mk]; simp
  rw [hbe]
  by_cases hlt : j < wd - l.length
  ·have d1 : b.size < wd := by omega
   have hbs : b.size <= 119 := by omega
   have HE : Hid ((⟨(List.replicate j 48 ++ l).toArray⟩ : ByteArray) = b) := hbe
   have HS : Hid (b.size = j + l.length) := hs
   clear hbe hs
   go_wp2
   go_round
   case rel => exact ⟨j + 1, by omega, by rw [<- HE.out, nought_str]⟩
   case measure =>
    have e : ((⟨#[48]⟩ : ByteArray) ++ b).size = b.size + 1 := by rw [ByteArray.size_append]; exact Nat.add_comm _ _
    have := HS.out
    simp only [sizeV, e]
    omega
  ·have d1 : ¬ b.size < wd := by omega
   have ej : j = wd - l.length := by omega
   subst ej
   clear hs
   go_wp2
   go_ret
   exact ⟨rfl, hb1⟩

end Go.Proofs.YtlpbbkaelbafdaaGreatDoor

namespace Go.Proofs.YtlpbbkaelbafdaaGreatDoor
open Go.RowKit

def powName : String := "internal/strconv.uint64pow10"

def Laid (w : World) : Prop := Mon w /\ Lib.TabIs Tryz.prog w powName .u64 Lib.pow10Tab

theorem powGlobal : ∃ g, Tryz.prog.globalNamed powName = some g := ⟨2, by kernel_rfl⟩

theorem Laid.below {w w' : World} (h : Laid w) (hb : Below w.heap.size w w') : Laid w' := by
 refine ⟨h.1.below hb, ?_⟩
 obtain ⟨g, hg⟩ := powGlobal
 have h2 := h.2
 unfold Lib.TabIs World.var? at h2 ⊢
 rw [hg] at h2 ⊢
 simp only [Option.bind_some] at h2 ⊢
 have hlt : g < w.heap.size := by
  rcases Nat.lt_or_ge g w.heap.size with h' | h'
  ·exact h'
  ·rw [Array.getElem?_eq_none h'] at h2
   cases h2
 rw [hb.block g hlt]
 exact h2

theorem pad_str (l : List UInt8) (c : Nat) : (⟨(Lib.repeatL [48] c).toArray⟩ : ByteArray) ++ ⟨l.toArray⟩ = ⟨(List.replicate c 48 ++ l).toArray⟩ := by
 have e : Lib.repeatL [48] c = List.replicate c 48 := by
  induction c with
  | zero => rfl
  | succ c ih => rw [Lib.repeatL, ih, List.replicate_succ]; rfl
 rw [e]
 apply ByteArray.ext
 apply Array.toList_inj.1
 simp [ByteArray.data_append]

set_option maxHeartbeats 2000000 in
theorem cPadI (n wd : Nat) (w : World) (hn : n < 9223372036854775808) (hw : wd <= 100) (hL : Laid w) :
  Calls Tryz.prog 144 #[.int .i64 n, .int .i64 wd] w fun e w' => e = .returned (.string ⟨(padL n wd).toArray⟩) /\ Below w.heap.size w w' := by
 have hl := dec_le n hn
 have C := Tryz.strconv_FormatInt_10 n (by omega) (by omega) w hL.2
 rw [show Lib.itoa (n : Int) = Lib.decDigits n by unfold Lib.itoa; rw [if_neg (by omega)]; simp] at C
 unfold padL
 obtain ⟨l, hle⟩ : ∃ l, Lib.decDigits n = l := ⟨_, rfl⟩
 rw [hle] at C hl ⊢
 clear hle hn
 obtain ⟨b, hbe⟩ : ∃ b : ByteArray, (⟨l.toArray⟩ : ByteArray) = b := ⟨_, rfl⟩
 have hs : b.size = l.length := by rw [<- hbe, t_size_mk]
 have hcat := pad_str l (wd - l.length)
 obtain ⟨r, hr⟩ : ∃ r : ByteArray, (⟨(Lib.repeatL [48] (wd - l.length)).toArray⟩ : ByteArray) = r := ⟨_, rfl⟩
 obtain ⟨o, ho⟩ : ∃ o : ByteArray, (⟨(List.replicate (wd - l.length) 48 ++ l).toArray⟩ : ByteArray) = o := ⟨_, rfl⟩
 have hrs : r.size = wd - l.length := by rw [<- hr, t_size_mk, Lib.repeatL_length]; simp
 have D := fun w => Tryz.strings_Repeat ⟨#[48]⟩ (wd - l.length) w (by omega) (by show 1 * _ <= _; omega)
 rw [show (⟨#[48]⟩ : ByteArray).data.toList = [48] from rfl, hr] at D
 rw [hbe, hr, ho] at hcat
 rw [hbe] at C
 rw [ho]
 obtain ⟨c, hc⟩ : ∃ c, wd - l.length = c := ⟨_, rfl⟩
 rw [hc] at D hrs
 have hbs : b.size <= 19 := by omega
 have hm : max 0 ((wd : Int) - (b.size : Int)) = (c : Int) := by omega
 have HS : Hid (b.size = l.length) := hs
 have HC : Hid (wd - l.length = c) := hc
 have hcs : c <= 100 := by omega
 have hwr : IntKind.i64.wrap ((wd : Int) - (b.size : Int)) = (wd : Int) - (b.size : Int) := IntWalk.i64_in _ (by omega)
 clear hbe hr ho hs hc hL
 go_enter Tryz.func144, Tryz.ntmps144
 go_wp2_with fail
 refine C.mono ?_
 rintro e w1 ⟨rfl, k, os, hw1⟩
 have hb1 : Below w.heap.size w w1 := by rw [hw1]; exact Lib.below_grow _ _ (Nat.le_refl _) _ _
 clear hw1
 go_wp2_with fail
 refine (D _).mono ?_
 rintro e w2 ⟨rfl, hb2⟩
 go_wp2_with fail
 go_ret
 exact ⟨rfl, hb1.trans (hb2.mono hb1.size)⟩

end Go.Proofs.YtlpbbkaelbafdaaGreatDoor
