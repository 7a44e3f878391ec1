/- From a row's listed variables to what the walks ask: the two arrays of months, and the library's table of tens. The library contracts that the proofs lean on, laid at this program: a field a fact of the program, each contract one application. Contracts of the numbers that a text is written with: the specification's numeral, with noughts ahead; the program's. -/
import Derived.Test.YtcjeodgfpnecgaaGreatDoorRows
import Derived.Test.YtcjeodgfpnecgaaGreatDoorM18
import Derived.Test.YtcjeodgfpnecgaaGreatDoorProg
import Derived.Test.YtcjeodgfpnecgaaGreatDoorM1
import Derived.Test.YtcjeodgfpnecgaaGreatDoorM17
import Derived.Lib.LaidTab
import Derived.Lib.ItoaNum
import Derived.MakeChecks
import Derived.Shelf.Strings.Repeat
import Derived.Shelf.Strconv.Itoa4
import Derived.Shelf.LaysM
import Derived.Shelf.Strings.Builder1
import Derived.Shelf.Strings.BuilderK
import Derived.Shelf.Strings.Prefix
import Derived.Lib.Repeat
import Derived.WalkKit
namespace Go.Proofs.YtcjeodgfpnecgaaGreatDoor
open Go.RowKit
set_option linter.unusedVariables false

theorem laid_mem {P : Program} {w : World} {name : String} {d : DataW Unit} : ∀ {l : List (String × DataW Unit)} {ps : List MemPlace}, DataW.LaidVars P w l ps → (name, d) ∈ l →
    ∃ g t cs fuel p, P.globalNamed name = some g ∧ (P.globals[g]?).map (·.type) = some t ∧ w.var? P name = some cs ∧ DataW.trod (fun _ => ()) P w 0 (fun _ => true) false fuel t cs.toList = some (d, p)
  | [], _, _, hm => by cases hm
  | (n, x) :: l, _, h, hm => by
    obtain ⟨g, t, cs, fuel, p, q, h1, h2, h3, h4, hs, _⟩ := h
    rcases List.mem_cons.1 hm with e | hm
    · cases e
      exact ⟨g, t, cs, fuel, p, h1, h2, h3, h4⟩
    · exact laid_mem hs hm

theorem heap_of_var {P : Program} {w : World} {name : String} {g : Nat} {cs : Array Value} (hg : P.globalNamed name = some g) (h : w.var? P name = some cs) : ∃ t fr, w.heap[g]? = some (.cells cs t fr) := by
  unfold World.var? at h
  rw [hg] at h
  simp only [Option.bind_some] at h
  split at h
  · rename_i c t fr hh
    cases h
    exact ⟨t, fr, hh⟩
  · cases h

/-- A listed table, by its name's number. -/
theorem tab_of {P : Program} {w : World} {l : List (String × DataW Unit)} {name : String} {k : IntKind} {zs : List Int} {g : Nat} {t e : TypeId} {n : Nat} (h : laidMet P l w) (hm : (name, Lib.tabData k zs) ∈ l)
    (hg : P.globalNamed name = some g) (hty : (P.globals[g]?).map (·.type) = some t) (ht : P.underlying t = some (.array n e)) (he : P.underlying e = some (.int k)) (hce : P.cellsOf e = 1) (hct : P.cellsOf t = n) : Lib.TabIs P w name k zs := by
  obtain ⟨ps, hv, _⟩ := h
  obtain ⟨g', t', cs, fuel, p, h1, h2, h3, h4⟩ := laid_mem hv hm
  obtain rfl := Option.some.inj (hg.symm.trans h1)
  obtain rfl := Option.some.inj (hty.symm.trans h2)
  unfold Lib.TabIs
  rw [h3, ← Lib.cells_of_tab ht he hce hct h4]

def longZ : List Int := [31, 29, 31, 30, 31, 30, 31, 31, 30, 31, 30, 31]
def shortZ : List Int := [31, 28, 31, 30, 31, 30, 31, 31, 30, 31, 30, 31]

def longName : String := "loop.example/g00379/impl.longYear"
def shortName : String := "loop.example/g00379/impl.shortYear"

theorem mon_of {l : List (String × DataW Unit)} {w : World} (h : laidMet Tryz.prog l w) (h0 : (longName, Lib.tabData .i64 longZ) ∈ l) (h1 : (shortName, Lib.tabData .i64 shortZ) ∈ l) : Mon w := by
  have a := tab_of h h0 (g := 0) (t := 136) (by kernel_rfl) (by kernel_rfl) Tryz.underlying136 Tryz.underlying2 (by kernel_rfl) (by kernel_rfl)
  have b := tab_of h h1 (g := 1) (t := 136) (by kernel_rfl) (by kernel_rfl) Tryz.underlying136 Tryz.underlying2 (by kernel_rfl) (by kernel_rfl)
  exact ⟨heap_of_var (by kernel_rfl) a, heap_of_var (by kernel_rfl) b⟩

end Go.Proofs.YtcjeodgfpnecgaaGreatDoor

namespace Go.Proofs
open Go.Shelf
def Tryz.lays169_ren : Go.Shelf.Ren := ⟨fun | 169 => 133 | n => n, fun | 70 => 147 | 9 => 9 | 0 => 0 | 72 => 149 | 37 => 89 | 127 => 128 | 3 => 3 | 5 => 5 | n => n, fun | n => n⟩
theorem Tryz.lays169 : Go.Proofs.Lays.n169 Tryz.prog Tryz.lays169_ren := {
  mixed := by kernel_rfl
  f169 := Tryz.func133.trans (congrArg some (by kernel_rfl))
  t0 := Tryz.underlying0
  a0 := Tryz.isAgg0
  z0 := Tryz.sizeOf0
  v0 := Tryz.zeroValue0
  t3 := Tryz.underlying3
  a3 := Tryz.isAgg3
  z3 := Tryz.sizeOf3
  v3 := Tryz.zeroValue3
  t9 := Tryz.underlying9
  a9 := Tryz.isAgg9
  z9 := Tryz.sizeOf9
  v9 := Tryz.zeroValue9
  t37 := Tryz.underlying89
  a37 := Tryz.isAgg89
  z37 := Tryz.sizeOf89
  v37 := Tryz.zeroValue89
  t70 := Tryz.underlying147
  a70 := Tryz.isAgg147
  z70 := Tryz.sizeOf147
  v70 := Tryz.zeroValue147
  t72 := Tryz.underlying149
  a72 := Tryz.isAgg149
  z72 := Tryz.sizeOf149
  v72 := Tryz.zeroValue149
  t127 := Tryz.underlying128
  a127 := Tryz.isAgg128
  z127 := Tryz.sizeOf128
  v127 := Tryz.zeroValue128 }
theorem Tryz.Builder_Extra_169 : Builder.Extra Tryz.prog Tryz.lays169_ren := {
  sizeBuilder := by kernel_rfl
  liesBuilder := by kernel_rfl
  t5 := Tryz.underlying5
  a5 := Tryz.isAgg5
  z5 := Tryz.sizeOf5
  v5 := Tryz.zeroValue5
  infoByte := by kernel_rfl
  cellsByte := by kernel_rfl
  sizeByte := by kernel_rfl
  neB5 := by decide }
open Go.RowKit in
theorem Tryz.Builder_String_any (B b : Nat) (l : List UInt8) (w : World) (h : Lib.IsBuilder 149 5 B b (Lib.byteCells l) w) (hBw : B ≤ w.heap.size) :
    Calls Tryz.prog 133 #[.pointer (some ⟨b, 0, none⟩)] w fun e w' => e = .returned (.string ⟨l.toArray⟩) ∧ Below B w w' := Any.Builder_String_any Tryz.lays169 Tryz.Builder_Extra_169 B b l w h hBw
def Tryz.laysM173_ren : Go.Shelf.Ren := ⟨fun | 173 => 123 | 246 => 127 | 283 => 135 | 284 => 136 | 285 => 137 | 286 => 138 | 129 => 145 | 317 => 144 | 318 => 146 | 319 => 147 | 320 => 148 | 337 => 151 | 338 => 152 | n => n, fun | 2 => 2 | 3 => 3 | 9 => 9 | 4 => 4 | 171 => 155 | 0 => 0 | 53 => 156 | 37 => 89 | 5 => 5 | 173 => 159 | 212 => 168 | 51 => 161 | 20 => 20 | 213 => 169 | 46 => 143 | 232 => 176 | 233 => 177 | n => n, fun | 17 => 2 | 18 => 4 | 19 => 5 | n => n⟩
theorem Tryz.laysM173 : Go.Proofs.LaysM.n173 Tryz.prog Tryz.laysM173_ren := {
  mixed := by kernel_rfl
  f129 := Tryz.func145.trans (congrArg some (by kernel_rfl))
  f173 := Tryz.func123.trans (congrArg some (by kernel_rfl))
  f246 := Tryz.func127.trans (congrArg some (by kernel_rfl))
  f283 := Tryz.func135.trans (congrArg some (by kernel_rfl))
  f284 := Tryz.func136.trans (congrArg some (by kernel_rfl))
  f285 := Tryz.func137.trans (congrArg some (by kernel_rfl))
  f286 := Tryz.func138.trans (congrArg some (by kernel_rfl))
  f317 := Tryz.func144.trans (congrArg some (by kernel_rfl))
  f318 := Tryz.func146.trans (congrArg some (by kernel_rfl))
  f319 := Tryz.func147.trans (congrArg some (by kernel_rfl))
  f320 := Tryz.func148.trans (congrArg some (by kernel_rfl))
  f337 := Tryz.func151.trans (congrArg some (by kernel_rfl))
  f338 := Tryz.func152.trans (congrArg some (by kernel_rfl))
  t0 := Tryz.underlying0
  a0 := Tryz.isAgg0
  z0 := Tryz.sizeOf0
  v0 := Tryz.zeroValue0
  t2 := Tryz.underlying2
  a2 := Tryz.isAgg2
  z2 := Tryz.sizeOf2
  v2 := Tryz.zeroValue2
  t3 := Tryz.underlying3
  a3 := Tryz.isAgg3
  z3 := Tryz.sizeOf3
  v3 := Tryz.zeroValue3
  t4 := Tryz.underlying4
  a4 := Tryz.isAgg4
  z4 := Tryz.sizeOf4
  v4 := Tryz.zeroValue4
  t5 := Tryz.underlying5
  a5 := Tryz.isAgg5
  z5 := Tryz.sizeOf5
  v5 := Tryz.zeroValue5
  t9 := Tryz.underlying9
  a9 := Tryz.isAgg9
  z9 := Tryz.sizeOf9
  v9 := Tryz.zeroValue9
  t20 := Tryz.underlying20
  a20 := Tryz.isAgg20
  z20 := Tryz.sizeOf20
  v20 := Tryz.zeroValue20
  t37 := Tryz.underlying89
  a37 := Tryz.isAgg89
  z37 := Tryz.sizeOf89
  v37 := Tryz.zeroValue89
  t46 := Tryz.underlying143
  a46 := Tryz.isAgg143
  z46 := Tryz.sizeOf143
  v46 := Tryz.zeroValue143
  t51 := Tryz.underlying161
  a51 := Tryz.isAgg161
  z51 := Tryz.sizeOf161
  v51 := Tryz.zeroValue161
  t53 := Tryz.underlying156
  a53 := Tryz.isAgg156
  z53 := Tryz.sizeOf156
  v53 := Tryz.zeroValue156
  t171 := Tryz.underlying155
  a171 := Tryz.isAgg155
  z171 := Tryz.sizeOf155
  v171 := Tryz.zeroValue155
  t173 := Tryz.underlying159
  a173 := Tryz.isAgg159
  z173 := Tryz.sizeOf159
  v173 := Tryz.zeroValue159
  t212 := Tryz.underlying168
  a212 := Tryz.isAgg168
  z212 := Tryz.sizeOf168
  v212 := Tryz.zeroValue168
  t213 := Tryz.underlying169
  a213 := Tryz.isAgg169
  z213 := Tryz.sizeOf169
  t232 := Tryz.underlying176
  a232 := Tryz.isAgg176
  z232 := Tryz.sizeOf176
  v232 := Tryz.zeroValue176
  t233 := Tryz.underlying177
  a233 := Tryz.isAgg177
  z233 := Tryz.sizeOf177
  v233 := Tryz.zeroValue177
  g17 := by kernel_rfl
  g18 := by kernel_rfl
  g19 := by kernel_rfl
  i0 := by kernel_rfl
  i2 := by kernel_rfl
  i3 := by kernel_rfl
  i4 := by kernel_rfl
  i5 := by kernel_rfl
  i9 := by kernel_rfl
  i20 := by kernel_rfl
  i37 := by kernel_rfl
  i46 := by kernel_rfl
  i51 := by kernel_rfl
  i53 := by kernel_rfl
  i171 := by kernel_rfl
  i173 := by kernel_rfl
  i212 := by kernel_rfl
  i232 := by kernel_rfl
  i233 := by kernel_rfl
  m17 := by kernel_rfl
  m18 := by kernel_rfl
  m19 := by kernel_rfl }
open Go.RowKit Go.Sort Go.Lib in
theorem Tryz.strconv_FormatInt_10 (n : Int) (h0 : -9223372036854775808 ≤ n) (h1 : n ≤ 9223372036854775807) (w : World) (htab : Lib.TabIs Tryz.prog w "internal/strconv.uint64pow10" .u64 Lib.pow10Tab) :
    Calls Tryz.prog 123 #[.int .i64 n, .int .i64 10] w fun e w' => e = .returned (.string ⟨(Lib.itoa n).toArray⟩) ∧ ∃ k os, w' = grow (w.drewN k) os := Any.strconv_FormatInt_10 Tryz.laysM173 n h0 h1 w htab
def Tryz.lays105_ren : Go.Shelf.Ren := ⟨fun | 105 => 124 | 212 => 128 | 99 => 129 | 165 => 130 | 166 => 131 | 170 => 132 | 169 => 133 | 263 => 139 | 264 => 140 | 206 => 141 | 240 => 142 | 241 => 143 | 276 => 149 | 277 => 150 | n => n, fun | 9 => 9 | 3 => 3 | 4 => 4 | 20 => 20 | 0 => 0 | 46 => 143 | 109 => 144 | 5 => 5 | 72 => 149 | 76 => 153 | 51 => 161 | 146 => 162 | 53 => 156 | 148 => 164 | 70 => 147 | 37 => 89 | 75 => 152 | 127 => 128 | 164 => 172 | 80 => 65 | n => n, fun | n => n⟩
theorem Tryz.lays105 : Go.Proofs.Lays.n105 Tryz.prog Tryz.lays105_ren := {
  mixed := by kernel_rfl
  f99 := Tryz.func129.trans (congrArg some (by kernel_rfl))
  f105 := Tryz.func124.trans (congrArg some (by kernel_rfl))
  f165 := Tryz.func130.trans (congrArg some (by kernel_rfl))
  f166 := Tryz.func131.trans (congrArg some (by kernel_rfl))
  f169 := Tryz.func133.trans (congrArg some (by kernel_rfl))
  f170 := Tryz.func132.trans (congrArg some (by kernel_rfl))
  f206 := Tryz.func141.trans (congrArg some (by kernel_rfl))
  f212 := Tryz.func128.trans (congrArg some (by kernel_rfl))
  f240 := Tryz.func142.trans (congrArg some (by kernel_rfl))
  f241 := Tryz.func143.trans (congrArg some (by kernel_rfl))
  f263 := Tryz.func139.trans (congrArg some (by kernel_rfl))
  f264 := Tryz.func140.trans (congrArg some (by kernel_rfl))
  f276 := Tryz.func149.trans (congrArg some (by kernel_rfl))
  f277 := Tryz.func150.trans (congrArg some (by kernel_rfl))
  t0 := Tryz.underlying0
  a0 := Tryz.isAgg0
  z0 := Tryz.sizeOf0
  v0 := Tryz.zeroValue0
  t3 := Tryz.underlying3
  a3 := Tryz.isAgg3
  z3 := Tryz.sizeOf3
  v3 := Tryz.zeroValue3
  t4 := Tryz.underlying4
  a4 := Tryz.isAgg4
  z4 := Tryz.sizeOf4
  v4 := Tryz.zeroValue4
  t5 := Tryz.underlying5
  a5 := Tryz.isAgg5
  z5 := Tryz.sizeOf5
  v5 := Tryz.zeroValue5
  t9 := Tryz.underlying9
  a9 := Tryz.isAgg9
  z9 := Tryz.sizeOf9
  v9 := Tryz.zeroValue9
  t20 := Tryz.underlying20
  a20 := Tryz.isAgg20
  z20 := Tryz.sizeOf20
  v20 := Tryz.zeroValue20
  t37 := Tryz.underlying89
  a37 := Tryz.isAgg89
  z37 := Tryz.sizeOf89
  v37 := Tryz.zeroValue89
  t46 := Tryz.underlying143
  a46 := Tryz.isAgg143
  z46 := Tryz.sizeOf143
  v46 := Tryz.zeroValue143
  t51 := Tryz.underlying161
  a51 := Tryz.isAgg161
  z51 := Tryz.sizeOf161
  v51 := Tryz.zeroValue161
  t53 := Tryz.underlying156
  a53 := Tryz.isAgg156
  z53 := Tryz.sizeOf156
  v53 := Tryz.zeroValue156
  t70 := Tryz.underlying147
  a70 := Tryz.isAgg147
  z70 := Tryz.sizeOf147
  v70 := Tryz.zeroValue147
  t72 := Tryz.underlying149
  a72 := Tryz.isAgg149
  z72 := Tryz.sizeOf149
  v72 := Tryz.zeroValue149
  t75 := Tryz.underlying152
  a75 := Tryz.isAgg152
  z75 := Tryz.sizeOf152
  v75 := Tryz.zeroValue152
  t76 := Tryz.underlying153
  a76 := Tryz.isAgg153
  z76 := Tryz.sizeOf153
  v76 := Tryz.zeroValue153
  t109 := Tryz.underlying144
  a109 := Tryz.isAgg144
  z109 := Tryz.sizeOf144
  v109 := Tryz.zeroValue144
  t127 := Tryz.underlying128
  a127 := Tryz.isAgg128
  z127 := Tryz.sizeOf128
  v127 := Tryz.zeroValue128
  t146 := Tryz.underlying162
  a146 := Tryz.isAgg162
  z146 := Tryz.sizeOf162
  v146 := Tryz.zeroValue162
  t148 := Tryz.underlying164
  a148 := Tryz.isAgg164
  z148 := Tryz.sizeOf164
  v148 := Tryz.zeroValue164
  t164 := Tryz.underlying172
  a164 := Tryz.isAgg172
  z164 := Tryz.sizeOf172
  v164 := Tryz.zeroValue172 }
theorem Tryz.Builder_Extra_105 : Builder.Extra Tryz.prog Tryz.lays105_ren := {
  sizeBuilder := by kernel_rfl
  liesBuilder := by kernel_rfl
  t5 := Tryz.underlying5
  a5 := Tryz.isAgg5
  z5 := Tryz.sizeOf5
  v5 := Tryz.zeroValue5
  infoByte := by kernel_rfl
  cellsByte := by kernel_rfl
  sizeByte := by kernel_rfl
  neB5 := by decide }
open Go.RowKit Go.Lib in
theorem Tryz.strings_Repeat (s : ByteArray) (c : Nat) (w : World) (hc : c ≤ 9223372036854775807) (hlen : s.size * c ≤ 140737488355328) :
    Calls Tryz.prog 124 #[.string s, .int .i64 c] w fun e w' => e = .returned (.string ⟨(Lib.repeatL s.data.toList c).toArray⟩) ∧ Below w.heap.size w w' := Any.strings_Repeat Tryz.lays105 Tryz.Builder_Extra_105 s c w hc hlen
end Go.Proofs

namespace Go.Proofs.YtcjeodgfpnecgaaGreatDoor
open Go.RowKit
set_option linter.unusedVariables false
set_option linter.unusedSimpArgs false

/-- The numeral of n with noughts ahead up to the width. -/
def padL (n wd : Nat) : List UInt8 := List.replicate (wd - (Lib.decDigits n).length) 48 ++ Lib.decDigits n

theorem dec_small {n : Nat} (h : n < 10) : Lib.decDigits n = [dgt n] := Lib.decDigits_one h

theorem dec_big {n : Nat} (h : ¬ n < 10) : Lib.decDigits n = Lib.decDigits (n / 10) ++ [dgt (n % 10)] := by
  rw [Lib.decDigits, dif_neg h]
  rfl

theorem padL_two {n : Nat} (h : n < 100) : padL n 2 = two n := by
  unfold padL two
  by_cases h1 : n < 10
  · rw [dec_small h1, show n / 10 = 0 by omega, show n % 10 = n by omega]
    rfl
  · rw [dec_big h1, dec_small (by omega : n / 10 < 10)]
    rfl

theorem padL_four {k : Nat} (h : k < 100) : padL (2000 + k) 4 = [50, 48] ++ two k := by
  unfold padL two
  rw [dec_big (by omega), dec_big (by omega : ¬ (2000 + k) / 10 < 10), dec_big (by omega : ¬ (2000 + k) / 10 / 10 < 10), dec_small (by omega : (2000 + k) / 10 / 10 / 10 < 10)]
  rw [show (2000 + k) / 10 / 10 / 10 = 2 by omega, show (2000 + k) / 10 / 10 % 10 = 0 by omega, show (2000 + k) / 10 % 10 = k / 10 by omega, show (2000 + k) % 10 = k % 10 by omega]
  rfl

theorem dec_ne (n : Nat) : Lib.decDigits n ≠ [] := by
  intro h
  have := Lib.decDigits_length n
  rw [h] at this
  have := Lib.nDigits_pos n
  simp at *
  omega

theorem dec_le (n : Nat) (h : n < 9223372036854775808) : (Lib.decDigits n).length ≤ 19 := by
  rw [Lib.decDigits_length]
  have key : ∀ (k : Nat) (u : Nat), u < 10 ^ (k + 1) → Lib.nDigits u ≤ k + 1 := by
    intro k
    induction k with
    | zero => intro u hu; rw [Lib.nDigits_small (by simpa using hu)]; exact Nat.le_refl _
    | succ k ih =>
      intro u hu
      by_cases h : u < 10
      · rw [Lib.nDigits_small h]; omega
      · rw [Lib.nDigits_big h]
        have := ih (u / 10) (by rw [Nat.pow_succ] at hu; omega)
        omega
  exact key 18 n (by omega)

/-- What is left to write of N, when l has been written and n is left. -/
def Writ (N n : Nat) (l : List UInt8) : Prop := (l = [] ∧ n = N) ∨ (l ≠ [] ∧ (if n = 0 then [] else Lib.decDigits n) ++ l = Lib.decDigits N)

theorem Writ.step {N n : Nat} {l : List UInt8} (h : Writ N n l) (hgo : l = [] ∨ n ≠ 0) : Writ N (n / 10) (dgt (n % 10) :: l) := by
  refine .inr ⟨by simp, ?_⟩
  have key : (if n / 10 = 0 then [] else Lib.decDigits (n / 10)) ++ dgt (n % 10) :: l = Lib.decDigits n ++ l := by
    by_cases h1 : n < 10
    · rw [if_pos (by omega), dec_small h1, show n % 10 = n by omega]
      rfl
    · rw [if_neg (by omega), dec_big h1]
      simp
  rw [key]
  rcases h with ⟨rfl, rfl⟩ | ⟨h1, h2⟩
  · simp
  · rcases hgo with h | h
    · exact absurd h h1
    · rw [if_neg h] at h2
      exact h2

theorem Writ.done {N : Nat} {l : List UInt8} (h : Writ N 0 l) (hl : l ≠ []) : l = Lib.decDigits N := by
  rcases h with ⟨h, _⟩ | ⟨_, h⟩
  · exact absurd h hl
  · simpa using h

theorem Writ.len {N n : Nat} {l : List UInt8} (h : Writ N n l) : l.length ≤ (Lib.decDigits N).length := by
  rcases h with ⟨rfl, _⟩ | ⟨_, h⟩
  · simp
  · rw [← h]; simp

theorem t_conv1 (W : World) (b : UInt8) : (convert 89 9 (.slice (some ⟨W.heap.size, 0, none⟩) 1 1)).run Tryz.prog (W.alloc (.cells #[.int .u8 b.toNat] 5)) = .ok (.string ⟨#[b]⟩) (W.alloc (.cells #[.int .u8 b.toNat] 5)) := by
  have hown : (W.alloc (.cells #[.int .u8 b.toNat] 5)).ownsRow 0 5 1 (.slice (some ⟨W.heap.size, 0, none⟩) [b].length 1) [b].length (Lib.byteCells [b]) :=
    ⟨rfl, .inr ⟨W.heap.size, 1, #[.int .u8 b.toNat], rfl, Nat.zero_le _, heap_alloc_new W _, Nat.le_refl _, by decide, rfl, rfl⟩⟩
  exact run_str_own (P := Tryz.prog) (src := 89) (dst := 9) Tryz.underlying89 Tryz.underlying5 Tryz.underlying9 hown

theorem strEmpty (b : ByteArray) (h : b.data.toList = []) : b = ⟨#[]⟩ := by
  apply ByteArray.ext
  apply Array.toList_inj.1
  exact h

theorem u8_in (k : Nat) : IntKind.u8.wrap (48 + (k : Int) % 10) = ((48 + k % 10 : Nat) : Int) := by
  rw [IntWalk.u8_in _ (by omega)]
  omega

theorem str_ne (b : ByteArray) (h : ¬ b.data.toList = []) : (b.toList == []) = false ∧ (b.toList == (ByteArray.mk #[]).toList) = false := by
  have e : b.toList = b.data.toList := ByteArray.toList_eq b
  have e2 : (ByteArray.mk #[]).toList = [] := ByteArray.toList_eq _
  rw [e2, e]
  have : (b.data.toList == []) = false := by
    rw [beq_eq_false_iff_ne]
    exact h
  exact ⟨this, this⟩

def measI (n s : Value) : Nat := 2 * (intOf n).toNat + match s with
  | .string b => if b.data.toList = [] then 1 else 0
  | _ => 0

theorem cons_str (D : UInt8) (b : ByteArray) : ((⟨#[D]⟩ : ByteArray) ++ b).data.toList = D :: b.data.toList := by
  simp [ByteArray.data_append]

theorem measI_lt (k : Nat) (D : UInt8) (b : ByteArray) (h : b.data.toList = [] ∨ k ≠ 0) : measI (.int .i64 ((k : Int) / 10)) (.string (⟨#[D]⟩ ++ b)) < measI (.int .i64 k) (.string b) := by
  unfold measI
  simp only [intOf, cons_str]
  have e : ((k : Int) / 10).toNat = k / 10 := by omega
  rw [e]
  by_cases hb : b.data.toList = []
  · simp [hb]; omega
  · rcases h with h | h
    · exact absurd h hb
    · simp [hb]; omega

set_option maxHeartbeats 2000000 in
theorem cInt (N : Nat) (w : World) (hN : N < 9223372036854775808) :
    Calls Tryz.prog 104 #[.int .i64 N] w fun e w' => e = .returned (.string ⟨(Lib.decDigits N).toArray⟩) ∧ Below w.heap.size w w' := by
  go_enter Tryz.func104, Tryz.ntmps104
  go_wp2
  go_loopw [0, 3] (fun n s wr => ∃ (k : Nat) (b : ByteArray), n = .int .i64 (k : Int) ∧ k ≤ N ∧ s = .string b ∧ Writ N k b.data.toList ∧ Below w.heap.size w wr) (fun n s _ => measI n s)
  case atStart => exact ⟨N, _, rfl, Nat.le_refl _, rfl, .inl ⟨rfl, rfl⟩, Below.refl _ _⟩
  case round =>
    obtain ⟨k, b, rfl, hk, rfl, hW, hB⟩ := hrel
    have HW : Hid (Writ N k b.data.toList) := hW
    clear hW
    have hsz := hB.size
    obtain ⟨D, hD⟩ : ∃ D : UInt8, dgt (k % 10) = D := ⟨_, rfl⟩
    have hcv := fun W => t_conv1 W D
    have hDn : D.toNat = 48 + k % 10 := by rw [← hD]; exact dgt_toNat _ (by omega)
    have e1 : IntKind.u8.wrap (48 + (k : Int) % 10) = (D.toNat : Int) := by rw [hDn]; exact u8_in k
    have e2 : decide ((k : Int) % 10 < 0) = false := by simp; omega
    have HD : Hid (dgt (k % 10) = D) := hD
    clear hD hDn
    by_cases hb : b.data.toList = []
    · obtain rfl := strEmpty b hb
      clear hb
      go_wp2
      go_roundw
      case rel => exact ⟨k / 10, _, by rfl, by omega, rfl, by rw [cons_str, ← HD.out]; exact HW.out.step (.inl rfl), hB.alloc hsz _⟩
      case measure => exact measI_lt _ _ _ (.inl rfl)
    · obtain ⟨hbe, hbf⟩ := str_ne b hb
      have hbs : b.size ≤ 19 := by
        have h1 := HW.out.len
        have h2 := dec_le N hN
        have h3 : b.size = b.data.toList.length := by rw [Array.length_toList]; rfl
        omega
      have HB : Hid (¬ b.data.toList = []) := hb
      clear hb
      by_cases hk0 : k = 0
      · subst hk0
        clear e1 e2 hcv HD
        go_wp2
        go_ret
        have := HW.out.done HB.out
        exact ⟨by rw [← this]; rfl, hB⟩
      · have hkn : ¬ (k : Int) = 0 := by omega
        have HK : Hid (¬ k = 0) := hk0
        clear hk0
        go_wp2
        go_roundw
        case rel => exact ⟨k / 10, _, by rfl, by omega, rfl, by rw [cons_str, ← HD.out]; exact HW.out.step (.inr HK.out), hB.alloc hsz _⟩
        case measure => exact measI_lt _ _ _ (.inr HK.out)

theorem nought_str (l : List UInt8) (j : Nat) : (⟨#[48]⟩ : ByteArray) ++ ⟨(List.replicate j 48 ++ l).toArray⟩ = ⟨(List.replicate (j + 1) 48 ++ l).toArray⟩ := by
  apply ByteArray.ext
  apply Array.toList_inj.1
  simp [ByteArray.data_append, List.replicate_succ]

def sizeV (s : Value) : Nat := match s with
  | .string b => b.size
  | _ => 0

theorem t_size_mk (l : List UInt8) : (⟨l.toArray⟩ : ByteArray).size = l.length := by
  show l.toArray.size = _
  simp

set_option maxHeartbeats 2000000 in
theorem cPadS (n wd : Nat) (w : World) (hn : n < 9223372036854775808) (hw : wd ≤ 100) :
    Calls Tryz.prog 86 #[.int .i64 n, .int .i64 wd] w fun e w' => e = .returned (.string ⟨(padL n wd).toArray⟩) ∧ Below w.heap.size w w' := by
  have hl := dec_le n hn
  unfold padL
  obtain ⟨l, hle⟩ : ∃ l, Lib.decDigits n = l := ⟨_, rfl⟩
  have C := cInt n w hn
  rw [hle] at C hl ⊢
  clear hle hn
  go_enter Tryz.func86, Tryz.ntmps86
  go_wp2_with fail
  refine C.mono ?_
  rintro e w1 ⟨rfl, hb1⟩
  go_wp2_with fail
  go_loop [5] (fun s => ∃ j : Nat, j ≤ wd - l.length ∧ s = .string ⟨(List.replicate j 48 ++ l).toArray⟩) (fun s => wd - sizeV s)
  case atStart => exact ⟨0, Nat.zero_le _, rfl⟩
  case round =>
    obtain ⟨j, hj, rfl⟩ := hrel
    obtain ⟨b, hbe⟩ : ∃ b : ByteArray, (⟨(List.replicate j 48 ++ l).toArray⟩ : ByteArray) = b := ⟨_, rfl⟩
    have hs : b.size = j + l.length := by rw [← hbe, t_size_mk]; simp
    rw [hbe]
    by_cases hlt : j < wd - l.length
    · have d1 : b.size < wd := by omega
      have hbs : b.size ≤ 119 := by omega
      have HE : Hid ((⟨(List.replicate j 48 ++ l).toArray⟩ : ByteArray) = b) := hbe
      have HS : Hid (b.size = j + l.length) := hs
      clear hbe hs
      go_wp2
      go_round
      case rel => exact ⟨j + 1, by omega, by rw [← HE.out, nought_str]⟩
      case measure =>
        have e : ((⟨#[48]⟩ : ByteArray) ++ b).size = b.size + 1 := by rw [ByteArray.size_append]; exact Nat.add_comm _ _
        have := HS.out
        simp only [sizeV, e]
        omega
    · have d1 : ¬ b.size < wd := by omega
      have ej : j = wd - l.length := by omega
      subst ej
      clear hs
      go_wp2
      go_ret
      exact ⟨rfl, hb1⟩

end Go.Proofs.YtcjeodgfpnecgaaGreatDoor
