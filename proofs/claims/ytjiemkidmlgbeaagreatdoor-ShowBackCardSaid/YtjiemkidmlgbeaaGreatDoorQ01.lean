/- A part of the proof: Shelf, TSpec, Num, Kw, CFoot, RMap. No condition. -/
import Derived.Shelf.Small.Strs
import Derived.Shelf.Strconv.Itoa0
import Derived.Shelf.Strconv.Itoa1
import Derived.Shelf.LaysM
import Derived.Shelf.Strconv.Itoa2
import Derived.Shelf.Strconv.Itoa3
import Derived.Shelf.Strconv.ParseIntEmpty
import Derived.Shelf.Strconv.Clone
import Derived.Shelf.Strconv.SyntaxError
import Derived.Shelf.LaysC
import Derived.Shelf.Strconv.ToError
import Derived.Shelf.Strconv.Lower
import Derived.Shelf.Strconv.ParseUint10
import Derived.Shelf.Strconv.ParseUint10Empty
import Derived.Shelf.Strconv.ParseUint10Any
import Derived.Shelf.Strconv.ParseInt10
import Derived.Shelf.Strconv.RangeError
import Derived.Shelf.Strconv.ToErrorRange
import Derived.Shelf.Strconv.ParseUintEmpty
import Derived.Shelf.Strconv.ParseUint10b64
import Derived.Shelf.Strconv.ParseUint10b32
import Derived.Shelf.Strconv.ParseUint10b16
import Derived.Shelf.Strconv.ParseUint10b8
import Derived.Shelf.Strconv.ParseUint10At
import Derived.Shelf.Strconv.ParseInt10At64
import Derived.Shelf.Strconv.ParseInt10At32
import Derived.Shelf.Strconv.ParseInt10At16
import Derived.Shelf.Strconv.ParseInt10At8
import Derived.Shelf.Strconv.ParseInt10All
import Derived.Shelf.Strconv.ParseIntPublic10
import Derived.Shelf.Strconv.ErrVarParseInt
import Derived.Shelf.Strings.Search1
import Derived.Shelf.Strconv.AppendUint10
import Derived.Shelf.Strconv.AppendInt10
import Derived.Shelf.Strconv.AppendIntPublic10
import Derived.Shelf.Strings.Prefix
import Derived.Shelf.Slices.Turned
import Derived.Test.YtjiemkidmlgbeaaGreatDoorProg
import Derived.WalkKit
import Derived.Test.YtjiemkidmlgbeaaGreatDoorRows
import Derived.WalkSpells
import Derived.WalkLawsBesides
import Derived.Handy
import Derived.Lib.Hide
import Derived.LoopTactic
import Derived.Lib.IndexBytes
import Derived.Laws.OwnMore
import Derived.Below
import Derived.OwnWalk
import Derived.Maps.OwnSet
import Derived.MapKept
set_option linter.unusedVariables false
set_option linter.unusedSimpArgs false
namespace Go.Proofs
open Go.Shelf
def Tryz.lays137_ren : Go.Shelf.Ren := ⟨fun | 137 => 118 | 217 => 126 | 266 => 129 | n => n, fun | 9 => 9 | 5 => 5 | 3 => 3 | n => n, fun | n => n⟩
theorem Tryz.lays137 : Go.Proofs.Lays.n137 Tryz.prog Tryz.lays137_ren := {
 mixed := by kernel_rfl
 f137 := Tryz.func118.trans (congrArg some (by kernel_rfl))
 f217 := Tryz.func126.trans (congrArg some (by kernel_rfl))
 f266 := Tryz.func129.trans (congrArg some (by kernel_rfl))
 t3 := Tryz.underlying3
 a3 := Tryz.isAgg3
 z3 := Tryz.sizeOf3
 v3 := Tryz.zeroValue3
 t5 := Tryz.underlying5
 a5 := Tryz.isAgg5
 z5 := Tryz.sizeOf5
 v5 := Tryz.zeroValue5
 t9 := Tryz.underlying9
 a9 := Tryz.isAgg9
 z9 := Tryz.sizeOf9
 v9 := Tryz.zeroValue9 }
open Go.RowKit in
theorem Tryz.strings_IndexByte (s : ByteArray) (c : Int) (w : World) :
   Calls Tryz.prog 118 #[.string s, .int .u8 c] w fun e w' => e = .returned (.int .i64 (Lib.indexByte s.data.toList c.toNat.toUInt8)) ∧ w' = w := Any.strings_IndexByte Tryz.lays137 s c w
def Tryz.laysM316_ren : Go.Shelf.Ren := ⟨fun | 316 => 101 | n => n, fun | 9 => 9 | 3 => 3 | 4 => 4 | 37 => 56 | 0 => 0 | 127 => 139 | 5 => 5 | n => n, fun | n => n⟩
theorem Tryz.laysM316 : Go.Proofs.LaysM.n316 Tryz.prog Tryz.laysM316_ren := {
 mixed := by kernel_rfl
 f316 := Tryz.func101.trans (congrArg some (by kernel_rfl))
 t0 := Tryz.underlying0
 a0 := Tryz.isAgg0
 z0 := Tryz.sizeOf0
 v0 := Tryz.zeroValue0
 t3 := Tryz.underlying3
 a3 := Tryz.isAgg3
 z3 := Tryz.sizeOf3
 v3 := Tryz.zeroValue3
 t4 := Tryz.underlying4
 a4 := Tryz.isAgg4
 z4 := Tryz.sizeOf4
 v4 := Tryz.zeroValue4
 t9 := Tryz.underlying9
 a9 := Tryz.isAgg9
 z9 := Tryz.sizeOf9
 v9 := Tryz.zeroValue9
 t37 := Tryz.underlying56
 a37 := Tryz.isAgg56
 z37 := Tryz.sizeOf56
 v37 := Tryz.zeroValue56
 t127 := Tryz.underlying139
 a127 := Tryz.isAgg139
 z127 := Tryz.sizeOf139
 v127 := Tryz.zeroValue139
 t5 := Tryz.underlying5
 a5 := Tryz.isAgg5
 z5 := Tryz.sizeOf5
 v5 := Tryz.zeroValue5
 i0 := by kernel_rfl
 i3 := by kernel_rfl
 i4 := by kernel_rfl
 i5 := by kernel_rfl
 i9 := by kernel_rfl
 i37 := by kernel_rfl
 i127 := by kernel_rfl }
open Go.RowKit in
theorem Tryz.stringslite_Clone (s : ByteArray) (w : World) (hlim : s.size ≤ 281474976710656) :
   Calls Tryz.prog 101 #[.string s] w fun e w' => e = .returned (.string s) ∧ Below w.heap.size w w' := Any.stringslite_Clone Tryz.laysM316 s w hlim
def Tryz.laysC174_ren : Go.Shelf.Ren := ⟨fun | 174 => 91 | 247 => 102 | 245 => 103 | 287 => 113 | 279 => 114 | 280 => 115 | 281 => 116 | 282 => 117 | 321 => 122 | 322 => 123 | 316 => 101 | 171 => 125 | 205 => 124 | 243 => 128 | 246 => 131 | 283 => 97 | 284 => 98 | 285 => 99 | 286 => 100 | 129 => 109 | 317 => 108 | 318 => 110 | 319 => 111 | 320 => 112 | 337 => 120 | 338 => 121 | n => n, fun | 9 => 9 | 3 => 3 | 2 => 2 | 75 => 117 | 85 => 118 | 4 => 4 | 167 => 140 | 5 => 5 | 53 => 112 | 175 => 141 | 46 => 114 | 168 => 143 | 37 => 56 | 0 => 0 | 210 => 150 | 21 => 21 | 127 => 139 | 145 => 156 | 143 => 154 | 171 => 126 | 173 => 129 | 212 => 135 | 51 => 136 | 20 => 20 | 213 => 137 | 232 => 152 | 233 => 153 | 80 => 86 | n => n, fun | 15 => 4 | 16 => 5 | 17 => 3 | 18 => 6 | 19 => 7 | n => n⟩
theorem Tryz.laysC174 : Go.Proofs.LaysC.n174 Tryz.prog Tryz.laysC174_ren := {
 mixed := by kernel_rfl
 f129 := Tryz.func109.trans (congrArg some (by kernel_rfl))
 f171 := Tryz.func125.trans (congrArg some (by kernel_rfl))
 f174 := Tryz.func91.trans (congrArg some (by kernel_rfl))
 f205 := Tryz.func124.trans (congrArg some (by kernel_rfl))
 f243 := Tryz.func128.trans (congrArg some (by kernel_rfl))
 f245 := Tryz.func103.trans (congrArg some (by kernel_rfl))
 f246 := Tryz.func131.trans (congrArg some (by kernel_rfl))
 f247 := Tryz.func102.trans (congrArg some (by kernel_rfl))
 f279 := Tryz.func114.trans (congrArg some (by kernel_rfl))
 f280 := Tryz.func115.trans (congrArg some (by kernel_rfl))
 f281 := Tryz.func116.trans (congrArg some (by kernel_rfl))
 f282 := Tryz.func117.trans (congrArg some (by kernel_rfl))
 f283 := Tryz.func97.trans (congrArg some (by kernel_rfl))
 f284 := Tryz.func98.trans (congrArg some (by kernel_rfl))
 f285 := Tryz.func99.trans (congrArg some (by kernel_rfl))
 f286 := Tryz.func100.trans (congrArg some (by kernel_rfl))
 f287 := Tryz.func113.trans (congrArg some (by kernel_rfl))
 f316 := Tryz.func101.trans (congrArg some (by kernel_rfl))
 f317 := Tryz.func108.trans (congrArg some (by kernel_rfl))
 f318 := Tryz.func110.trans (congrArg some (by kernel_rfl))
 f319 := Tryz.func111.trans (congrArg some (by kernel_rfl))
 f320 := Tryz.func112.trans (congrArg some (by kernel_rfl))
 f321 := Tryz.func122.trans (congrArg some (by kernel_rfl))
 f322 := Tryz.func123.trans (congrArg some (by kernel_rfl))
 f337 := Tryz.func120.trans (congrArg some (by kernel_rfl))
 f338 := Tryz.func121.trans (congrArg some (by kernel_rfl))
 t0 := Tryz.underlying0
 a0 := Tryz.isAgg0
 z0 := Tryz.sizeOf0
 v0 := Tryz.zeroValue0
 t2 := Tryz.underlying2
 a2 := Tryz.isAgg2
 z2 := Tryz.sizeOf2
 v2 := Tryz.zeroValue2
 t3 := Tryz.underlying3
 a3 := Tryz.isAgg3
 z3 := Tryz.sizeOf3
 v3 := Tryz.zeroValue3
 t4 := Tryz.underlying4
 a4 := Tryz.isAgg4
 z4 := Tryz.sizeOf4
 v4 := Tryz.zeroValue4
 t5 := Tryz.underlying5
 a5 := Tryz.isAgg5
 z5 := Tryz.sizeOf5
 v5 := Tryz.zeroValue5
 t9 := Tryz.underlying9
 a9 := Tryz.isAgg9
 z9 := Tryz.sizeOf9
 v9 := Tryz.zeroValue9
 t20 := Tryz.underlying20
 a20 := Tryz.isAgg20
 z20 := Tryz.sizeOf20
 v20 := Tryz.zeroValue20
 t21 := Tryz.underlying21
 a21 := Tryz.isAgg21
 z21 := Tryz.sizeOf21
 v21 := Tryz.zeroValue21
 t37 := Tryz.underlying56
 a37 := Tryz.isAgg56
 z37 := Tryz.sizeOf56
 v37 := Tryz.zeroValue56
 t46 := Tryz.underlying114
 a46 := Tryz.isAgg114
 z46 := Tryz.sizeOf114
 v46 := Tryz.zeroValue114
 t51 := Tryz.underlying136
 a51 := Tryz.isAgg136
 z51 := Tryz.sizeOf136
 v51 := Tryz.zeroValue136
 t53 := Tryz.underlying112
 a53 := Tryz.isAgg112
 z53 := Tryz.sizeOf112
 v53 := Tryz.zeroValue112
 t75 := Tryz.underlying117
 a75 := Tryz.isAgg117
 z75 := Tryz.sizeOf117
 v75 := Tryz.zeroValue117
 t85 := Tryz.underlying118
 a85 := Tryz.isAgg118
 z85 := Tryz.sizeOf118
 v85 := Tryz.zeroValue118
 t127 := Tryz.underlying139
 a127 := Tryz.isAgg139
 z127 := Tryz.sizeOf139
 v127 := Tryz.zeroValue139
 t143 := Tryz.underlying154
 a143 := Tryz.isAgg154
 z143 := Tryz.sizeOf154
 v143 := Tryz.zeroValue154
 t145 := Tryz.underlying156
 a145 := Tryz.isAgg156
 z145 := Tryz.sizeOf156
 v145 := Tryz.zeroValue156
 t167 := Tryz.underlying140
 a167 := Tryz.isAgg140
 z167 := Tryz.sizeOf140
 v167 := Tryz.zeroValue140
 t168 := Tryz.underlying143
 a168 := Tryz.isAgg143
 z168 := Tryz.sizeOf143
 v168 := Tryz.zeroValue143
 t171 := Tryz.underlying126
 a171 := Tryz.isAgg126
 z171 := Tryz.sizeOf126
 v171 := Tryz.zeroValue126
 t173 := Tryz.underlying129
 a173 := Tryz.isAgg129
 z173 := Tryz.sizeOf129
 v173 := Tryz.zeroValue129
 t175 := Tryz.underlying141
 a175 := Tryz.isAgg141
 z175 := Tryz.sizeOf141
 v175 := Tryz.zeroValue141
 t210 := Tryz.underlying150
 a210 := Tryz.isAgg150
 z210 := Tryz.sizeOf150
 v210 := Tryz.zeroValue150
 t212 := Tryz.underlying135
 a212 := Tryz.isAgg135
 z212 := Tryz.sizeOf135
 v212 := Tryz.zeroValue135
 t213 := Tryz.underlying137
 a213 := Tryz.isAgg137
 z213 := Tryz.sizeOf137
 t232 := Tryz.underlying152
 a232 := Tryz.isAgg152
 z232 := Tryz.sizeOf152
 v232 := Tryz.zeroValue152
 t233 := Tryz.underlying153
 a233 := Tryz.isAgg153
 z233 := Tryz.sizeOf153
 v233 := Tryz.zeroValue153
 g15 := by kernel_rfl
 g16 := by kernel_rfl
 g17 := by kernel_rfl
 g18 := by kernel_rfl
 g19 := by kernel_rfl
 t80 := Tryz.underlying86
 a80 := Tryz.isAgg86
 z80 := Tryz.sizeOf86
 v80 := Tryz.zeroValue86
 i0 := by kernel_rfl
 i2 := by kernel_rfl
 i3 := by kernel_rfl
 i4 := by kernel_rfl
 i5 := by kernel_rfl
 i9 := by kernel_rfl
 i20 := by kernel_rfl
 i21 := by kernel_rfl
 i37 := by kernel_rfl
 i46 := by kernel_rfl
 i51 := by kernel_rfl
 i53 := by kernel_rfl
 i75 := by kernel_rfl
 i80 := by kernel_rfl
 i85 := by kernel_rfl
 i127 := by kernel_rfl
 i143 := by kernel_rfl
 i145 := by kernel_rfl
 i167 := by kernel_rfl
 i168 := by kernel_rfl
 i171 := by kernel_rfl
 i173 := by kernel_rfl
 i175 := by kernel_rfl
 i210 := by kernel_rfl
 i212 := by kernel_rfl
 i232 := by kernel_rfl
 i233 := by kernel_rfl
 m15 := by kernel_rfl
 m16 := by kernel_rfl
 m17 := by kernel_rfl
 m18 := by kernel_rfl
 m19 := by kernel_rfl
 c0 := by kernel_rfl
 c2 := by kernel_rfl
 c3 := by kernel_rfl
 c4 := by kernel_rfl
 c5 := by kernel_rfl
 c9 := by kernel_rfl
 c20 := by kernel_rfl
 c21 := by kernel_rfl
 c37 := by kernel_rfl
 c46 := by kernel_rfl
 c51 := by kernel_rfl
 c53 := by kernel_rfl
 c75 := by kernel_rfl
 c80 := by kernel_rfl
 c85 := by kernel_rfl
 c127 := by kernel_rfl
 c143 := by kernel_rfl
 c145 := by kernel_rfl
 c167 := by kernel_rfl
 c168 := by kernel_rfl
 c171 := by kernel_rfl
 c173 := by kernel_rfl
 c175 := by kernel_rfl
 c210 := by kernel_rfl
 c212 := by kernel_rfl
 c213 := by kernel_rfl
 c232 := by kernel_rfl
 c233 := by kernel_rfl }
open Go.RowKit in
theorem Tryz.strconv_ParseInt_10_at64_ok (s : ByteArray) (hmax : s.size ≤ 9223372036854775806) (v : Int) (h : Lib.parseIntB 64 s.data.toList = .ok v) (w : World) :
   Calls Tryz.prog 91 #[.string s, .int .i64 10, .int .i64 64] w fun e w' => e = .returned (.tuple #[.int .i64 v, .nilIface]) ∧ (w' = w ∨ ∃ t, w' = Lib.bytesWorld w 5 t) := Any.strconv_ParseInt_10_at64_ok Tryz.laysC174 s hmax v h w
open Go.RowKit in
theorem Tryz.strconv_ParseInt_10_at64_range_var (s : ByteArray) (hlim : s.size ≤ 281474976710656) (h : Lib.parseIntB 64 s.data.toList = .range) (tp : TypeId) (p : Value) (w : World) (hvar : w.var? Tryz.prog "strconv.ErrRange" = some #[.iface tp p]) :
   Calls Tryz.prog 91 #[.string s, .int .i64 10, .int .i64 64] w fun e w' => ∃ N, e = .returned (.tuple #[.int .i64 (Lib.intSat 64 s.data.toList), .iface 143 (.pointer (some ⟨N, 0, none⟩))]) ∧ w.heap.size ≤ N ∧ w'.heap[N]? = some (.cells #[.string ⟨#[80, 97, 114, 115, 101, 73, 110, 116]⟩, .string s, .iface tp p] 150 (0, 0)) ∧ Below w.heap.size w w' := Any.strconv_ParseInt_10_at64_range_var Tryz.laysC174 s hlim h tp p w hvar
def Tryz.laysM176_ren : Go.Shelf.Ren := ⟨fun | 176 => 44 | 249 => 68 | 288 => 87 | 283 => 97 | 284 => 98 | 285 => 99 | 286 => 100 | 129 => 109 | 317 => 108 | 318 => 110 | 319 => 111 | 320 => 112 | 337 => 120 | 338 => 121 | n => n, fun | 37 => 56 | 2 => 2 | 3 => 3 | 53 => 112 | 4 => 4 | 9 => 9 | 171 => 126 | 0 => 0 | 173 => 129 | 212 => 135 | 51 => 136 | 5 => 5 | 20 => 20 | 213 => 137 | 46 => 114 | 232 => 152 | 233 => 153 | n => n, fun | 17 => 3 | 18 => 6 | 19 => 7 | n => n⟩
theorem Tryz.laysM176 : Go.Proofs.LaysM.n176 Tryz.prog Tryz.laysM176_ren := {
 mixed := by kernel_rfl
 f129 := Tryz.func109.trans (congrArg some (by kernel_rfl))
 f176 := Tryz.func44.trans (congrArg some (by kernel_rfl))
 f249 := Tryz.func68.trans (congrArg some (by kernel_rfl))
 f283 := Tryz.func97.trans (congrArg some (by kernel_rfl))
 f284 := Tryz.func98.trans (congrArg some (by kernel_rfl))
 f285 := Tryz.func99.trans (congrArg some (by kernel_rfl))
 f286 := Tryz.func100.trans (congrArg some (by kernel_rfl))
 f288 := Tryz.func87.trans (congrArg some (by kernel_rfl))
 f317 := Tryz.func108.trans (congrArg some (by kernel_rfl))
 f318 := Tryz.func110.trans (congrArg some (by kernel_rfl))
 f319 := Tryz.func111.trans (congrArg some (by kernel_rfl))
 f320 := Tryz.func112.trans (congrArg some (by kernel_rfl))
 f337 := Tryz.func120.trans (congrArg some (by kernel_rfl))
 f338 := Tryz.func121.trans (congrArg some (by kernel_rfl))
 t0 := Tryz.underlying0
 a0 := Tryz.isAgg0
 z0 := Tryz.sizeOf0
 v0 := Tryz.zeroValue0
 t2 := Tryz.underlying2
 a2 := Tryz.isAgg2
 z2 := Tryz.sizeOf2
 v2 := Tryz.zeroValue2
 t3 := Tryz.underlying3
 a3 := Tryz.isAgg3
 z3 := Tryz.sizeOf3
 v3 := Tryz.zeroValue3
 t4 := Tryz.underlying4
 a4 := Tryz.isAgg4
 z4 := Tryz.sizeOf4
 v4 := Tryz.zeroValue4
 t5 := Tryz.underlying5
 a5 := Tryz.isAgg5
 z5 := Tryz.sizeOf5
 v5 := Tryz.zeroValue5
 t9 := Tryz.underlying9
 a9 := Tryz.isAgg9
 z9 := Tryz.sizeOf9
 v9 := Tryz.zeroValue9
 t20 := Tryz.underlying20
 a20 := Tryz.isAgg20
 z20 := Tryz.sizeOf20
 v20 := Tryz.zeroValue20
 t37 := Tryz.underlying56
 a37 := Tryz.isAgg56
 z37 := Tryz.sizeOf56
 v37 := Tryz.zeroValue56
 t46 := Tryz.underlying114
 a46 := Tryz.isAgg114
 z46 := Tryz.sizeOf114
 v46 := Tryz.zeroValue114
 t51 := Tryz.underlying136
 a51 := Tryz.isAgg136
 z51 := Tryz.sizeOf136
 v51 := Tryz.zeroValue136
 t53 := Tryz.underlying112
 a53 := Tryz.isAgg112
 z53 := Tryz.sizeOf112
 v53 := Tryz.zeroValue112
 t171 := Tryz.underlying126
 a171 := Tryz.isAgg126
 z171 := Tryz.sizeOf126
 v171 := Tryz.zeroValue126
 t173 := Tryz.underlying129
 a173 := Tryz.isAgg129
 z173 := Tryz.sizeOf129
 v173 := Tryz.zeroValue129
 t212 := Tryz.underlying135
 a212 := Tryz.isAgg135
 z212 := Tryz.sizeOf135
 v212 := Tryz.zeroValue135
 t213 := Tryz.underlying137
 a213 := Tryz.isAgg137
 z213 := Tryz.sizeOf137
 t232 := Tryz.underlying152
 a232 := Tryz.isAgg152
 z232 := Tryz.sizeOf152
 v232 := Tryz.zeroValue152
 t233 := Tryz.underlying153
 a233 := Tryz.isAgg153
 z233 := Tryz.sizeOf153
 v233 := Tryz.zeroValue153
 g17 := by kernel_rfl
 g18 := by kernel_rfl
 g19 := by kernel_rfl
 i0 := by kernel_rfl
 i2 := by kernel_rfl
 i3 := by kernel_rfl
 i4 := by kernel_rfl
 i5 := by kernel_rfl
 i9 := by kernel_rfl
 i20 := by kernel_rfl
 i37 := by kernel_rfl
 i46 := by kernel_rfl
 i51 := by kernel_rfl
 i53 := by kernel_rfl
 i171 := by kernel_rfl
 i173 := by kernel_rfl
 i212 := by kernel_rfl
 i232 := by kernel_rfl
 i233 := by kernel_rfl
 m17 := by kernel_rfl
 m18 := by kernel_rfl
 m19 := by kernel_rfl }
open Go.RowKit Go.Sort Go.Lib in
theorem Tryz.strconv_AppendInt_10 (B n : Nat) (i : Int) (h0 : -9223372036854775808 ≤ i) (h1 : i ≤ 9223372036854775807) (sv : Value) (xs : List Value) (w : World) (hown : w.ownsRow B 5 1 sv n xs) (hBw : B ≤ w.heap.size) (hlim : n + 21 ≤ 140737488355328) (htab : Lib.TabBelow Tryz.prog B w "internal/strconv.uint64pow10" .u64 Lib.pow10Tab) :
   Calls Tryz.prog 44 #[sv, .int .i64 i, .int .i64 10] w fun e w' => ∃ v', e = .returned v' ∧ w'.ownsRow B 5 1 v' (n + (Lib.itoa i).length) (xs ++ Lib.byteCells (Lib.itoa i)) ∧ Below B w w' ∧ Lib.OthersKept 5 none w w' := Any.strconv_AppendInt_10 Tryz.laysM176 B n i h0 h1 sv xs w hown hBw hlim htab
def Tryz.lays99_ren : Go.Shelf.Ren := ⟨fun | 99 => 75 | 206 => 93 | n => n, fun | 9 => 9 | 4 => 4 | 3 => 3 | n => n, fun | n => n⟩
theorem Tryz.lays99 : Go.Proofs.Lays.n99 Tryz.prog Tryz.lays99_ren := {
 mixed := by kernel_rfl
 f99 := Tryz.func75.trans (congrArg some (by kernel_rfl))
 f206 := Tryz.func93.trans (congrArg some (by kernel_rfl))
 t3 := Tryz.underlying3
 a3 := Tryz.isAgg3
 z3 := Tryz.sizeOf3
 v3 := Tryz.zeroValue3
 t4 := Tryz.underlying4
 a4 := Tryz.isAgg4
 z4 := Tryz.sizeOf4
 v4 := Tryz.zeroValue4
 t9 := Tryz.underlying9
 a9 := Tryz.isAgg9
 z9 := Tryz.sizeOf9
 v9 := Tryz.zeroValue9 }
open Go.RowKit Go.Lib in
theorem Tryz.strings_HasPrefix (s p : ByteArray) (w : World) :
   Calls Tryz.prog 75 #[.string s, .string p] w fun e w' => e = .returned (.bool (Lib.hasPrefix s.data.toList p.data.toList)) ∧ w' = w := Any.strings_HasPrefix Tryz.lays99 s p w
end Go.Proofs
namespace Go.Proofs.YtjiemkidmlgbeaaGreatDoor.Tok
def lowC (c : UInt8) : Bool := decide (97 ≤ c.toNat ∧ c.toNat ≤ 122)
def digC (c : UInt8) : Bool := decide (48 ≤ c.toNat ∧ c.toNat ≤ 57)
def wordC (c : UInt8) : Bool := lowC c || digC c || decide (c.toNat = 95)
def plainC (c : UInt8) : Bool := decide (32 ≤ c.toNat ∧ c.toNat ≤ 126)
def span (p : UInt8 → Bool) : List UInt8 → Nat
 | [] => 0
 | c :: l => if p c then span p l + 1 else 0
inductive Res where
 | ok (kind : Nat) (text : List UInt8) (num : Nat) (n : Nat)
 | bad (n code : Nat)
 deriving DecidableEq
def wordT (l : List UInt8) : Res := if 24 < span wordC l then .bad 0 2 else .ok 1 (l.take (span wordC l)) 0 (span wordC l)
def numV (l : List UInt8) : Nat := l.foldl (fun x c => 10 * x + (c.toNat - 48)) 0
def numN : List UInt8 → Nat
 | [] => 0
 | c :: l => if c.toNat = 48 then 1 else span digC (c :: l)
def numT (l : List UInt8) : Res :=
 if 9223372036854775807 < numV (l.take (numN l)) then .bad 0 2
 else match l.drop (numN l) with
   | [] => .ok 2 [] (numV (l.take (numN l))) (numN l)
   | c :: _ => if wordC c then .bad (numN l) 9 else .ok 2 [] (numV (l.take (numN l))) (numN l)
def hexV (c : UInt8) : Option Nat := if digC c then some (c.toNat - 48) else if 97 ≤ c.toNat ∧ c.toNat ≤ 102 then some (c.toNat - 87) else none
inductive Item where
 | ok (c : UInt8) (n : Nat)
 | bad (n code : Nat)
 deriving DecidableEq
def hexT : List UInt8 → Item
 | [] => .bad 2 4
 | e :: r => match hexV e with
   | none => .bad 2 9
   | some x => match r with
     | [] => .bad 3 4
     | f :: _ => match hexV f with
       | none => .bad 3 9
       | some y => .ok (16 * x + y).toUInt8 4
theorem hexT_pos {r : List UInt8} {b : UInt8} {n : Nat} (h : hexT r = .ok b n) : 0 < n := by
 unfold hexT at h
 repeat' split at h
 all_goals first
   | (cases h; omega)
   | (cases h)
def itemT (c : UInt8) (r : List UInt8) : Item :=
 if plainC c = false then .bad 0 9
 else if c.toNat ≠ 92 then .ok c 1
 else match r with
   | [] => .bad 1 4
   | d :: r => if d.toNat = 34 ∨ d.toNat = 92 then .ok d 2
     else if d.toNat = 110 then .ok 10 2
     else if d.toNat = 120 then hexT r
     else .bad 1 9
theorem itemT_pos {c : UInt8} {r : List UInt8} {b : UInt8} {n : Nat} (h : itemT c r = .ok b n) : 0 < n := by
 unfold itemT at h
 repeat' split at h
 all_goals first
   | (cases h; omega)
   | (cases h; done)
   | (exact hexT_pos h)
def textGo : Nat → List UInt8 → List UInt8 → Nat → Res
 | 0, _, _, n => .bad n 4
 | k + 1, l, acc, n => match l with
   | [] => .bad n 4
   | c :: r => if c.toNat = 34 then .ok 3 acc 0 (n + 1)
     else match itemT c r with
       | .bad i e => .bad (n + i) e
       | .ok b i => if acc.length = 4095 then .bad 0 2 else textGo k ((c :: r).drop i) (acc ++ [b]) (n + i)
theorem textGo_fuel : ∀ (k m : Nat) (l acc : List UInt8) (n : Nat), l.length < k → l.length < m → textGo k l acc n = textGo m l acc n
 | 0, _, _, _, _, h, _ => by omega
 | _ + 1, 0, _, _, _, _, h => by omega
 | k + 1, m + 1, l, acc, n, hk, hm => by
   unfold textGo
   match l with
   | [] => rfl
   | c :: r =>
     dsimp only;split
     · rfl
     · cases hi : itemT c r with
       | bad i e => rfl
       | ok b i =>
         dsimp only;split
         · rfl
         · have := itemT_pos hi
           have hl : ((c :: r).drop i).length < (c :: r).length := by rw [List.length_drop]; simp; omega
           simp only [List.length_cons] at *;exact textGo_fuel k m _ _ _ (by omega) (by omega)
def textR (l acc : List UInt8) (n : Nat) : Res := textGo (l.length + 1) l acc n
theorem textR_nil (acc : List UInt8) (n : Nat) : textR [] acc n = .bad n 4 := rfl
theorem textR_end {c : UInt8} (r acc : List UInt8) (n : Nat) (h : c.toNat = 34) : textR (c :: r) acc n = .ok 3 acc 0 (n + 1) := by
 unfold textR textGo;simp only
 rw [if_pos h]
theorem textR_bad {c : UInt8} {r : List UInt8} {i e : Nat} (acc : List UInt8) (n : Nat) (h : c.toNat ≠ 34) (hi : itemT c r = .bad i e) : textR (c :: r) acc n = .bad (n + i) e := by
 unfold textR textGo;simp only
 rw [if_neg h, hi]
theorem textR_long {c b : UInt8} {r : List UInt8} {i : Nat} {acc : List UInt8} (n : Nat) (h : c.toNat ≠ 34) (hi : itemT c r = .ok b i) (hl : acc.length = 4095) : textR (c :: r) acc n = .bad 0 2 := by
 unfold textR textGo;simp only
 rw [if_neg h, hi];simp only
 rw [if_pos hl]
theorem textR_more {c b : UInt8} {r : List UInt8} {i : Nat} {acc : List UInt8} (n : Nat) (h : c.toNat ≠ 34) (hi : itemT c r = .ok b i) (hl : acc.length ≠ 4095) : textR (c :: r) acc n = textR ((c :: r).drop i) (acc ++ [b]) (n + i) := by
 unfold textR
 conv => lhs; unfold textGo
 simp only
 rw [if_neg h, hi];simp only
 rw [if_neg hl];have := itemT_pos hi;exact textGo_fuel _ _ _ _ _ (by rw [List.length_drop]; simp; omega) (by omega)
def textT (l : List UInt8) : Res := textR (l.drop 1) [] 1
def signs : List (List UInt8) := [[61, 61], [33, 61], [60, 61], [40], [41], [123], [125], [91], [93], [44], [61], [60], [43], [45], [42], [47], [37]]
def noneT : List UInt8 → Res
 | [] => .bad 0 9
 | c :: r => if c.toNat ≠ 33 then .bad 0 9 else if r = [] then .bad 1 4 else .bad 1 9
def signGo : List (List UInt8) → List UInt8 → Res
 | [], l => noneT l
 | s :: ss, l => if s.isPrefixOf l then .ok 4 s 0 s.length else signGo ss l
def signT (l : List UInt8) : Res := signGo signs l
def tokT : List UInt8 → Res
 | [] => .bad 0 9
 | c :: r => if lowC c then wordT (c :: r) else if digC c then numT (c :: r) else if c.toNat = 34 then textT (c :: r) else signT (c :: r)
structure Tk where
 kind : Nat
 text : List UInt8
 num : Nat
 at_ : Nat
 deriving DecidableEq
structure Ans where
 toks : List Tk
 at_ : Nat
 code : Nat
 deriving DecidableEq
def toLine : List UInt8 → List UInt8
 | [] => []
 | c :: l => if c.toNat = 10 then c :: l else toLine l
theorem toLine_le : ∀ l, (toLine l).length ≤ l.length
 | [] => Nat.le_refl _
 | c :: l => by
   unfold toLine;split
   · exact Nat.le_refl _
   · have := toLine_le l; simp; omega
def allGo : Nat → List UInt8 → Nat → List Tk → Ans
 | 0, _, _, ts => ⟨ts, 0, 0⟩
 | k + 1, l, n, ts => match l with
   | [] => ⟨ts, 0, 0⟩
   | c :: r => if c.toNat = 32 ∨ c.toNat = 10 then allGo k r (n + 1) ts
     else if c.toNat = 35 then allGo k (toLine r) (n + 1 + (r.length - (toLine r).length)) ts
     else match tokT (c :: r) with
       | .bad i e => ⟨[], n + i, e⟩
       | .ok kd tx x i => allGo k ((c :: r).drop i) (n + i) (ts ++ [⟨kd, tx, x, n⟩])
theorem span_pos {p : UInt8 → Bool} {c : UInt8} (r : List UInt8) (h : p c = true) : 0 < span p (c :: r) := by
 unfold span; rw [if_pos h]; omega
theorem low_word {c : UInt8} (h : lowC c = true) : wordC c = true := by simp [wordC, h]
theorem textGo_pos : ∀ (k : Nat) (l acc : List UInt8) (n : Nat) {kd : Nat} {tx : List UInt8} {x i : Nat}, textGo k l acc n = .ok kd tx x i → n < i
 | 0, _, _, _, _, _, _, _, h => by unfold textGo at h; cases h
 | k + 1, l, acc, n, kd, tx, x, i, h => by
   unfold textGo at h
   match l, h with
   | [], h => cases h
   | c :: r, h =>
     dsimp only at h;split at h
     · injection h; omega
     · cases hi : itemT c r with
       | bad j e => rw [hi] at h; cases h
       | ok b j =>
         rw [hi] at h;dsimp only at h;split at h
         · cases h
         · have := textGo_pos k _ _ _ h; omega
theorem noneT_bad (l : List UInt8) {kd : Nat} {tx : List UInt8} {x i : Nat} (h : noneT l = .ok kd tx x i) : False := by
 unfold noneT at h
 repeat' split at h
 all_goals cases h
theorem signGo_pos : ∀ (ss : List (List UInt8)) (l : List UInt8) {kd : Nat} {tx : List UInt8} {x i : Nat}, (∀ s ∈ ss, 0 < s.length) → signGo ss l = .ok kd tx x i → 0 < i
 | [], l, _, _, _, _, _, h => (noneT_bad l h).elim
 | s :: ss, l, _, _, _, _, hs, h => by
   unfold signGo at h;split at h
   · cases h; exact hs s (by simp)
   · exact signGo_pos ss l (fun s hs' => hs s (by simp [hs'])) h
theorem tokT_cons (c : UInt8) (r : List UInt8) : tokT (c :: r) = if lowC c then wordT (c :: r) else if digC c then numT (c :: r) else if c.toNat = 34 then textT (c :: r) else signT (c :: r) := rfl
theorem tokT_pos {c : UInt8} {r : List UInt8} {kd : Nat} {tx : List UInt8} {x i : Nat} (h : tokT (c :: r) = .ok kd tx x i) : 0 < i := by
 rw [tokT_cons] at h;by_cases h1 : lowC c = true
 · rw [if_pos h1] at h
   unfold wordT at h;split at h
   · cases h
   · injection h; subst_vars; exact span_pos r (low_word h1)
 · rw [if_neg h1] at h
   by_cases h2 : digC c = true
   · rw [if_pos h2] at h
     unfold numT at h;have hp : 0 < numN (c :: r) := by
       show 0 < if c.toNat = 48 then 1 else span digC (c :: r)
       split
       · omega
       · exact span_pos r h2
     repeat' split at h
     all_goals first
       | (cases h; exact hp)
       | (cases h)
   · rw [if_neg h2] at h
     by_cases h3 : c.toNat = 34
     · rw [if_pos h3] at h
       have := textGo_pos _ _ _ _ h; omega
     · rw [if_neg h3] at h
       exact signGo_pos signs _ (by decide) h
theorem allGo_fuel : ∀ (k m : Nat) (l : List UInt8) (n : Nat) (ts : List Tk), l.length < k → l.length < m → allGo k l n ts = allGo m l n ts
 | 0, _, _, _, _, h, _ => by omega
 | _ + 1, 0, _, _, _, _, h => by omega
 | k + 1, m + 1, l, n, ts, hk, hm => by
   unfold allGo
   match l with
   | [] => rfl
   | c :: r =>
     simp only [List.length_cons] at hk hm;dsimp only;split
     · exact allGo_fuel k m _ _ _ (by omega) (by omega)
     · split
       · have := toLine_le r
         exact allGo_fuel k m _ _ _ (by omega) (by omega)
       · cases hi : tokT (c :: r) with
         | bad i e => rfl
         | ok kd tx x i =>
           have := tokT_pos hi;dsimp only;exact allGo_fuel k m _ _ _ (by rw [List.length_drop]; simp; omega) (by rw [List.length_drop]; simp; omega)
def allR (l : List UInt8) (n : Nat) (ts : List Tk) : Ans := allGo (l.length + 1) l n ts
theorem allR_nil (n : Nat) (ts : List Tk) : allR [] n ts = ⟨ts, 0, 0⟩ := rfl
theorem allR_blank {c : UInt8} (r : List UInt8) (n : Nat) (ts : List Tk) (h : c.toNat = 32 ∨ c.toNat = 10) : allR (c :: r) n ts = allR r (n + 1) ts := by
 unfold allR
 conv => lhs; unfold allGo
 dsimp only;rw [if_pos h];exact allGo_fuel _ _ _ _ _ (by simp) (by omega)
theorem allR_remark {c : UInt8} (r : List UInt8) (n : Nat) (ts : List Tk) (h : c.toNat = 35) : allR (c :: r) n ts = allR (toLine r) (n + 1 + (r.length - (toLine r).length)) ts := by
 unfold allR
 conv => lhs; unfold allGo
 dsimp only;rw [if_neg (by omega), if_pos h];have := toLine_le r;exact allGo_fuel _ _ _ _ _ (by simp; omega) (by omega)
theorem allR_bad {c : UInt8} {r : List UInt8} {i e : Nat} (n : Nat) (ts : List Tk) (h1 : ¬ (c.toNat = 32 ∨ c.toNat = 10)) (h2 : c.toNat ≠ 35) (h : tokT (c :: r) = .bad i e) : allR (c :: r) n ts = ⟨[], n + i, e⟩ := by
 unfold allR allGo;dsimp only;rw [if_neg h1, if_neg h2, h]
theorem allR_tok {c : UInt8} {r : List UInt8} {kd : Nat} {tx : List UInt8} {x i : Nat} (n : Nat) (ts : List Tk) (h1 : ¬ (c.toNat = 32 ∨ c.toNat = 10)) (h2 : c.toNat ≠ 35) (h : tokT (c :: r) = .ok kd tx x i) : allR (c :: r) n ts = allR ((c :: r).drop i) (n + i) (ts ++ [⟨kd, tx, x, n⟩]) := by
 unfold allR
 conv => lhs; unfold allGo
 dsimp only;rw [if_neg h1, if_neg h2, h];dsimp only;have := tokT_pos h;exact allGo_fuel _ _ _ _ _ (by rw [List.length_drop]; simp; omega) (by omega)
def allT (s : List UInt8) : Ans := if 16384 < s.length then ⟨[], 0, 2⟩ else allR s 0 []
end Go.Proofs.YtjiemkidmlgbeaaGreatDoor.Tok
namespace Go.Proofs.YtjiemkidmlgbeaaGreatDoor
open Go.RowKit
def held (x : Int) : Int := if x < -9223372036854775808 then -9223372036854775808 else if 9223372036854775807 < x then 9223372036854775807 else x
def I64 (x : Int) : Prop := -9223372036854775808 ≤ x ∧ x ≤ 9223372036854775807
theorem ret_bool {a b : Bool} (h : a = b) : Ending.returned (.bool a) = .returned (.bool b) := by rw [h]
theorem exHid {α : Sort _} (x : α) : ∃ s, Hid (x = s) := ⟨x, rfl⟩
theorem below_next {w W w' : World} (h : Below w.heap.size w W) (hb : Below W.heap.size W w') : Below w.heap.size w w' := h.trans (hb.mono h.size)
theorem below_cells {W W' : World} (hb : Below W.heap.size W W') :
   (∀ b o, b < W.heap.size → W'.cell? ⟨b, o, none⟩ = W.cell? ⟨b, o, none⟩) ∧ (∀ b o, b < W.heap.size → W'.frozen? ⟨b, o, none⟩ = W.frozen? ⟨b, o, none⟩) :=
 ⟨fun b o h => hb.cell (p := ⟨b, o, none⟩) h, fun b o h => hb.frozen (p := ⟨b, o, none⟩) h⟩
end Go.Proofs.YtjiemkidmlgbeaaGreatDoor
namespace Go.Proofs.YtjiemkidmlgbeaaGreatDoor
open Go.RowKit
def kwL : List (List UInt8) := [
 [102, 108, 111, 119],
 [108, 101, 116],
 [105, 102],
 [101, 108, 115, 101],
 [119, 104, 105, 108, 101],
 [114, 101, 116, 117, 114, 110],
 [102, 97, 105, 108],
 [115, 108, 101, 101, 112],
 [100, 111],
 [110, 111, 110, 101],
 [116, 114, 117, 101],
 [102, 97, 108, 115, 101],
 [111, 114],
 [97, 110, 100],
 [110, 111, 116],
 [108, 101, 110],
 [110, 117, 109],
 [114, 101],
 [105, 109],
 [99, 111, 110, 106],
 [99, 97, 108, 108],
 [99, 104, 105, 108, 100],
 [116, 105, 109, 101, 114],
 [102, 111, 114, 107],
 [97, 119, 97, 105, 116],
 [115, 101, 116, 116, 108, 101],
 [116, 97, 107, 101],
 [118, 101, 114, 115, 105, 111, 110]]
def kwB (l : List UInt8) : Bool := kwL.any fun k => l == k
set_option maxRecDepth 20000 in
set_option maxHeartbeats 2000000 in
theorem keyword_any (s : ByteArray) (w : World) :
   Calls Tryz.prog 46 #[.string s] w fun e w' => e = .returned (.bool (kwB s.toList)) ∧ w = w' := by
 go_enter Tryz.func46, Tryz.ntmps46
 go_wp2
 all_goals first
   | (exfalso; simp_all; done)
   | (go_ret; exact ⟨ret_bool (by simp [kwB, kwL, *]), rfl⟩)
end Go.Proofs.YtjiemkidmlgbeaaGreatDoor
namespace Go.Proofs.YtjiemkidmlgbeaaGreatDoor
open Go.RowKit
structure Only (F : Nat → Prop) (w w' : World) : Prop where
 os : w'.os = w.os
 tape : w'.tape = w.tape
 output : w'.output = w.output
 size : w.heap.size ≤ w'.heap.size
 block : ∀ k, k < w.heap.size → ¬ F k → w'.heap[k]? = w.heap[k]?
theorem Only.refl (F : Nat → Prop) (w : World) : Only F w w := ⟨rfl, rfl, rfl, Nat.le_refl _, fun _ _ _ => rfl⟩
theorem Only.mono {F G : Nat → Prop} {w w' : World} (h : Only F w w') (hFG : ∀ k, k < w.heap.size → F k → G k) : Only G w w' :=
 ⟨h.os, h.tape, h.output, h.size, fun k hk hn => h.block k hk (fun hf => hn (hFG k hk hf))⟩
theorem Only.trans {F G K : Nat → Prop} {a b c : World} (h : Only F a b) (g : Only G b c) (hF : ∀ k, k < a.heap.size → F k → K k) (hG : ∀ k, k < a.heap.size → G k → K k) : Only K a c :=
 ⟨g.os.trans h.os, g.tape.trans h.tape, g.output.trans h.output, Nat.le_trans h.size g.size, fun k hk hn =>
   (g.block k (Nat.lt_of_lt_of_le hk h.size) (fun e => hn (hG k hk e))).trans (h.block k hk (fun e => hn (hF k hk e)))⟩
theorem Only.then {F : Nat → Prop} {a b c : World} (h : Only F a b) (g : Only F b c) : Only F a c := h.trans g (fun _ _ e => e) (fun _ _ e => e)
theorem Only.drew {F : Nat → Prop} {a w : World} (h : Only F a w) : Only F a w.drew := ⟨h.os, h.tape, h.output, h.size, h.block⟩
theorem Only.of_below {F : Nat → Prop} {w w' : World} (h : Below w.heap.size w w') : Only F w w' := ⟨h.os, h.tape, h.output, h.size, fun k hk _ => h.block k hk⟩
theorem Only.of_grown {F : Nat → Prop} {w w' : World} {row : Option Nat} (h : w.grownBy w' row) (hr : ∀ k, row = some k → F k) : Only F w w' :=
 ⟨h.os, h.tape, h.output, h.size, fun k hk hn => h.block k hk (fun e => hn (hr k e.symm))⟩
theorem Only.alloc {F : Nat → Prop} {a w : World} (h : Only F a w) (o : Obj) : Only F a (w.alloc o) :=
 h.then ⟨rfl, rfl, rfl, by simp, fun k hk _ => Below.heap_alloc _ _ _ hk⟩
theorem Only.setCell {F : Nat → Prop} {a w : World} (h : Only F a w) {p : Addr} (hp : F p.block ∨ a.heap.size ≤ p.block) (u : Value) : Only F a (w.setCell p u) :=
 ⟨h.os, h.tape, h.output, Nat.le_trans h.size (by simp [World.setCell]), fun k hk hn => (Below.heap_setCell _ _ _ _ (by intro e; subst e; rcases hp with hp | hp; exact hn hp; omega)).trans (h.block k hk hn)⟩
theorem Only.below {F : Nat → Prop} {B : Nat} {w w' : World} (h : Only F w w') (hB : B ≤ w.heap.size) (hF : ∀ k, k < B → ¬ F k) : Below B w w' :=
 ⟨h.os, h.tape, h.output, h.size, fun k hk => h.block k (by omega) (hF k hk)⟩
theorem Only.cell {F : Nat → Prop} {w w' : World} (h : Only F w w') {p : Addr} (hp : p.block < w.heap.size) (hn : ¬ F p.block) : w'.cell? p = w.cell? p := World.cell?_of_block (w := w) (h.block p.block hp hn)
theorem Below.keeps {w w' : World} (h : Below w.heap.size w w') {p : Addr} {v : Value} (hc : w.cell? p = some v) : w'.cell? p = some v :=
 (h.cell (World.block_lt_of_cell? w p hc)).trans hc
section
variable {α : Type}
def rowOf (enc : α → List Value) : List α → List Value
 | [] => []
 | x :: r => enc x ++ rowOf enc r
theorem rowOf_append (enc : α → List Value) : ∀ (a b : List α), rowOf enc (a ++ b) = rowOf enc a ++ rowOf enc b
 | [], _ => rfl
 | x :: r, b => by show enc x ++ rowOf enc (r ++ b) = (enc x ++ rowOf enc r) ++ rowOf enc b; rw [rowOf_append enc r b, List.append_assoc]
theorem rowOf_snoc (enc : α → List Value) (a : List α) (x : α) : rowOf enc (a ++ [x]) = rowOf enc a ++ enc x := by
 rw [rowOf_append]; show _ ++ (enc x ++ []) = _; rw [List.append_nil]
theorem rowOf_length {enc : α → List Value} {k : Nat} (hk : ∀ x, (enc x).length = k) : ∀ d : List α, (rowOf enc d).length = d.length * k
 | [] => by simp [rowOf]
 | x :: r => by show (enc x ++ rowOf enc r).length = _; rw [List.length_append, hk, rowOf_length hk r, List.length_cons, Nat.add_mul]; omega
theorem rowOf_get {enc : α → List Value} {k : Nat} (hk : ∀ x, (enc x).length = k) : ∀ (d : List α) (i j : Nat) (hi : i < d.length), j < k → (rowOf enc d)[i * k + j]? = (enc d[i])[j]?
 | [], i, _, hi, _ => by simp at hi
 | x :: r, 0, j, _, hj => by
   show (enc x ++ rowOf enc r)[0 * k + j]? = _
   rw [List.getElem?_append_left (by rw [hk]; omega)];simp
 | x :: r, i + 1, j, hi, hj => by
   show (enc x ++ rowOf enc r)[(i + 1) * k + j]? = _
   rw [List.getElem?_append_right (by rw [hk, Nat.add_mul]; omega), hk];have := rowOf_get hk r i j (by simpa using hi) hj;rw [show (i + 1) * k + j - k = i * k + j by rw [Nat.add_mul]; omega, this];simp
end
section
variable {w : World} {base : Nat} {e : TypeId} {k g cap : Nat}
theorem ownsRow_shape {n : Nat} {v : Value} {xs : List Value} (h : w.ownsRow base e k v n xs) : ∃ a cap, v = .slice a n cap ∧ n ≤ cap ∧ cap ≤ 9223372036854775807 := by
 obtain ⟨_, hcase⟩ := h;rcases hcase with ⟨hv, h0⟩ | ⟨g, cap, cur, hv, hg, hh, hnc, hcm, hsz, _⟩
 · subst h0; exact ⟨_, _, hv, by omega, by omega⟩
 · exact ⟨_, _, hv, hnc, hcm⟩
theorem ownsRow_only {F : Nat → Prop} {w' : World} {v : Value} {n : Nat} {xs : List Value} (h : w.ownsRow base e k v n xs) (ho : Only F w w') (hne : ∀ g, v.ownBlock = some g → ¬ F g) : w'.ownsRow base e k v n xs := by
 refine ⟨h.1, ?_⟩;rcases h.2 with hn | ⟨g, cap, cur, rfl, hb, hgg, rest⟩
 · exact .inl hn
 · exact .inr ⟨g, cap, cur, rfl, hb, (ho.block g (Array.getElem?_eq_some_iff.1 hgg).1 (hne g rfl)).trans hgg, rest⟩
theorem ownsRow_base {base' : Nat} {v : Value} {n : Nat} {xs : List Value} (h : w.ownsRow base e k v n xs) (hb : ∀ g, v.ownBlock = some g → base' ≤ g) : w.ownsRow base' e k v n xs := by
 refine ⟨h.1, ?_⟩;rcases h.2 with hn | ⟨g, cap, cur, rfl, _, rest⟩
 · exact .inl hn
 · exact .inr ⟨g, cap, cur, rfl, hb g rfl, rest⟩
end
end Go.Proofs.YtjiemkidmlgbeaaGreatDoor
namespace Go.Proofs.YtjiemkidmlgbeaaGreatDoor
open Go.RowKit Go.MapKept
def lookL : List (Nat × Value) → Nat → Option Value
 | [], _ => none
 | p :: r, k => if p.1 = k then some p.2 else lookL r k
def KMap (w : World) (b : Nat) (L : List (Nat × Value)) : Prop :=
 ∃ es clock, w.heap[b]? = some (.map es clock) ∧ es.toList.map (fun e => (e.key, e.val)) = L.map fun p => (Value.int .u8 (p.1 : Int), p.2)
theorem find_look (k : Nat) : ∀ (es : List MapEntry) (L : List (Nat × Value)) (i : Nat), es.map (fun e => (e.key, e.val)) = L.map (fun p => (Value.int .u8 (p.1 : Int), p.2)) →
   match lookL L k with
   | none => Instr.findNow (.int .u8) (.int .u8 (k : Int)) es i = some none
   | some v => ∃ j, Instr.findNow (.int .u8) (.int .u8 (k : Int)) es i = some (some (j, v))
 | [], [], _, _ => rfl
 | [], _ :: _, _, h => by simp at h
 | _ :: _, [], _, h => by simp at h
 | e :: es, p :: L, i, h => by
   simp only [List.map_cons, List.cons.injEq, Prod.mk.injEq] at h;obtain ⟨⟨hk, hv⟩, hr⟩ := h;have ih := find_look k es L (i + 1) hr;unfold lookL;by_cases hp : p.1 = k
   · rw [if_pos hp]
     refine ⟨i, ?_⟩;simp [Instr.findNow, Instr.sameNow, hk, hv, hp]
   · rw [if_neg hp]
     have hne : ((k : Int) == (p.1 : Int)) = false := beq_eq_false_iff_ne.2 (by omega);simp only [Instr.findNow, Instr.sameNow, hk, hne];exact ih
section
variable {P : Program} {w : World} {b : Nat} {L : List (Nat × Value)}
theorem KMap.made (w : World) : KMap (w.alloc (.map #[] 0)) w.heap.size [] := ⟨#[], 0, heap_alloc_new w _, rfl⟩
theorem KMap.lt (h : KMap w b L) : b < w.heap.size := by obtain ⟨es, c, h, _⟩ := h; exact (Array.getElem?_eq_some_iff.1 h).1
theorem KMap.below {W : World} {B : Nat} (h : KMap w b L) (hb : Below B w W) (hB : b < B) : KMap W b L := by
 obtain ⟨es, c, h1, h2⟩ := h;exact ⟨es, c, (hb.block b hB).trans h1, h2⟩
theorem KMap.only {W : World} {F : Nat → Prop} (h : KMap w b L) (ho : Only F w W) (hF : ¬ F b) : KMap W b L := by
 obtain ⟨es, c, h1, h2⟩ := h;exact ⟨es, c, (ho.block b (Array.getElem?_eq_some_iff.1 h1).1 hF).trans h1, h2⟩
theorem KMap.look {k e t : TypeId} {z : Value} (h : KMap w b L) (hk : P.underlying k = some (.int .u8)) (ht : P.underlying t = some (.map k e)) (hz : (zeroValue e).run P w = .ok z w) (x : Nat) :
   (Instr.lookup t (.map (some b)) (.int .u8 (x : Int)) true).run P w = .ok (.tuple #[(lookL L x).getD z, .bool (lookL L x).isSome]) w := by
 obtain ⟨es, clock, hb, he⟩ := h;have hf := find_look x es.toList L 0 he;have hc := fun e => Go.MapKept.run_checkKey (P := P) (w := w) (k := .int .u8 (x : Int)) hk (by simp [IsKey]) e 9999
 cases hl : lookL L x with
 | none =>
   rw [hl] at hf;have h2 := Go.MapKept.run_findKey (w := w) hk hf;simp [Instr.lookup, run_underlying ht, Go.MapKept.run_getObj_map hb, hc, h2, hz, Result.andThen]
 | some v =>
   rw [hl] at hf;obtain ⟨j, hf⟩ := hf;have h2 := Go.MapKept.run_findKey (w := w) hk hf;simp [Instr.lookup, run_underlying ht, Go.MapKept.run_getObj_map hb, hc, h2, Result.andThen]
theorem KMap.put {k e t : TypeId} (h : KMap w b L) (hk : P.underlying k = some (.int .u8)) (ht : P.underlying t = some (.map k e)) (x : Nat) (v : Value) (hn : lookL L x = none) :
   ∃ w', (Instr.mapUpdate t (.map (some b)) (.int .u8 (x : Int)) v).run P w = .ok () w' ∧ KMap w' b (L ++ [(x, v)]) ∧ Only (fun k => k = b) w w' := by
 obtain ⟨es, clock, hb, he⟩ := h;have hf := find_look x es.toList L 0 he;rw [hn] at hf;have hc := fun e => Go.MapKept.run_checkKey (P := P) (w := w) (k := .int .u8 (x : Int)) hk (by simp [IsKey]) e 9999
 have h2 := Go.MapKept.run_findKey (w := w) hk hf;have hlt := (Array.getElem?_eq_some_iff.1 hb).1;refine ⟨_, by simp [Instr.mapUpdate, run_underlying ht, Go.MapKept.run_getObj_map hb, hc, h2, Go.MapKept.run_setObj_map _ hb, Result.andThen]; rfl, ⟨es.push { key := .int .u8 (x : Int), val := v, born := clock }, clock + 1, ?_, ?_⟩, ?_⟩
 · simp [hlt]
 · simp [he]
 · exact ⟨rfl, rfl, rfl, by simp, fun j hj hne => by simp [Ne.symm hne]⟩
end
section
variable {P : Program} {w : World} {ops : Array Oper} {rest : List Oper} {o : Oper} {a : Act} {Q : Exit → Act → World → Prop} {b : Nat} {L : List (Nat × Value)}
theorem wpList_put_k (hg : o.guard = none) (m x v : Operand) (t k e : TypeId) (hop : o.op = Op.mapUpdate t m x v ∨ o.op = Op.insert t m x v)
   (hk : P.underlying k = some (.int .u8)) (ht : P.underlying t = some (.map k e)) (h : KMap w b L) (key : Nat) (u : Value) (hm : a.eval m = .map (some b)) (hx : a.eval x = .int .u8 (key : Int)) (hv : a.eval v = u) (hn : lookL L key = none)
   (hK : ∀ w', KMap w' b (L ++ [(key, u)]) → Only (fun k => k = b) w w' → wpList P ops Q rest (a.put o.dst undef) w') :
   wpList P ops Q (o :: rest) a w := by
 refine wpList_plain hg fun K' hK' => ?_
 obtain ⟨w', hrun, r1, r2⟩ := h.put hk ht key u hn;unfold Oper.wp;rcases hop with hop | hop
 all_goals
   simp [execOp, hop, hm, hx, hv, hrun, Result.andThen]
   exact hK' _ _ (hK w' r1 r2)
end
end Go.Proofs.YtjiemkidmlgbeaaGreatDoor
