/-
  Contract: strconv.FormatInt at base 10 answers the digits of a number; of what was there nothing is changed. Condition: the library's table of powers of ten reads as the program lays it.
-/
import Derived.Shelf.Strings.Builder1
import Derived.Shelf.Strings.Builder2
import Derived.Shelf.Strings.OnBuilder
import Derived.Shelf.Small.Wraps
import Derived.Shelf.Strings.BuilderF
import Derived.Shelf.Strings.BuilderK
import Derived.Shelf.Strconv.Itoa0
import Derived.Shelf.Strconv.Itoa1
import Derived.Shelf.LaysM
import Derived.Shelf.Strconv.Itoa2
import Derived.Shelf.Strconv.Itoa3
import Derived.Shelf.Strconv.Itoa4
import Derived.Shelf.Strconv.ParseIntEmpty
import Derived.Shelf.Strconv.Clone
import Derived.Shelf.Strconv.SyntaxError
import Derived.Shelf.LaysC
import Derived.Shelf.Strconv.ToError
import Derived.Shelf.Strconv.Lower
import Derived.Shelf.Strconv.ParseUint10
import Derived.Shelf.Strconv.ParseUint10Empty
import Derived.Shelf.Strconv.ParseUint10Any
import Derived.Shelf.Strconv.ParseInt10
import Derived.Shelf.Strconv.RangeError
import Derived.Shelf.Strconv.ToErrorRange
import Derived.Shelf.Strconv.ParseUintEmpty
import Derived.Shelf.Strconv.ParseUint10b64
import Derived.Shelf.Strconv.ParseUint10b32
import Derived.Shelf.Strconv.ParseUint10b16
import Derived.Shelf.Strconv.ParseUint10b8
import Derived.Shelf.Strconv.ParseUint10At
import Derived.Shelf.Strconv.ParseInt10At64
import Derived.Shelf.Strconv.ParseInt10At32
import Derived.Shelf.Strconv.ParseInt10At16
import Derived.Shelf.Strconv.ParseInt10At8
import Derived.Shelf.Strconv.ParseInt10All
import Derived.Shelf.Strconv.ParseIntPublic10
import Derived.Shelf.Strconv.ErrVarParseInt
import Derived.Shelf.Strings.Search1
import Derived.Shelf.Strings.Search2
import Derived.Shelf.Strings.Search3
import Derived.Shelf.Strings.Cut
import Derived.Shelf.Strings.Count
import Derived.Shelf.Strings.Shaped
import Derived.Shelf.Strings.Prefix
import Derived.Shelf.Strings.Split
import Derived.Shelf.Strings.SplitShaped
import Derived.Test.YtmembhpoidcmlaaGreatDoorProg
import Derived.Test.YtmembhpoidcmlaaGreatDoorRows
import Derived.Test.YtmembhpoidcmlaaGreatDoorDec
import Derived.Lib.AppendIntMem
namespace Go.Proofs
open Go.Shelf
def Tryz.lays169_ren:Go.Shelf.Ren:=⟨fun | 169=>65 | n=>n,fun | 70=>99 | 9=>9 | 0=>0 | 72=>101 | 37=>22 | 127=>138 | 3=>3 | 5=>5 | n=>n,fun | n=>n⟩
def Tryz.lays241_ren:Go.Shelf.Ren:=⟨fun | 241=>87 | 277=>107 | n=>n,fun | 70=>99 | 3=>3 | 0=>0 | 72=>101 | 37=>22 | 5=>5 | n=>n,fun | n=>n⟩
def Tryz.lays165_ren:Go.Shelf.Ren:=⟨fun | 165=>63 | 240=>86 | 241=>87 | 276=>106 | 277=>107 | n=>n,fun | 70=>99 | 3=>3 | 0=>0 | 4=>4 | 9=>9 | 20=>20 | 72=>101 | 37=>22 | 164=>147 | 5=>5 | n=>n,fun | n=>n⟩
def Tryz.lays156_ren:Go.Shelf.Ren:=⟨fun | 156=>32 | 165=>63 | 166=>64 | 169=>65 | 240=>86 | 241=>87 | 276=>106 | 277=>107 | n=>n,fun | 31=>48 | 9=>9 | 3=>3 | 4=>4 | 0=>0 | 20=>20 | 72=>101 | 76=>103 | 70=>99 | 37=>22 | 75=>61 | 127=>138 | 164=>147 | 5=>5 | 80=>70 | n=>n,fun | n=>n⟩
def Tryz.lays210_ren:Go.Shelf.Ren:=⟨fun | 210=>151 | 206=>163 | n=>n,fun | 9=>9 | 4=>4 | 3=>3 | n=>n,fun | n=>n⟩
def Tryz.lays103_ren:Go.Shelf.Ren:=⟨fun | 103=>134 | 210=>151 | 206=>163 | n=>n,fun | 9=>9 | 4=>4 | 24=>199 | 3=>3 | n=>n,fun | n=>n⟩
def Tryz.lays211_ren:Go.Shelf.Ren:=⟨fun | 211=>150 | 207=>119 | n=>n,fun | 9=>9 | 4=>4 | 3=>3 | n=>n,fun | n=>n⟩
def Tryz.lays104_ren:Go.Shelf.Ren:=⟨fun | 104=>133 | 211=>150 | 207=>119 | n=>n,fun | 9=>9 | 4=>4 | 24=>199 | 3=>3 | n=>n,fun | n=>n⟩
def Tryz.lays129_ren:Go.Shelf.Ren:=⟨fun | 129=>153 | n=>n,fun | 53=>105 | 3=>3 | 4=>4 | 46=>109 | 5=>5 | 9=>9 | n=>n,fun | n=>n⟩
def Tryz.lays317_ren:Go.Shelf.Ren:=⟨fun | 317=>152 | n=>n,fun | 3=>3 | 46=>109 | n=>n,fun | n=>n⟩
def Tryz.lays318_ren:Go.Shelf.Ren:=⟨fun | 318=>154 | n=>n,fun | 3=>3 | 4=>4 | n=>n,fun | n=>n⟩
def Tryz.lays283_ren:Go.Shelf.Ren:=⟨fun | 283=>135 | n=>n,fun | 3=>3 | 9=>9 | 4=>4 | n=>n,fun | n=>n⟩
def Tryz.laysM284_ren:Go.Shelf.Ren:=⟨fun | 284=>136 | 129=>153 | 317=>152 | 318=>154 | n=>n,fun | 53=>105 | 3=>3 | 212=>215 | 0=>0 | 4=>4 | 46=>109 | 5=>5 | 9=>9 | n=>n,fun | 17=>2 | n=>n⟩
def Tryz.lays285_ren:Go.Shelf.Ren:=⟨fun | 285=>137 | n=>n,fun | 37=>22 | 53=>105 | 3=>3 | 4=>4 | 51=>216 | 9=>9 | 5=>5 | 0=>0 | n=>n,fun | n=>n⟩
def Tryz.laysM246_ren:Go.Shelf.Ren:=⟨fun | 246=>124 | 283=>135 | 284=>136 | 285=>137 | 286=>138 | 129=>153 | 317=>152 | 318=>154 | 319=>155 | 320=>156 | 337=>164 | 338=>165 | n=>n,fun | 2=>2 | 3=>3 | 9=>9 | 4=>4 | 171=>202 | 0=>0 | 53=>105 | 37=>22 | 5=>5 | 173=>205 | 212=>215 | 51=>216 | 20=>20 | 213=>217 | 46=>109 | 232=>234 | 233=>235 | n=>n,fun | 17=>2 | 18=>7 | 19=>8 | n=>n⟩
def Tryz.lays246_ren:Go.Shelf.Ren:=⟨fun | 246=>124 | 283=>135 | 284=>136 | 285=>137 | 286=>138 | 129=>153 | 317=>152 | 318=>154 | 319=>155 | 320=>156 | 337=>164 | 338=>165 | n=>n,fun | 2=>2 | 3=>3 | 9=>9 | 4=>4 | 171=>202 | 0=>0 | 53=>105 | 37=>22 | 5=>5 | 173=>205 | 212=>215 | 51=>216 | 20=>20 | 213=>217 | 46=>109 | 232=>234 | 233=>235 | n=>n,fun | 17=>2 | 18=>7 | 19=>8 | n=>n⟩
def Tryz.laysM243_ren:Go.Shelf.Ren:=⟨fun | 243=>166 | 246=>124 | 283=>135 | 284=>136 | 285=>137 | 286=>138 | 129=>153 | 317=>152 | 318=>154 | 319=>155 | 320=>156 | 337=>164 | 338=>165 | n=>n,fun | 3=>3 | 9=>9 | 2=>2 | 4=>4 | 171=>202 | 0=>0 | 53=>105 | 37=>22 | 5=>5 | 173=>205 | 212=>215 | 51=>216 | 20=>20 | 213=>217 | 46=>109 | 232=>234 | 233=>235 | n=>n,fun | 17=>2 | 18=>7 | 19=>8 | n=>n⟩
def Tryz.lays243_ren:Go.Shelf.Ren:=⟨fun | 243=>166 | 246=>124 | 283=>135 | 284=>136 | 285=>137 | 286=>138 | 129=>153 | 317=>152 | 318=>154 | 319=>155 | 320=>156 | 337=>164 | 338=>165 | n=>n,fun | 3=>3 | 9=>9 | 2=>2 | 4=>4 | 171=>202 | 0=>0 | 53=>105 | 37=>22 | 5=>5 | 173=>205 | 212=>215 | 51=>216 | 20=>20 | 213=>217 | 46=>109 | 232=>234 | 233=>235 | n=>n,fun | 17=>2 | 18=>7 | 19=>8 | n=>n⟩
def Tryz.laysM171_ren:Go.Shelf.Ren:=⟨fun | 171=>162 | 243=>166 | 246=>124 | 283=>135 | 284=>136 | 285=>137 | 286=>138 | 129=>153 | 317=>152 | 318=>154 | 319=>155 | 320=>156 | 337=>164 | 338=>165 | n=>n,fun | 3=>3 | 9=>9 | 2=>2 | 4=>4 | 171=>202 | 0=>0 | 53=>105 | 37=>22 | 5=>5 | 173=>205 | 212=>215 | 51=>216 | 20=>20 | 213=>217 | 46=>109 | 232=>234 | 233=>235 | n=>n,fun | 17=>2 | 18=>7 | 19=>8 | n=>n⟩
def Tryz.lays171_ren:Go.Shelf.Ren:=⟨fun | 171=>162 | 243=>166 | 246=>124 | 283=>135 | 284=>136 | 285=>137 | 286=>138 | 129=>153 | 317=>152 | 318=>154 | 319=>155 | 320=>156 | 337=>164 | 338=>165 | n=>n,fun | 3=>3 | 9=>9 | 2=>2 | 4=>4 | 171=>202 | 0=>0 | 53=>105 | 37=>22 | 5=>5 | 173=>205 | 212=>215 | 51=>216 | 20=>20 | 213=>217 | 46=>109 | 232=>234 | 233=>235 | n=>n,fun | 17=>2 | 18=>7 | 19=>8 | n=>n⟩
def Tryz.laysM173_ren:Go.Shelf.Ren:=⟨fun | 173=>105 | 246=>124 | 283=>135 | 284=>136 | 285=>137 | 286=>138 | 129=>153 | 317=>152 | 318=>154 | 319=>155 | 320=>156 | 337=>164 | 338=>165 | n=>n,fun | 2=>2 | 3=>3 | 9=>9 | 4=>4 | 171=>202 | 0=>0 | 53=>105 | 37=>22 | 5=>5 | 173=>205 | 212=>215 | 51=>216 | 20=>20 | 213=>217 | 46=>109 | 232=>234 | 233=>235 | n=>n,fun | 17=>2 | 18=>7 | 19=>8 | n=>n⟩
def Tryz.lays173_ren:Go.Shelf.Ren:=⟨fun | 173=>105 | 246=>124 | 283=>135 | 284=>136 | 285=>137 | 286=>138 | 129=>153 | 317=>152 | 318=>154 | 319=>155 | 320=>156 | 337=>164 | 338=>165 | n=>n,fun | 2=>2 | 3=>3 | 9=>9 | 4=>4 | 171=>202 | 0=>0 | 53=>105 | 37=>22 | 5=>5 | 173=>205 | 212=>215 | 51=>216 | 20=>20 | 213=>217 | 46=>109 | 232=>234 | 233=>235 | n=>n,fun | 17=>2 | 18=>7 | 19=>8 | n=>n⟩
def Tryz.lays247_ren:Go.Shelf.Ren:=⟨fun | 247=>131 | 287=>145 | 321=>159 | 322=>160 | n=>n,fun | 9=>9 | 3=>3 | 2=>2 | 75=>61 | 4=>4 | 167=>208 | 5=>5 | 53=>105 | 175=>209 | 46=>109 | 37=>22 | 0=>0 | 21=>21 | 80=>70 | n=>n,fun | n=>n⟩
def Tryz.laysM316_ren:Go.Shelf.Ren:=⟨fun | 316=>92 | n=>n,fun | 9=>9 | 3=>3 | 4=>4 | 37=>22 | 0=>0 | 127=>138 | 5=>5 | n=>n,fun | n=>n⟩
def Tryz.laysM279_ren:Go.Shelf.Ren:=⟨fun | 279=>146 | 316=>92 | n=>n,fun | 9=>9 | 168=>211 | 75=>61 | 210=>228 | 3=>3 | 4=>4 | 37=>22 | 0=>0 | 127=>138 | 80=>70 | 5=>5 | n=>n,fun | 15=>5 | n=>n⟩
def Tryz.laysC245_ren:Go.Shelf.Ren:=⟨fun | 245=>132 | 279=>146 | 280=>147 | 281=>148 | 282=>149 | 316=>92 | 171=>162 | 205=>161 | 243=>166 | 246=>124 | 283=>135 | 284=>136 | 285=>137 | 286=>138 | 129=>153 | 317=>152 | 318=>154 | 319=>155 | 320=>156 | 337=>164 | 338=>165 | n=>n,fun | 9=>9 | 3=>3 | 75=>61 | 167=>208 | 4=>4 | 168=>211 | 210=>228 | 37=>22 | 0=>0 | 127=>138 | 145=>233 | 143=>231 | 2=>2 | 171=>202 | 53=>105 | 5=>5 | 173=>205 | 212=>215 | 51=>216 | 20=>20 | 213=>217 | 46=>109 | 232=>234 | 233=>235 | 80=>70 | n=>n,fun | 15=>5 | 16=>6 | 17=>2 | 18=>7 | 19=>8 | n=>n⟩
def Tryz.lays321_ren:Go.Shelf.Ren:=⟨fun | 321=>159 | n=>n,fun | 5=>5 | n=>n,fun | n=>n⟩
def Tryz.lays287_ren:Go.Shelf.Ren:=⟨fun | 287=>145 | 321=>159 | 322=>160 | n=>n,fun | 9=>9 | 3=>3 | 53=>105 | 75=>61 | 4=>4 | 167=>208 | 5=>5 | 46=>109 | 37=>22 | 0=>0 | 21=>21 | 80=>70 | n=>n,fun | n=>n⟩
def Tryz.laysC247_ren:Go.Shelf.Ren:=⟨fun | 247=>131 | 287=>145 | 321=>159 | 322=>160 | n=>n,fun | 9=>9 | 3=>3 | 2=>2 | 75=>61 | 4=>4 | 167=>208 | 5=>5 | 53=>105 | 175=>209 | 46=>109 | 37=>22 | 0=>0 | 21=>21 | 80=>70 | n=>n,fun | n=>n⟩
def Tryz.laysM280_ren:Go.Shelf.Ren:=⟨fun | 280=>147 | 316=>92 | n=>n,fun | 9=>9 | 168=>211 | 75=>61 | 210=>228 | 3=>3 | 4=>4 | 37=>22 | 0=>0 | 127=>138 | 80=>70 | 5=>5 | n=>n,fun | 16=>6 | n=>n⟩
def Tryz.laysC174_ren:Go.Shelf.Ren:=⟨fun | 174=>121 | 247=>131 | 245=>132 | 287=>145 | 279=>146 | 280=>147 | 281=>148 | 282=>149 | 321=>159 | 322=>160 | 316=>92 | 171=>162 | 205=>161 | 243=>166 | 246=>124 | 283=>135 | 284=>136 | 285=>137 | 286=>138 | 129=>153 | 317=>152 | 318=>154 | 319=>155 | 320=>156 | 337=>164 | 338=>165 | n=>n,fun | 9=>9 | 3=>3 | 2=>2 | 75=>61 | 85=>191 | 4=>4 | 167=>208 | 5=>5 | 53=>105 | 175=>209 | 46=>109 | 168=>211 | 37=>22 | 0=>0 | 210=>228 | 21=>21 | 127=>138 | 145=>233 | 143=>231 | 171=>202 | 173=>205 | 212=>215 | 51=>216 | 20=>20 | 213=>217 | 232=>234 | 233=>235 | 80=>70 | n=>n,fun | 15=>5 | 16=>6 | 17=>2 | 18=>7 | 19=>8 | n=>n⟩
def Tryz.lays217_ren:Go.Shelf.Ren:=⟨fun | 217=>140 | 266=>157 | n=>n,fun | 9=>9 | 5=>5 | 3=>3 | n=>n,fun | n=>n⟩
def Tryz.lays224_ren:Go.Shelf.Ren:=⟨fun | 224=>142 | n=>n,fun | 3=>3 | n=>n,fun | n=>n⟩
def Tryz.lays314_ren:Go.Shelf.Ren:=⟨fun | 314=>158 | n=>n,fun | 9=>9 | 51=>216 | 3=>3 | 4=>4 | 5=>5 | 46=>109 | n=>n,fun | n=>n⟩
def Tryz.lays267_ren:Go.Shelf.Ren:=⟨fun | 267=>143 | 314=>158 | n=>n,fun | 9=>9 | 3=>3 | 146=>224 | 51=>216 | 4=>4 | 5=>5 | 46=>109 | n=>n,fun | n=>n⟩
def Tryz.lays219_ren:Go.Shelf.Ren:=⟨fun | 219=>128 | 217=>140 | 225=>141 | 224=>142 | 267=>143 | 266=>157 | 314=>158 | n=>n,fun | 9=>9 | 3=>3 | 4=>4 | 5=>5 | 46=>109 | 146=>224 | 51=>216 | n=>n,fun | 1=>1 | n=>n⟩
def Tryz.lays143_ren:Go.Shelf.Ren:=⟨fun | 143=>112 | 219=>128 | 217=>140 | 225=>141 | 224=>142 | 267=>143 | 266=>157 | 314=>158 | n=>n,fun | 9=>9 | 3=>3 | 4=>4 | 5=>5 | 46=>109 | 146=>224 | 51=>216 | n=>n,fun | 1=>1 | n=>n⟩
def Tryz.lays220_ren:Go.Shelf.Ren:=⟨fun | 220=>120 | 219=>128 | 217=>140 | 225=>141 | 224=>142 | 267=>143 | 266=>157 | 314=>158 | n=>n,fun | 9=>9 | 4=>4 | 3=>3 | 5=>5 | 46=>109 | 146=>224 | 51=>216 | n=>n,fun | 1=>1 | n=>n⟩
def Tryz.lays145_ren:Go.Shelf.Ren:=⟨fun | 145=>100 | 220=>120 | 219=>128 | 217=>140 | 225=>141 | 224=>142 | 267=>143 | 266=>157 | 314=>158 | n=>n,fun | 9=>9 | 4=>4 | 59=>163 | 3=>3 | 5=>5 | 46=>109 | 146=>224 | 51=>216 | n=>n,fun | 1=>1 | n=>n⟩
def Tryz.lays138_ren:Go.Shelf.Ren:=⟨fun | 138=>111 | 195=>125 | 218=>127 | 143=>112 | 219=>128 | 217=>140 | 225=>141 | 224=>142 | 267=>143 | 266=>157 | 314=>158 | n=>n,fun | 9=>9 | 3=>3 | 4=>4 | 5=>5 | 0=>0 | 46=>109 | 146=>224 | 51=>216 | n=>n,fun | 1=>1 | n=>n⟩
def Tryz.laysM219_ren:Go.Shelf.Ren:=⟨fun | 219=>128 | 217=>140 | 225=>141 | 224=>142 | 267=>143 | 266=>157 | 314=>158 | n=>n,fun | 9=>9 | 3=>3 | 4=>4 | 5=>5 | 46=>109 | 146=>224 | 51=>216 | n=>n,fun | 1=>1 | n=>n⟩
def Tryz.laysM143_ren:Go.Shelf.Ren:=⟨fun | 143=>112 | 219=>128 | 217=>140 | 225=>141 | 224=>142 | 267=>143 | 266=>157 | 314=>158 | n=>n,fun | 9=>9 | 3=>3 | 4=>4 | 5=>5 | 46=>109 | 146=>224 | 51=>216 | n=>n,fun | 1=>1 | n=>n⟩
def Tryz.laysM220_ren:Go.Shelf.Ren:=⟨fun | 220=>120 | 219=>128 | 217=>140 | 225=>141 | 224=>142 | 267=>143 | 266=>157 | 314=>158 | n=>n,fun | 9=>9 | 4=>4 | 3=>3 | 5=>5 | 46=>109 | 146=>224 | 51=>216 | n=>n,fun | 1=>1 | n=>n⟩
def Tryz.laysM145_ren:Go.Shelf.Ren:=⟨fun | 145=>100 | 220=>120 | 219=>128 | 217=>140 | 225=>141 | 224=>142 | 267=>143 | 266=>157 | 314=>158 | n=>n,fun | 9=>9 | 4=>4 | 59=>163 | 3=>3 | 5=>5 | 46=>109 | 146=>224 | 51=>216 | n=>n,fun | 1=>1 | n=>n⟩
def Tryz.laysM138_ren:Go.Shelf.Ren:=⟨fun | 138=>111 | 195=>125 | 218=>127 | 143=>112 | 219=>128 | 217=>140 | 225=>141 | 224=>142 | 267=>143 | 266=>157 | 314=>158 | n=>n,fun | 9=>9 | 3=>3 | 4=>4 | 5=>5 | 0=>0 | 46=>109 | 146=>224 | 51=>216 | n=>n,fun | 1=>1 | n=>n⟩
def Tryz.lays206_ren:Go.Shelf.Ren:=⟨fun | 206=>163 | n=>n,fun | 9=>9 | 4=>4 | 3=>3 | n=>n,fun | n=>n⟩
def Tryz.lays207_ren:Go.Shelf.Ren:=⟨fun | 207=>119 | n=>n,fun | 9=>9 | 4=>4 | 3=>3 | n=>n,fun | n=>n⟩
def Tryz.lays209_ren:Go.Shelf.Ren:=⟨fun | 209=>99 | 207=>119 | n=>n,fun | 9=>9 | 4=>4 | 3=>3 | n=>n,fun | n=>n⟩
def Tryz.lays102_ren:Go.Shelf.Ren:=⟨fun | 102=>74 | 209=>99 | 207=>119 | n=>n,fun | 9=>9 | 4=>4 | 3=>3 | n=>n,fun | n=>n⟩
def Tryz.lays221_ren:Go.Shelf.Ren:=⟨fun | 221=>91 | 268=>110 | 138=>111 | 143=>112 | 195=>125 | 197=>126 | 218=>127 | 219=>128 | 260=>139 | 217=>140 | 225=>141 | 224=>142 | 267=>143 | 266=>157 | 314=>158 | n=>n,fun | 9=>9 | 3=>3 | 31=>48 | 4=>4 | 0=>0 | 105=>195 | 21=>21 | 5=>5 | 46=>109 | 119=>220 | 139=>223 | 138=>222 | 146=>224 | 51=>216 | n=>n,fun | 1=>1 | 3=>3 | 4=>4 | n=>n⟩
def Tryz.lays146_ren:Go.Shelf.Ren:=⟨fun | 146=>68 | 221=>91 | 268=>110 | 138=>111 | 143=>112 | 195=>125 | 197=>126 | 218=>127 | 219=>128 | 260=>139 | 217=>140 | 225=>141 | 224=>142 | 267=>143 | 266=>157 | 314=>158 | n=>n,fun | 9=>9 | 31=>48 | 3=>3 | 4=>4 | 0=>0 | 105=>195 | 21=>21 | 5=>5 | 46=>109 | 119=>220 | 139=>223 | 138=>222 | 146=>224 | 51=>216 | n=>n,fun | 1=>1 | 3=>3 | 4=>4 | n=>n⟩
def Tryz.laysM146_ren:Go.Shelf.Ren:=⟨fun | 146=>68 | 221=>91 | 268=>110 | 138=>111 | 143=>112 | 195=>125 | 197=>126 | 218=>127 | 219=>128 | 260=>139 | 217=>140 | 225=>141 | 224=>142 | 267=>143 | 266=>157 | 314=>158 | n=>n,fun | 9=>9 | 31=>48 | 3=>3 | 4=>4 | 0=>0 | 105=>195 | 21=>21 | 5=>5 | 46=>109 | 119=>220 | 139=>223 | 138=>222 | 146=>224 | 51=>216 | n=>n,fun | 1=>1 | 3=>3 | 4=>4 | n=>n⟩
end Go.Proofs

namespace Go.Proofs.YtmembhpoidcmlaaGreatDoor.Decs
open Go.RowKit
set_option linter.unusedVariables false
def Pow (B : Nat) (w : World) : Prop := Lib.TabBelow Tryz.prog B w "internal/strconv.uint64pow10" .u64 Lib.pow10Tab
theorem Pow.on {B:Nat} {w w1:World}(h:Pow B w)(hb:Below B w w1):Pow B w1:=Lib.TabBelow.on h hb
theorem Pow.mono {B C:Nat} {w:World}(h:Pow B w)(hB:B≤C):Pow C w:=fun w' hb=>h w'(hb.mono hB)
theorem Pow.over {B:Nat} {w w1:World}(h:Pow B w)(hB:B≤w.heap.size)(hb:Below w.heap.size w w1):Pow B w1:=h.on(hb.mono hB)
theorem decDigits_decL:∀ (n m:Nat),n < m→Lib.decDigits n=decL n:=by
 intro n m
 induction m generalizing n with
 | zero=>intro h;omega
 | succ m ih =>
  intro h
  rw [Lib.decDigits]
  by_cases hn:n < 10
  ·rw [dif_pos hn,decL_small hn]
  ·rw [dif_neg hn,decL_big(by omega),ih(n / 10)(by omega)]
theorem itoa_decB(f:Int):(⟨(Lib.itoa f).toArray⟩:ByteArray)=decB f:=by
 unfold Lib.itoa decB
 by_cases h:f < 0
 ·rw [if_pos h,if_pos h,decDigits_decL _ _(Nat.lt_succ_self _)];rfl
 ·rw [if_neg h,if_neg h,decDigits_decL _ _(Nat.lt_succ_self _),show f.natAbs=f.toNat by omega];rfl
theorem fmtInt(f:Int)(h0:-9223372036854775808≤f)(h1:f≤9223372036854775807)(B:Nat)(w:World)(hp:Pow B w) :
  Calls Tryz.prog 105 #[.int .i64 f,.int .i64 10] w fun e w'=>e=.returned(.string(decB f))∧Below w.heap.size w w':=by
 refine(Tryz.strconv_FormatInt_10 f h0 h1 w(Lib.TabBelow.here hp)).mono ?_
 rintro e w'⟨rfl,k,os,rfl⟩
 exact⟨ret_string(itoa_decB f),Lib.below_grow _ w(Nat.le_refl _)k os⟩
end Go.Proofs.YtmembhpoidcmlaaGreatDoor.Decs
