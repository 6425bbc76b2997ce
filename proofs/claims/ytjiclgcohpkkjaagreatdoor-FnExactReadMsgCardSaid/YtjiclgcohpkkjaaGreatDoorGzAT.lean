/- Texts of one kind, put together. -/
import Derived.Shelf.Strings.Split
import Derived.Shelf.Strconv.ParseIntPublic10
import Derived.Test.YtjiclgcohpkkjaaGreatDoorProg
import Derived.Test.YtjiclgcohpkkjaaGreatDoorGzAS
import Derived.Test.YtjiclgcohpkkjaaGreatDoorGzAE
import Derived.Test.YtjiclgcohpkkjaaGreatDoorGzAH
import Derived.Test.YtjiclgcohpkkjaaGreatDoorGzAM

/- The library's strings.Split and ParseInt, laid at this program: where its functions and types lie. -/
namespace Go.Proofs
open Go.Shelf
def Tryz.lays146_ren : Go.Shelf.Ren := ⟨fun | 146 => 61 | 221 => 96 | 268 => 126 | 138 => 127 | 143 => 128 | 195 => 157 | 197 => 158 | 218 => 159 | 219 => 160 | 260 => 179 | 217 => 180 | 225 => 181 | 224 => 182 | 267 => 183 | 266 => 191 | 314 => 192 | n => n, fun | 9 => 9 | 31 => 101 | 3 => 3 | 4 => 4 | 0 => 0 | 105 => 212 | 21 => 21 | 5 => 5 | 46 => 188 | 119 => 237 | 139 => 240 | 138 => 239 | 146 => 241 | 51 => 146 | n => n, fun | 1 => 2 | 3 => 4 | 4 => 5 | n => n⟩
theorem Tryz.lays146 : Go.Proofs.Lays.n146 Tryz.prog Tryz.lays146_ren := {
  mixed := by kernel_rfl
  f138 := Tryz.func127.trans (congrArg some (by kernel_rfl))
  f143 := Tryz.func128.trans (congrArg some (by kernel_rfl))
  f146 := Tryz.func61.trans (congrArg some (by kernel_rfl))
  f195 := Tryz.func157.trans (congrArg some (by kernel_rfl))
  f197 := Tryz.func158.trans (congrArg some (by kernel_rfl))
  f217 := Tryz.func180.trans (congrArg some (by kernel_rfl))
  f218 := Tryz.func159.trans (congrArg some (by kernel_rfl))
  f219 := Tryz.func160.trans (congrArg some (by kernel_rfl))
  f221 := Tryz.func96.trans (congrArg some (by kernel_rfl))
  f224 := Tryz.func182.trans (congrArg some (by kernel_rfl))
  f225 := Tryz.func181.trans (congrArg some (by kernel_rfl))
  f260 := Tryz.func179.trans (congrArg some (by kernel_rfl))
  f266 := Tryz.func191.trans (congrArg some (by kernel_rfl))
  f267 := Tryz.func183.trans (congrArg some (by kernel_rfl))
  f268 := Tryz.func126.trans (congrArg some (by kernel_rfl))
  f314 := Tryz.func192.trans (congrArg some (by kernel_rfl))
  t0 := Tryz.underlying0
  a0 := Tryz.isAgg0
  z0 := Tryz.sizeOf0
  v0 := Tryz.zeroValue0
  t3 := Tryz.underlying3
  a3 := Tryz.isAgg3
  z3 := Tryz.sizeOf3
  v3 := Tryz.zeroValue3
  t4 := Tryz.underlying4
  a4 := Tryz.isAgg4
  z4 := Tryz.sizeOf4
  v4 := Tryz.zeroValue4
  t5 := Tryz.underlying5
  a5 := Tryz.isAgg5
  z5 := Tryz.sizeOf5
  v5 := Tryz.zeroValue5
  t9 := Tryz.underlying9
  a9 := Tryz.isAgg9
  z9 := Tryz.sizeOf9
  v9 := Tryz.zeroValue9
  t21 := Tryz.underlying21
  a21 := Tryz.isAgg21
  z21 := Tryz.sizeOf21
  v21 := Tryz.zeroValue21
  t31 := Tryz.underlying101
  a31 := Tryz.isAgg101
  z31 := Tryz.sizeOf101
  v31 := Tryz.zeroValue101
  t46 := Tryz.underlying188
  a46 := Tryz.isAgg188
  z46 := Tryz.sizeOf188
  v46 := Tryz.zeroValue188
  t51 := Tryz.underlying146
  a51 := Tryz.isAgg146
  z51 := Tryz.sizeOf146
  v51 := Tryz.zeroValue146
  t105 := Tryz.underlying212
  a105 := Tryz.isAgg212
  z105 := Tryz.sizeOf212
  v105 := Tryz.zeroValue212
  t119 := Tryz.underlying237
  a119 := Tryz.isAgg237
  z119 := Tryz.sizeOf237
  t138 := Tryz.underlying239
  a138 := Tryz.isAgg239
  z138 := Tryz.sizeOf239
  v138 := Tryz.zeroValue239
  t139 := Tryz.underlying240
  a139 := Tryz.isAgg240
  z139 := Tryz.sizeOf240
  v139 := Tryz.zeroValue240
  t146 := Tryz.underlying241
  a146 := Tryz.isAgg241
  z146 := Tryz.sizeOf241
  v146 := Tryz.zeroValue241
  g1 := by kernel_rfl
  g3 := by kernel_rfl
  g4 := by kernel_rfl }
def Tryz.lays174_ren : Go.Shelf.Ren := ⟨fun | 174 => 62 | 247 => 97 | 245 => 98 | 287 => 129 | 279 => 130 | 280 => 131 | 281 => 132 | 282 => 133 | 321 => 161 | 322 => 162 | 316 => 163 | 171 => 165 | 205 => 164 | 243 => 184 | 246 => 140 | 283 => 170 | 284 => 171 | 285 => 172 | 286 => 173 | 129 => 187 | 317 => 186 | 318 => 188 | 319 => 189 | 320 => 190 | 337 => 193 | 338 => 194 | n => n, fun | 9 => 9 | 3 => 3 | 2 => 2 | 75 => 81 | 85 => 121 | 4 => 4 | 167 => 191 | 5 => 5 | 53 => 152 | 175 => 192 | 46 => 188 | 168 => 194 | 37 => 33 | 0 => 0 | 210 => 217 | 21 => 21 | 127 => 139 | 145 => 232 | 143 => 230 | 171 => 222 | 173 => 225 | 212 => 234 | 51 => 146 | 20 => 20 | 213 => 235 | 232 => 244 | 233 => 245 | 80 => 44 | n => n, fun | 15 => 0 | 16 => 1 | 17 => 3 | 18 => 6 | 19 => 7 | n => n⟩
theorem Tryz.lays174 : Go.Proofs.LaysC.n174 Tryz.prog Tryz.lays174_ren := {
  mixed := by kernel_rfl
  f129 := Tryz.func187.trans (congrArg some (by kernel_rfl))
  f171 := Tryz.func165.trans (congrArg some (by kernel_rfl))
  f174 := Tryz.func62.trans (congrArg some (by kernel_rfl))
  f205 := Tryz.func164.trans (congrArg some (by kernel_rfl))
  f243 := Tryz.func184.trans (congrArg some (by kernel_rfl))
  f245 := Tryz.func98.trans (congrArg some (by kernel_rfl))
  f246 := Tryz.func140.trans (congrArg some (by kernel_rfl))
  f247 := Tryz.func97.trans (congrArg some (by kernel_rfl))
  f279 := Tryz.func130.trans (congrArg some (by kernel_rfl))
  f280 := Tryz.func131.trans (congrArg some (by kernel_rfl))
  f281 := Tryz.func132.trans (congrArg some (by kernel_rfl))
  f282 := Tryz.func133.trans (congrArg some (by kernel_rfl))
  f283 := Tryz.func170.trans (congrArg some (by kernel_rfl))
  f284 := Tryz.func171.trans (congrArg some (by kernel_rfl))
  f285 := Tryz.func172.trans (congrArg some (by kernel_rfl))
  f286 := Tryz.func173.trans (congrArg some (by kernel_rfl))
  f287 := Tryz.func129.trans (congrArg some (by kernel_rfl))
  f316 := Tryz.func163.trans (congrArg some (by kernel_rfl))
  f317 := Tryz.func186.trans (congrArg some (by kernel_rfl))
  f318 := Tryz.func188.trans (congrArg some (by kernel_rfl))
  f319 := Tryz.func189.trans (congrArg some (by kernel_rfl))
  f320 := Tryz.func190.trans (congrArg some (by kernel_rfl))
  f321 := Tryz.func161.trans (congrArg some (by kernel_rfl))
  f322 := Tryz.func162.trans (congrArg some (by kernel_rfl))
  f337 := Tryz.func193.trans (congrArg some (by kernel_rfl))
  f338 := Tryz.func194.trans (congrArg some (by kernel_rfl))
  t0 := Tryz.underlying0
  a0 := Tryz.isAgg0
  z0 := Tryz.sizeOf0
  v0 := Tryz.zeroValue0
  t2 := Tryz.underlying2
  a2 := Tryz.isAgg2
  z2 := Tryz.sizeOf2
  v2 := Tryz.zeroValue2
  t3 := Tryz.underlying3
  a3 := Tryz.isAgg3
  z3 := Tryz.sizeOf3
  v3 := Tryz.zeroValue3
  t4 := Tryz.underlying4
  a4 := Tryz.isAgg4
  z4 := Tryz.sizeOf4
  v4 := Tryz.zeroValue4
  t5 := Tryz.underlying5
  a5 := Tryz.isAgg5
  z5 := Tryz.sizeOf5
  v5 := Tryz.zeroValue5
  t9 := Tryz.underlying9
  a9 := Tryz.isAgg9
  z9 := Tryz.sizeOf9
  v9 := Tryz.zeroValue9
  t20 := Tryz.underlying20
  a20 := Tryz.isAgg20
  z20 := Tryz.sizeOf20
  v20 := Tryz.zeroValue20
  t21 := Tryz.underlying21
  a21 := Tryz.isAgg21
  z21 := Tryz.sizeOf21
  v21 := Tryz.zeroValue21
  t37 := Tryz.underlying33
  a37 := Tryz.isAgg33
  z37 := Tryz.sizeOf33
  v37 := Tryz.zeroValue33
  t46 := Tryz.underlying188
  a46 := Tryz.isAgg188
  z46 := Tryz.sizeOf188
  v46 := Tryz.zeroValue188
  t51 := Tryz.underlying146
  a51 := Tryz.isAgg146
  z51 := Tryz.sizeOf146
  v51 := Tryz.zeroValue146
  t53 := Tryz.underlying152
  a53 := Tryz.isAgg152
  z53 := Tryz.sizeOf152
  v53 := Tryz.zeroValue152
  t75 := Tryz.underlying81
  a75 := Tryz.isAgg81
  z75 := Tryz.sizeOf81
  v75 := Tryz.zeroValue81
  t85 := Tryz.underlying121
  a85 := Tryz.isAgg121
  z85 := Tryz.sizeOf121
  v85 := Tryz.zeroValue121
  t127 := Tryz.underlying139
  a127 := Tryz.isAgg139
  z127 := Tryz.sizeOf139
  v127 := Tryz.zeroValue139
  t143 := Tryz.underlying230
  a143 := Tryz.isAgg230
  z143 := Tryz.sizeOf230
  v143 := Tryz.zeroValue230
  t145 := Tryz.underlying232
  a145 := Tryz.isAgg232
  z145 := Tryz.sizeOf232
  v145 := Tryz.zeroValue232
  t167 := Tryz.underlying191
  a167 := Tryz.isAgg191
  z167 := Tryz.sizeOf191
  v167 := Tryz.zeroValue191
  t168 := Tryz.underlying194
  a168 := Tryz.isAgg194
  z168 := Tryz.sizeOf194
  v168 := Tryz.zeroValue194
  t171 := Tryz.underlying222
  a171 := Tryz.isAgg222
  z171 := Tryz.sizeOf222
  v171 := Tryz.zeroValue222
  t173 := Tryz.underlying225
  a173 := Tryz.isAgg225
  z173 := Tryz.sizeOf225
  v173 := Tryz.zeroValue225
  t175 := Tryz.underlying192
  a175 := Tryz.isAgg192
  z175 := Tryz.sizeOf192
  v175 := Tryz.zeroValue192
  t210 := Tryz.underlying217
  a210 := Tryz.isAgg217
  z210 := Tryz.sizeOf217
  v210 := Tryz.zeroValue217
  t212 := Tryz.underlying234
  a212 := Tryz.isAgg234
  z212 := Tryz.sizeOf234
  v212 := Tryz.zeroValue234
  t213 := Tryz.underlying235
  a213 := Tryz.isAgg235
  z213 := Tryz.sizeOf235
  t232 := Tryz.underlying244
  a232 := Tryz.isAgg244
  z232 := Tryz.sizeOf244
  v232 := Tryz.zeroValue244
  t233 := Tryz.underlying245
  a233 := Tryz.isAgg245
  z233 := Tryz.sizeOf245
  v233 := Tryz.zeroValue245
  g15 := by kernel_rfl
  g16 := by kernel_rfl
  g17 := by kernel_rfl
  g18 := by kernel_rfl
  g19 := by kernel_rfl
  t80 := Tryz.underlying44
  a80 := Tryz.isAgg44
  z80 := Tryz.sizeOf44
  v80 := Tryz.zeroValue44
  i0 := by kernel_rfl
  i2 := by kernel_rfl
  i3 := by kernel_rfl
  i4 := by kernel_rfl
  i5 := by kernel_rfl
  i9 := by kernel_rfl
  i20 := by kernel_rfl
  i21 := by kernel_rfl
  i37 := by kernel_rfl
  i46 := by kernel_rfl
  i51 := by kernel_rfl
  i53 := by kernel_rfl
  i75 := by kernel_rfl
  i80 := by kernel_rfl
  i85 := by kernel_rfl
  i127 := by kernel_rfl
  i143 := by kernel_rfl
  i145 := by kernel_rfl
  i167 := by kernel_rfl
  i168 := by kernel_rfl
  i171 := by kernel_rfl
  i173 := by kernel_rfl
  i175 := by kernel_rfl
  i210 := by kernel_rfl
  i212 := by kernel_rfl
  i232 := by kernel_rfl
  i233 := by kernel_rfl
  m15 := by kernel_rfl
  m16 := by kernel_rfl
  m17 := by kernel_rfl
  m18 := by kernel_rfl
  m19 := by kernel_rfl
  c0 := by kernel_rfl
  c2 := by kernel_rfl
  c3 := by kernel_rfl
  c4 := by kernel_rfl
  c5 := by kernel_rfl
  c9 := by kernel_rfl
  c20 := by kernel_rfl
  c21 := by kernel_rfl
  c37 := by kernel_rfl
  c46 := by kernel_rfl
  c51 := by kernel_rfl
  c53 := by kernel_rfl
  c75 := by kernel_rfl
  c80 := by kernel_rfl
  c85 := by kernel_rfl
  c127 := by kernel_rfl
  c143 := by kernel_rfl
  c145 := by kernel_rfl
  c167 := by kernel_rfl
  c168 := by kernel_rfl
  c171 := by kernel_rfl
  c173 := by kernel_rfl
  c175 := by kernel_rfl
  c210 := by kernel_rfl
  c212 := by kernel_rfl
  c213 := by kernel_rfl
  c232 := by kernel_rfl
  c233 := by kernel_rfl }
end Go.Proofs


/- Members read out of texts, by the program: the library's functions. -/
namespace Go.Proofs.YtjiclgcohpkkjaaGreatDoor
open Go.RowKit Plain
set_option linter.unusedVariables false

namespace Plain
/-- The library's variables that are read: a number and two errors. -/
structure RdVars (w : World) : Prop where
  m : ∃ m, w.cell? ⟨Tryz.lays146_ren.g 1, 0, none⟩ = some (.int .i64 m)
  s : ∃ te pe, w.cell? ⟨Tryz.lays174_ren.g 15, 0, none⟩ = some (.iface te pe)
  r : ∃ te pe, w.cell? ⟨Tryz.lays174_ren.g 16, 0, none⟩ = some (.iface te pe)
  lt : Tryz.lays146_ren.g 1 < w.heap.size ∧ Tryz.lays174_ren.g 15 < w.heap.size ∧ Tryz.lays174_ren.g 16 < w.heap.size
theorem RdVars.at {w w' : World} (h : RdVars w) (hb : Below w.heap.size w w') : RdVars w' := by
  obtain ⟨⟨m, hm⟩, ⟨t1, p1, h1⟩, ⟨t2, p2, h2⟩, l1, l2, l3⟩ := h
  have hz := hb.size
  exact ⟨⟨m, bcl hb l1 hm⟩, ⟨t1, p1, bcl hb l2 h1⟩, ⟨t2, p2, bcl hb l3 h2⟩, by omega, by omega, by omega⟩
end Plain
theorem split_calls (s : ByteArray) (w : World) (hs : s.size ≤ 10000000) (hv : RdVars w) :
    Calls Tryz.prog 61 #[.string s, .string ⟨#[32]⟩] w fun e w' => e = .returned (.slice (some ⟨w.heap.size, 0, none⟩) (cutB 32 s).length (cutB 32 s).length) ∧ w' = w.alloc (.cells ((cutB 32 s).map Value.string).toArray 9) := by
  obtain ⟨m, hm⟩ := hv.m
  have hlen := Lib.splitB_all (⟨#[32]⟩ : ByteArray) (by decide) 0 _ s rfl
  have h := Any.strings_Split Tryz.lays146 (by kernel_rfl) s ⟨#[32]⟩ m w (by omega) hm (by decide)
  rw [splitB_cut s ⟨#[32]⟩ rfl] at h hlen
  rw [← hlen] at h
  exact h
theorem parse_calls (s : ByteArray) (w : World) (hs : s.size ≤ 10000000) (hv : RdVars w) :
    Calls Tryz.prog 62 #[.string s, .int .i64 10, .int .i64 64] w fun e w' => Below w.heap.size w w' ∧ ((∃ v, Lib.parseIntB 64 s.data.toList = .ok v ∧ e = .returned (.tuple #[.int .i64 v, .nilIface])) ∨ ((∀ v, Lib.parseIntB 64 s.data.toList ≠ .ok v) ∧ ∃ x te pe, e = .returned (.tuple #[.int .i64 x, .iface te pe]))) := by
  cases hp : Lib.parseIntB 64 s.data.toList with
  | ok v =>
    refine (Any.strconv_ParseInt_10_at64_ok Tryz.lays174 s (by omega) v hp w).mono ?_
    rintro e w' ⟨rfl, hw⟩
    refine ⟨?_, .inl ⟨v, rfl, rfl⟩⟩
    rcases hw with rfl | ⟨t, rfl⟩
    · exact Below.refl _ _
    · exact ⟨rfl, rfl, rfl, by rw [Lib.bytesWorld_size]; omega, fun j hj => Lib.bytesWorld_at_old w _ t j hj⟩
  | «syntax» =>
    obtain ⟨te, pe, h1⟩ := hv.s
    refine (Any.strconv_ParseInt_10_at64_syntax Tryz.lays174 s (by omega) hp _ w h1 (.inr ⟨te, pe, rfl⟩)).mono ?_
    rintro e w' ⟨N, rfl, -, -, hb⟩
    exact ⟨hb, .inr ⟨(fun v q => by cases q), _, _, _, rfl⟩⟩
  | range =>
    obtain ⟨te, pe, h1⟩ := hv.r
    refine (Any.strconv_ParseInt_10_at64_range Tryz.lays174 s (by omega) hp _ w h1 (.inr ⟨te, pe, rfl⟩)).mono ?_
    rintro e w' ⟨N, rfl, -, -, hb⟩
    exact ⟨hb, .inr ⟨(fun v q => by cases q), _, _, _, rfl⟩⟩
end Go.Proofs.YtjiclgcohpkkjaaGreatDoor


/- Blocks that hold members; rows beside which a cell changes. -/
namespace Go.Proofs.YtjiclgcohpkkjaaGreatDoor
open Go.RowKit Plain
set_option linter.unusedVariables false

namespace Plain
/-- A block that holds members. -/
def CB (M : Nat) (v l : Value) (w : World) : Prop := w.heap[M]? = some (.cells #[v, l] 25 (0, 0))
theorem CB.lt {M : Nat} {v l : Value} {w : World} (h : CB M v l w) : M < w.heap.size := (Array.getElem?_eq_some_iff.1 h).1
theorem CB.c0 {M : Nat} {v l : Value} {w : World} (h : CB M v l w) : w.cell? ⟨M, 0, none⟩ = some v := cell_of_row w M 0 _ _ _ h
theorem CB.c1 {M : Nat} {v l : Value} {w : World} (h : CB M v l w) : w.cell? ⟨M, 1, none⟩ = some l := cell_of_row w M 1 _ _ _ h
theorem CB.f0 {M : Nat} {v l : Value} {w : World} (h : CB M v l w) : w.frozen? ⟨M, 0, none⟩ = false := frozen_of_row w M 0 _ _ h
theorem CB.f1 {M : Nat} {v l : Value} {w : World} (h : CB M v l w) : w.frozen? ⟨M, 1, none⟩ = false := frozen_of_row w M 1 _ _ h
theorem CB.new (w : World) (v l : Value) : CB w.heap.size v l (w.alloc (.cells #[v, l] 25)) := (MapKept.heap_alloc w _).1
theorem CB.below {M B : Nat} {v l : Value} {w w' : World} (h : CB M v l w) (hb : Below B w w') (hB : M < B) : CB M v l w' := (hb.block M hB).trans h
theorem CB.set0 {M : Nat} {v l : Value} {w : World} (h : CB M v l w) (x : Value) : CB M x l (w.setCell ⟨M, 0, none⟩ x) := Go.heap_setCell_same w M 0 _ _ _ h
theorem CB.set1 {M : Nat} {v l : Value} {w : World} (h : CB M v l w) (x : Value) : CB M v x (w.setCell ⟨M, 1, none⟩ x) := Go.heap_setCell_same w M 1 _ _ _ h
theorem CB.far {M b i : Nat} {v l : Value} {w : World} (h : CB M v l w) (hne : b ≠ M) (x : Value) : CB M v l (w.setCell ⟨b, i, none⟩ x) := (Go.heap_setCell_other w ⟨b, i, none⟩ M x (fun e => hne e.symm)).trans h
theorem rowSet {W : World} {a : Option Addr} {xs : List Int} {rb i : Nat} {u : Value} (h : RowAt i64E W a xs) (hne : ∀ g, inB a g → g ≠ rb) : RowAt i64E (W.setCell ⟨rb, i, none⟩ u) a xs := fun j hj => by
  obtain ⟨g, e1, hl, hc⟩ := h j hj
  have hg : rb ≠ g := fun q => hne g ⟨0, e1⟩ q.symm
  have hb : (W.setCell ⟨rb, i, none⟩ u).heap[g]? = W.heap[g]? := heap_setI hg
  exact ⟨g, e1, by simpa using hl, fun k hk => ⟨(World.cell?_of_block (a := ⟨g, j * i64E.n + k, none⟩) hb).trans (hc k hk).1, (World.frozen?_of_block (a := ⟨g, j * i64E.n + k, none⟩) hb).trans (hc k hk).2⟩⟩
end Plain
theorem RowAt.set2 {W : World} {a : Option Addr} {xs : List Int} {rb : Nat} {u1 u2 : Value} (h : RowAt i64E W a xs) (hne : ∀ g, inB a g → g ≠ rb) : RowAt i64E ((W.setCell ⟨rb, 0, none⟩ u1).setCell ⟨rb, 1, none⟩ u2) a xs := fun i hi => by
  obtain ⟨g, e1, hl, hc⟩ := h i hi
  have hg : rb ≠ g := fun q => hne g ⟨0, e1⟩ q.symm
  have hb : ((W.setCell ⟨rb, 0, none⟩ u1).setCell ⟨rb, 1, none⟩ u2).heap[g]? = W.heap[g]? := by rw [heap_setI hg, heap_setI hg]
  exact ⟨g, e1, by simpa using hl, fun j hj => ⟨(World.cell?_of_block (a := ⟨g, i * i64E.n + j, none⟩) hb).trans (hc j hj).1, (World.frozen?_of_block (a := ⟨g, i * i64E.n + j, none⟩) hb).trans (hc j hj).2⟩⟩

theorem inB_none {g : Nat} (h : inB none g) : False := by obtain ⟨o, e⟩ := h; cases e
/-- Members that are answered by the specification. -/
def CcPost (v l : List Int) (w : World) (a1 : Option Addr) (c1 : Nat) (a2 : Option Addr) (c2 : Nat) (w' : World) : Prop := RowAt i64E w' a1 v ∧ RowAt i64E w' a2 l ∧ (∀ g, inB a1 g → w.heap.size ≤ g ∧ g < w'.heap.size) ∧ (∀ g, inB a2 g → w.heap.size ≤ g ∧ g < w'.heap.size) ∧ Below w.heap.size w w'
end Go.Proofs.YtjiclgcohpkkjaaGreatDoor

