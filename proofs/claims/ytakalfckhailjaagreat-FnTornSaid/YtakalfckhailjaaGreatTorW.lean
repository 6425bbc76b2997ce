/- Entries appended and not synced are lost from the end alone: the walk. -/
import Derived.Test.YtakalfckhailjaaGreatGBI
import Derived.Test.YtakalfckhailjaaGreatGBE
import Derived.Test.YtakalfckhailjaaGreatTorM
import Derived.Test.YtakalfckhailjaaGreatSeT
import Derived.Test.YtakalfckhailjaaGreatSeJ
import Derived.Test.YtakalfckhailjaaGreatDoK
import Derived.Test.YtakalfckhailjaaGreatGAX
import Derived.Test.YtakalfckhailjaaGreatRecI
import Derived.Test.YtakalfckhailjaaGreatGBF
import Derived.Test.YtakalfckhailjaaGreatGAB
import Derived.Test.YtakalfckhailjaaGreatGAV
import Derived.Test.YtakalfckhailjaaGreatGAD
import Derived.Test.YtakalfckhailjaaGreatGAK
import Derived.Deep.DeepCutAuto
import Derived.Deep.CutBlock
import Derived.Deep.RegionWith
import Derived.Deep.RegionHeld3
import Derived.Test.YtakalfckhailjaaGreatGAE
/- Reached: spec_Recover spec_SaveEntriesQ spec_JournalOk impl_DoA impl_EntryText spec_EntryText spec_ReadFile impl_CrashO impl_Recover sameEnts_calls DrawSaveEntries_calls torn_rec se_none act_run act_tab appGG big_calls small_fit fileF readV getD_at files_small crash_disk entT_le entO entO_sm SmO rec_small ownR_empty bl dn_ok jou_fit appR str_add pre toO row_farG torn_do allK allK_len allK_succ logZ_max catQ_size catQ_app heap_setD set3 setD below3 i64E disk_synced bOfDrew mono keep at adG form le own_cap ex DC NwB JouAt below toO set dk_live disk_parts crash_none impl_Crash RowO onlyB onlN log_whole log_torn log_cutoff -/
namespace Go.Proofs.YtakalfckhailjaaGreat
open Go.RowKit Plain
set_option linter.unusedVariables false

theorem row_farG {α : Type} {e : Elem α} {W : World} {a : Option Addr} {xs : List α} (h : RowAt e W a xs) (D : Nat) (hD : W.heap.size ≤ D) : xs = [] ∨ ∀ g, inB a g → g ≠ D := by
  cases xs with
  | nil => exact .inl rfl
  | cons x l =>
    obtain ⟨g, e, hl, _⟩ := h 0 (by simp)
    refine .inr fun g' hg => ?_
    obtain ⟨o, e2⟩ := hg
    rw [e] at e2
    cases e2
    omega
theorem Plain.DC.set3 {D b : Nat} {v0 v1 v2 u0 u1 u2 : Value} {W : World} (h : DC b v0 v1 v2 W) (hb : b ≠ D) : DC b v0 v1 v2 (((W.setCell ⟨D, 0, none⟩ u0).setCell ⟨D, 1, none⟩ u1).setCell ⟨D, 2, none⟩ u2) := by
  have c0 := h.c0
  have c1 := h.c1
  have c2 := h.c2
  exact ⟨by simpa using h.lt, by simp [go_sem, c0], by simp [go_sem, c1], by simp [go_sem, c2]⟩
/-- The disk's variable D and its rows. -/
def TDk (D : Nat) (live safe : List Fl) (ops : List Dop) (W : World) : Prop :=
  ∃ aL cL aS cS aO cO, NwB D (.slice aL live.length cL) (.slice aS safe.length cS) (.slice aO ops.length cO) W ∧ (RowAt fileE W aL live ∧ RowAt fileE W aS safe ∧ RowAt dopE W aO ops) ∧ (AdOk aL cL ∧ AdOk aS cS ∧ AdOk aO cO)
theorem TDk.below {D : Nat} {live safe : List Fl} {ops : List Dop} {W W' : World} (h : TDk D live safe ops W) (hb : Below W.heap.size W W') : TDk D live safe ops W' := by
  obtain ⟨aL, cL, aS, cS, aO, cO, hN, ⟨r1, r2, r3⟩, ad⟩ := h
  exact ⟨aL, cL, aS, cS, aO, cO, hN.below hb, ⟨r1.below hb, r2.below hb, r3.below hb⟩, ad⟩
theorem TDk.put {D : Nat} {v0 v1 v2 : Value} {live safe : List Fl} {ops : List Dop} {W : World} {aL aS aO : Option Addr} {cL cS cO : Nat} (hN : NwB D v0 v1 v2 W) (r1 : RowAt fileE W aL live) (r2 : RowAt fileE W aS safe) (r3 : RowAt dopE W aO ops) (ad : AdOk aL cL ∧ AdOk aS cS ∧ AdOk aO cO)
    (n1 : ∀ k, inB aL k → k ≠ D) (n2 : ∀ k, inB aS k → k ≠ D) (n3 : ∀ k, inB aO k → k ≠ D) : TDk D live safe ops (((W.setCell ⟨D, 0, none⟩ (.slice aL live.length cL)).setCell ⟨D, 1, none⟩ (.slice aS safe.length cS)).setCell ⟨D, 2, none⟩ (.slice aO ops.length cO)) :=
  ⟨aL, cL, aS, cS, aO, cO, hN.set _ _ _, ⟨r1.set3 n1, r2.set3 n2, r3.set3 n3⟩, ad⟩
theorem rowSetOr {α : Type} {e : Elem α} {W : World} {a : Option Addr} {ys : List α} {b : Nat} {u0 u1 u2 : Value} (h : RowAt e W a ys) (hne : ys = [] ∨ ∀ k, inB a k → k ≠ b) : RowAt e (((W.setCell ⟨b, 0, none⟩ u0).setCell ⟨b, 1, none⟩ u1).setCell ⟨b, 2, none⟩ u2) a ys := by
  rcases hne with rfl | q
  · exact fun i hi => absurd hi (by simp)
  · exact h.set3 q
theorem heap_setD {W : World} {b i g : Nat} {u : Value} (h : b ≠ g) : (W.setCell ⟨b, i, none⟩ u).heap[g]? = W.heap[g]? := Below.heap_setCell _ _ _ _ (fun e => h (by simp at e; exact e.symm))
theorem OwnR.setD {α : Type} {e : Elem α} {W : World} {B D : Nat} {v : Value} {xs : List α} {u0 u1 u2 : Value} (h : OwnR e W B v xs) (hB : D < B) : OwnR e (((W.setCell ⟨D, 0, none⟩ u0).setCell ⟨D, 1, none⟩ u1).setCell ⟨D, 2, none⟩ u2) B v xs :=
  h.other fun g hg => by
    have := (World.ownsRow.lt h g hg).1
    exact (heap_setD (by omega)).trans ((heap_setD (by omega)).trans (heap_setD (by omega)))
/-- A whole row is appended, inside a region that draws. -/
theorem stepGR {α : Type} {e : Elem α} {ops : Array Oper} {o : Oper} {a : Act} {K : Act → World → Prop} {Q : Exit → Act → World → Prop} {F : Prop} (hgd : o.guard = none) (s x : Operand)
    (ho : o.op = .call { callee := .builtin .append, args := #[s, x], argTypes := #[e.S, e.S] })
    {w : World} {B : Nat} {v : Value} {xs ys : List α} (hown : OwnR e w B v xs) (hs : a.eval s = v) (ad : Option Addr) (m c : Nat) (hx : a.eval x = .slice ad m c) (hy : ys.length = m) (hr : RowAt e w ad ys) (had : AdG ad c)
    (hlen : xs.length + m < 100000000) (hB : B ≤ w.heap.size)
    (h : ∀ v' w', OwnR e w' B v' (xs ++ ys) → Below B w w' → w.grownBy w' v.ownBlock → K (a.put o.dst v') w') :
    if Region.wanted o (yielded ops a.tmps) = true then Oper.wp Tryz.prog o a w K Q else F := by
  rw [if_pos (by simp [Region.wanted, hgd])]
  obtain ⟨i0, hi, hz0, hz1, hz2⟩ := info_parts e.hinfo
  subst hy
  rcases had with ⟨rfl, rfl⟩ | ⟨g, rfl⟩
  · have hys : ys = [] := by
      cases ys with
      | nil => rfl
      | cons y l => obtain ⟨g, e1, _⟩ := hr 0 (by simp); simp at e1
    subst hys
    have hrun := run_append_owned_none (P := Tryz.prog) w B e.S o.type e.E i0 e.n e.hund hi v xs.length (xs.flatMap e.enc) hown
    have hx2 : a.eval x = .slice none 0 0 := hx
    unfold Oper.wp execOp
    simp only [ho, resolve, invoke, builtin, Sem.run_bind, Sem.run_pure, Result.andThen_ok, List.map_toArray, List.map_cons, List.map_nil, hs, hx2, hrun]
    exact h v w (by rw [List.append_nil]; exact hown) (Below.refl _ _) ⟨rfl, rfl, rfl, Nat.le_refl _, fun _ _ _ => rfl⟩
  · have hby := e.hb
    refine wp_append_own _ s x e.S ho B e.E i0 e.zero e.n e.bytes e.hund hi hz0 hz1 hz2 e.hz e.hn v xs.length (xs.flatMap e.enc) hs hown
      ⟨g, 0, none⟩ ys.length c (ys.flatMap e.enc) hx (flat_len e.enc e.n e.hlen ys) ?_ ?_ (by unfold maxLen; omega) ?_ hB ?_
    · intro j u hj
      have hjl : j < ys.length * e.n := by
        have := (List.getElem?_eq_some_iff.1 hj).1
        rw [flat_len e.enc e.n e.hlen] at this
        exact this
      have hn := e.hn
      have hq : j / e.n < ys.length := Nat.div_lt_of_lt_mul (by rw [Nat.mul_comm]; exact hjl)
      have hm : j % e.n < e.n := Nat.mod_lt _ hn
      have hd : j / e.n * e.n + j % e.n = j := by rw [Nat.mul_comm]; exact Nat.div_add_mod j e.n
      obtain ⟨g', e1, hl, hc⟩ := hr (j / e.n) hq
      cases e1
      have h1 := (hc (j % e.n) hm).1
      rw [hd] at h1
      have h2 := flat_get e.enc e.n e.hlen ys (j / e.n) (j % e.n) hq hm
      rw [hd] at h2
      rw [show (⟨g, 0, none⟩ : Addr).add j = ⟨g, j, none⟩ from by unfold Addr.add; split <;> simp_all, h1, ← h2]
      exact hj
    · intro u hu
      obtain ⟨y, _, hy⟩ := List.mem_flatMap.1 hu
      exact e.hone y u hy
    · exact Nat.le_trans (Nat.mul_le_mul_left _ hby) (by omega)
    · intro v' w' h1 h2 _
      refine h v' w' ?_ (own_below hown h2 hB) h2
      unfold OwnR
      rw [List.flatMap_append, List.length_append]
      exact h1
theorem stepG1 {α : Type} {e : Elem α} {ops : Array Oper} {o : Oper} {a : Act} {K : Act → World → Prop} {Q : Exit → Act → World → Prop} {F : Prop} (hgd : o.guard = none) (s x : Operand)
    (ho : o.op = .call { callee := .builtin .append, args := #[s, x], argTypes := #[e.S, e.S] })
    {w : World} {B : Nat} {v : Value} {xs : List α} (hown : OwnR e w B v xs) (hs : a.eval s = v) (y : α) {cs : Array Value} (hcs : cs.toList = e.enc y)
    (gx : Nat) (hx : a.eval x = .slice (some ⟨gx, 0, none⟩) 1 1) (hgx : gx = w.heap.size) (hlen : xs.length < 100000000) (hB : B ≤ w.heap.size)
    (h : ∀ v' w', OwnR e w' B v' (xs ++ [y]) → Below B w w' → (w.alloc (.cells cs e.E)).grownBy w' v.ownBlock → K (a.put o.dst v') w') :
    if Region.wanted o (yielded ops a.tmps) = true then Oper.wp Tryz.prog o a (w.alloc (.cells cs e.E)) K Q else F := by
  subst hgx
  rw [if_pos (by simp [Region.wanted, hgd])]
  obtain ⟨i0, hi, hz0, hz1, hz2⟩ := info_parts e.hinfo
  have ha := World.ownsRow.alloc hown (.cells cs e.E)
  have hnew : (w.alloc (.cells cs e.E)).heap[w.heap.size]? = some (.cells cs e.E) := (MapKept.heap_alloc w _).1
  have hby := e.hb
  refine wp_append_own _ s x e.S ho B e.E i0 e.zero e.n e.bytes e.hund hi hz0 hz1 hz2 e.hz e.hn v xs.length (xs.flatMap e.enc) hs ha
    ⟨w.heap.size, 0, none⟩ 1 1 (e.enc y) hx (by rw [e.hlen, Nat.one_mul]) (by rw [← hcs]; exact World.news_of_block hnew) (e.hone y) (by unfold maxLen; omega) ?_ (by simp; omega) ?_
  · exact Nat.le_trans (Nat.mul_le_mul_left _ hby) (by omega)
  · intro v' w' h1 h2 _
    refine h v' w' ?_ (((Below.refl B w).alloc hB _).trans (own_below ha h2 (by simp; omega))) h2
    unfold OwnR
    rw [List.flatMap_append, List.length_append]
    simpa using h1
theorem rowE_one (W : World) (x : Ent) : RowAt entE (W.alloc (.cells #[.int .i64 x.term, .int .i64 x.kind, .string x.body] 45)) (some ⟨W.heap.size, 0, none⟩) [x] := fun i hi => by
  obtain rfl : i = 0 := by simpa using hi
  refine ⟨_, rfl, by simp, fun j hj => ?_⟩
  have hj3 : j < 3 := hj
  rcases j with _ | _ | _ | j
  · exact ⟨by simp [go_sem]; rfl, by simp [go_sem]⟩
  · exact ⟨by simp [go_sem]; rfl, by simp [go_sem]⟩
  · exact ⟨by simp [go_sem]; rfl, by simp [go_sem]⟩
  · omega
theorem rowGr {W W' : World} {g o : Nat} {xs : List Ent} (h : RowAt entE W (some ⟨g, 0, none⟩) xs) (hg : W.grownBy W' (some o)) (hne : g ≠ o) : RowAt entE W' (some ⟨g, 0, none⟩) xs := fun i hi => by
  obtain ⟨g', e1, hl, h1⟩ := h i hi
  cases e1
  have hb := hg.block g hl (fun e => hne (by cases e; rfl))
  exact ⟨g, rfl, Nat.lt_of_lt_of_le hl hg.size, fun j hj => ⟨(World.cell?_of_block (a := ⟨g, i * entE.n + j, none⟩) hb).trans (h1 j hj).1, (World.frozen?_of_block (a := ⟨g, i * entE.n + j, none⟩) hb).trans (h1 j hj).2⟩⟩
/-- What stands while entries are appended. -/
structure TLs (w : World) (B b : Nat) (T V : Int) (aw : Option Addr) (nE cw : Nat) (ae : Option Addr) (es : List Ent) (W : World) : Prop where
  dc : DC b (.int .i64 T) (.int .i64 V) (.slice aw nE cw) W
  row : RowAt entE W ae es
  sz : B ≤ W.heap.size
  bl : Below w.heap.size w W
theorem TLs.below {w : World} {B b : Nat} {T V : Int} {aw : Option Addr} {nE cw : Nat} {ae : Option Addr} {es : List Ent} {W W' : World} (h : TLs w B b T V aw nE cw ae es W) (hb : Below W.heap.size W W') : TLs w B b T V aw nE cw ae es W' :=
  ⟨h.dc.below hb, h.row.below hb, Nat.le_trans h.sz hb.size, belOn h.bl hb⟩
theorem TLs.set {w : World} {B b D : Nat} {T V : Int} {aw : Option Addr} {nE cw : Nat} {ae : Option Addr} {es : List Ent} {W : World} {u0 u1 u2 : Value} (h : TLs w B b T V aw nE cw ae es W) (hb : b ≠ D) (he : es = [] ∨ ∀ g, inB ae g → g ≠ D) (hD : w.heap.size ≤ D) : TLs w B b T V aw nE cw ae es (((W.setCell ⟨D, 0, none⟩ u0).setCell ⟨D, 1, none⟩ u1).setCell ⟨D, 2, none⟩ u2) :=
  ⟨h.dc.set3 hb, rowSetOr h.row he, by simpa using h.sz, below3 h.bl hD⟩
/-- The disk while entries are appended: i of them stand as ops. -/
def TLd (D : Nat) (S1 : List Fl) (C T V : Int) (E es : List Ent) (i : Nat) (W : World) : Prop :=
  ∃ lv ops, TDk D lv S1 ops W ∧ (FitF lv ∧ FitF S1 ∧ (∀ o ∈ ops, SmO o) ∧ lv.length ≤ 1048576 ∧ S1.length ≤ 1048576 ∧ ops.length ≤ 1048576) ∧ (C ≠ 0 → i = 0) ∧ (C = 0 → ops = (es.take i).map entO ∧ diskB lv S1 ops = true ∧ jouB T V (E ++ es.take i) = true)
theorem TLd.below {D : Nat} {S1 : List Fl} {C T V : Int} {E es : List Ent} {i : Nat} {W W' : World} (h : TLd D S1 C T V E es i W) (hb : Below W.heap.size W W') : TLd D S1 C T V E es i W' := by
  obtain ⟨lv, ops, h1, h2⟩ := h
  exact ⟨lv, ops, h1.below hb, h2⟩

/-- A disk's variable whose rows lie behind z. -/
def TDb (z D : Nat) (live safe : List Fl) (ops : List Dop) (W : World) : Prop :=
  ∃ aL cL aS cS aO cO, NwB D (.slice aL live.length cL) (.slice aS safe.length cS) (.slice aO ops.length cO) W ∧ (RowAt fileE W aL live ∧ RowAt fileE W aS safe ∧ RowAt dopE W aO ops) ∧ (AdOk aL cL ∧ AdOk aS cS ∧ AdOk aO cO) ∧ (∀ k, inB aL k → z ≤ k) ∧ (∀ k, inB aS k → z ≤ k) ∧ ∀ k, inB aO k → z ≤ k
theorem tdk_fin {d B : Nat} {c1 : Int} {w9 w12 : World} {v0 v1 v2 : Value} {uL uS uO : Option Addr} {iL iS iO : Nat} {L2 S2 : List Fl} {O2 : List Dop} (hN : NwB d v0 v1 v2 w12) (hd : d < B) (hz : w9.heap.size ≤ d)
    (u1 : OwnR fileE w12 B (.slice uL L2.length iL) L2) (u2 : OwnR fileE w12 B (.slice uS S2.length iS) S2) (u3 : OwnR dopE w12 B (.slice uO O2.length iO) O2) (hb : Below w9.heap.size w9 w12) :
    ∃ d', Value.pointer (some ⟨d, 0, none⟩) = .pointer (some ⟨d', 0, none⟩) ∧ Value.int .i64 c1 = .int .i64 c1 ∧ w9.heap.size ≤ d' ∧ Hid (TDb w9.heap.size d' L2 S2 O2 (((w12.setCell ⟨d, 0, none⟩ (.slice uL L2.length iL)).setCell ⟨d, 1, none⟩ (.slice uS S2.length iS)).setCell ⟨d, 2, none⟩ (.slice uO O2.length iO))) ∧ Hid (Below w9.heap.size w9 (((w12.setCell ⟨d, 0, none⟩ (.slice uL L2.length iL)).setCell ⟨d, 1, none⟩ (.slice uS S2.length iS)).setCell ⟨d, 2, none⟩ (.slice uO O2.length iO))) :=
  ⟨d, rfl, rfl, hz, hide ⟨uL, iL, uS, iS, uO, iO, hN.set _ _ _, ⟨u1.at.set3 (fun k hk => by have := (u1.bl k hk).1; omega), u2.at.set3 (fun k hk => by have := (u2.bl k hk).1; omega), u3.at.set3 (fun k hk => by have := (u3.bl k hk).1; omega)⟩, ⟨u1.ad, u2.ad, u3.ad⟩, fun k hk => by have := (u1.bl k hk).1; omega, fun k hk => by have := (u2.bl k hk).1; omega, fun k hk => by have := (u3.bl k hk).1; omega⟩, hide (below3 hb hz)⟩
theorem tdk_finA {B : Nat} {c1 : Int} {w9 w12 : World} {uL uS uO : Option Addr} {iL iS iO : Nat} {L2 S2 : List Fl} {O2 : List Dop}
    (u1 : OwnR fileE w12 B (.slice uL L2.length iL) L2) (u2 : OwnR fileE w12 B (.slice uS S2.length iS) S2) (u3 : OwnR dopE w12 B (.slice uO O2.length iO) O2) (hb : Below w9.heap.size w9 w12) (hzB : w9.heap.size ≤ B) :
    ∃ d', Value.pointer (some ⟨w12.heap.size, 0, none⟩) = .pointer (some ⟨d', 0, none⟩) ∧ Value.int .i64 c1 = .int .i64 c1 ∧ w9.heap.size ≤ d' ∧ Hid (TDb w9.heap.size d' L2 S2 O2 (w12.alloc (.cells #[.slice uL L2.length iL, .slice uS S2.length iS, .slice uO O2.length iO] 27))) ∧ Hid (Below w9.heap.size w9 (w12.alloc (.cells #[.slice uL L2.length iL, .slice uS S2.length iS, .slice uO O2.length iO] 27))) :=
  ⟨w12.heap.size, rfl, rfl, hb.size, hide ⟨uL, iL, uS, iS, uO, iO, NwB.new w12 _ _ _, ⟨u1.at.below (bel1 _ _), u2.at.below (bel1 _ _), u3.at.below (bel1 _ _)⟩, ⟨u1.ad, u2.ad, u3.ad⟩, fun k hk => by have := (u1.bl k hk).1; omega, fun k hk => by have := (u2.bl k hk).1; omega, fun k hk => by have := (u3.bl k hk).1; omega⟩, hide (belOn hb (bel1 _ _))⟩

set_option maxRecDepth 10000 in
set_option maxHeartbeats 8000000 in
theorem torn_walk (a0 : Option Addr) (len0 cap0 : Nat) (z0 : List Int) (w : World) (h0 : IsRow .u8 w a0 len0 cap0 z0) (hl0 : len0 ≤ 1048576) :
    Calls Tryz.prog 4 #[.slice a0 len0 cap0] w fun e w' => e = .returned (.bool true) ∧ Below w.heap.size w w' := by
  have H0 := hide h0
  have d0 : decide (1048576 < (len0 : Int)) = false := by simp; omega
  have m0 := h0.len
  clear h0
  go_enter Tryz.func4, Tryz.ntmps4
  go_wp2_with fail
  refine (big_calls a0 len0 cap0 _ m0).mono ?_
  rintro e w1 ⟨rfl, rfl⟩
  rw [d0]
  go_wp2_with fail
  refine (DrawSaveEntries_calls a0 len0 cap0 z0 _ (unhide H0) hl0).mono ?_
  rintro e w1 ⟨aL, cL, L0, aS, cS, S0, aO, cO, f, ae, ce, es, rfl, ⟨r1, r2, r3⟩, ⟨ad1, ad2, ad3, adE⟩, hF, ⟨hel, heb⟩, ⟨n1, n2, n3⟩, hb1⟩
  have hz1 : w.heap.size ≤ w1.heap.size := hb1.size
  obtain ⟨W2, hW2⟩ : ∃ W2, W2 = w1.alloc (.cells #[.slice aL L0.length cL, .slice aS S0.length cS, .slice aO 0 cO] 27) := ⟨_, rfl⟩
  have hb2 : Below w1.heap.size w1 W2 := by rw [hW2]; exact bel1 _ _
  have hD : DiskAt W2 aL L0.length cL L0 aS S0.length cS S0 aO 0 cO [] := ⟨r1.below hb2, r2.below hb2, fun i hi => absurd hi (by simp), rfl, rfl, rfl, ad1, ad2, ad3, hF.1, hF.2.1, fun o ho => (by cases ho), hF.2.2.1, hF.2.2.2, Nat.zero_le _⟩
  have HRW := hide (spec_Recover aL L0.length cL L0 aS S0.length cS S0 aO 0 cO [] W2 hD)
  obtain ⟨⟨ok, T, V, E⟩, hE⟩ : ∃ x, recT L0 S0 [] = x := ⟨_, rfl⟩
  rw [hE] at HRW
  simp only [] at HRW
  have HSV := hide (fun (W : World) (hW : Below W2.heap.size W2 W) => spec_SaveEntriesQ aL L0.length cL L0 aS S0.length cS S0 aO 0 cO [] (E.length : Int) none 0 0 [] W (hD.below hW) (fun i hi => absurd hi (by simp)) rfl (Nat.zero_le _) (fun x hx => (by cases hx)) (.inl ⟨rfl, rfl⟩))
  unfold SpcQ at HSV
  have hDO := dn_ok (fm := (E.length : Int)) (xs := []) hF.1 hF.2.1 hF.2.2.1 hF.2.2.2
  have hZ := fun (h1 : recT L0 S0 [] = (true, T, V, E)) => se_none h1
  generalize dnC L0 S0 [] (seB L0 S0 [] (E.length : Int) []) 11 (seX L0 S0 [] (E.length : Int) []) = C at HSV hZ
  generalize dnL L0 S0 [] (seB L0 S0 [] (E.length : Int) []) (seX L0 S0 [] (E.length : Int) []) = L1 at HSV hZ hDO
  generalize dnS L0 S0 [] (seB L0 S0 [] (E.length : Int) []) (seX L0 S0 [] (E.length : Int) []) = S1 at HSV hZ hDO
  generalize dnO L0 S0 [] (seB L0 S0 [] (E.length : Int) []) (seX L0 S0 [] (E.length : Int) []) = O1 at HSV hZ hDO
  rw [hE] at hZ
  have HZ := hide hZ
  have HDO := hide hDO
  have HEL := hide hel
  have HEB := hide heb
  have HRE := hide (show RowAt entE W2 ae es from r3.below hb2)
  have HFE := hide (row_farG r3 w1.heap.size (Nat.le_refl _))
  have HN2 := hide (show NwB w1.heap.size (.slice aL L0.length cL) (.slice aS S0.length cS) (.slice aO 0 cO) W2 from by rw [hW2]; exact NwB.new w1 _ _ _)
  have HB2 := hide (belOn hb1 hb2)
  have hz2 : w1.heap.size < W2.heap.size := by rw [hW2]; simp
  have HW2 := hide hW2.symm
  have HES := hide (rec_small L0 S0 [])
  rw [hE] at HES
  clear r1 r2 r3 ad1 ad2 ad3 adE hF hel heb n1 n2 n3 hb1 hb2 hW2 hD hE hZ hDO
  go_wp2_with fail
  rw [unhide HW2]
  refine (unhide HRW).mono ?_
  rintro e w3 ⟨sl, rfl, oj, hb3⟩
  obtain ⟨aw, cw, rfl⟩ := oj.form
  obtain ⟨W4, hW4⟩ : ∃ W4, W4 = w3.alloc (.cells #[.int .i64 T, .int .i64 V, .slice aw E.length cw] 34) := ⟨_, rfl⟩
  have hb4 : Below W2.heap.size W2 W4 := by rw [hW4]; exact belOn hb3 (bel1 _ _)
  have HJ4 := hide (show DC w3.heap.size (.int .i64 T) (.int .i64 V) (.slice aw E.length cw) W4 from by rw [hW4]; exact ⟨by simp, by simp [go_sem], by simp [go_sem], by simp [go_sem]⟩)
  have HV4 := hide (show RowAt entE W4 aw E ∧ AdG aw cw ∧ ∀ k, inB aw k → k ≠ w1.heap.size from ⟨by rw [hW4]; exact oj.at.below (bel1 _ _), oj.adG, fun k hk => by have := oj.bl k hk; omega⟩)
  have HN4 := hide ((unhide HN2).below hb4)
  have HE4 := hide ((unhide HRE).below hb4)
  have HB24 := hide hb4
  have hjb : w3.heap.size ≠ w1.heap.size := by have := hb3.size; omega
  have HW4 := hide hW4.symm
  clear oj hb3 hb4 hW4 HRW HN2 HRE
  go_upto_region 5 with fail
  rw [unhide HW4]
  obtain ⟨-, c0, c1, c2, -, -, -⟩ := unhide HN4
  cases ok with
  | false =>
    go_wp2_with fail
    go_ret
    exact ⟨rfl, belOn (unhide HB2) (unhide HB24)⟩
  | true =>
    obtain ⟨-, -, -, j2⟩ := unhide HJ4
    have HZ1 := hide (unhide HZ rfl)
    clear HZ
    go_upto_region 7 with fail
    go_wp2_with fail
    refine (unhide HSV W4 (unhide HB24)).mono ?_
    rintro e w5 ⟨xL, kL, xS, kS, xO, kO, rfl, s1, s2, s3, sad, f1, f2, f3, hb5⟩
    have hz4 : W2.heap.size ≤ W4.heap.size := (unhide HB24).size
    obtain ⟨W6, hW6⟩ : ∃ W6, W6 = ((w5.setCell ⟨w1.heap.size, 0, none⟩ (.slice xL L1.length kL)).setCell ⟨w1.heap.size, 1, none⟩ (.slice xS S1.length kS)).setCell ⟨w1.heap.size, 2, none⟩ (.slice xO O1.length kO) := ⟨_, rfl⟩
    have hTD : TDk w1.heap.size L1 S1 O1 W6 := by rw [hW6]; exact TDk.put ((unhide HN4).below hb5) s1 s2 s3 sad (fun k hk => by have := f1 k hk; omega) (fun k hk => by have := f2 k hk; omega) (fun k hk => by have := f3 k hk; omega)
    have HV6 := hide (show RowAt entE W6 aw E ∧ AdG aw cw from by rw [hW6]; exact ⟨((unhide HV4).1.below hb5).set3 (unhide HV4).2.2, (unhide HV4).2.1⟩)
    have hS6 : TLs w W6.heap.size w3.heap.size T V aw E.length cw ae es W6 := ⟨by rw [hW6]; exact ((unhide HJ4).below hb5).set3 hjb, by rw [hW6]; exact rowSetOr ((unhide HE4).below hb5) (unhide HFE), Nat.le_refl _, by rw [hW6]; exact below3 (belOn (unhide HB2) (belOn (unhide HB24) hb5)) hz1⟩
    have hD6 : TLd w1.heap.size S1 C T V E es 0 W6 := ⟨L1, O1, hTD, unhide HDO, fun _ => rfl, fun hc => by
      obtain ⟨L, h1, h2, h3, h4, h5, h6⟩ := unhide HZ1 hc
      subst h2
      rw [h3, h4, List.take_zero, List.append_nil]
      exact ⟨rfl, disk_synced h1, h6⟩⟩
    have hDB : w1.heap.size < W6.heap.size := by have := hb5.size; rw [hW6]; simp; omega
    have HSV6 := hide (fun (hc : C = 0) => (show filesB S1 = true ∧ votD S1 = some (T, V) from by
      obtain ⟨L, h1, h2, h3, h4, h5, h6⟩ := unhide HZ1 hc
      rw [h3]
      exact ⟨h1, h5⟩))
    have HS6 := hide hS6
    have HD6 := hide hD6
    have HW6 := hide hW6.symm
    obtain ⟨-, -, -, j2'⟩ := hS6.dc
    obtain ⟨-, n0, n1, n2, z0, z1, z2⟩ := (unhide HN4).below hb5
    clear s1 s2 s3 sad f1 f2 f3 hb5 hW6 hTD hS6 hD6 HN4 HV4 HJ4 HE4 HB24 HB2 HZ1 HDO HSV c0 c1 c2 j2 hz2 hz4
    go_upto_region 8 with fail
    rw [unhide HW6]
    clear n0 n1 n2 z0 z1 z2
    have hE5 : E.length ≤ 500 := (unhide HES).1
    obtain ⟨B, hBz, hDB2⟩ : ∃ B, B ≤ W6.heap.size ∧ w1.heap.size < B := ⟨W6.heap.size, Nat.le_refl _, hDB⟩
    have HV6a := hide ((unhide HV6).1.below (bel1 W6 (.cells #[] 45)))
    have HOE := hide (ownR_empty entE W6 W6.heap.size (Nat.le_refl _))
    have hlz : ([] : List Ent).length + E.length < 100000000 := by simp; omega
    have hBz2 : W6.heap.size ≤ (W6.alloc (.cells #[] 45)).heap.size := by simp
    have hAD := (unhide HV6).2
    have j3 : (W6.alloc (.cells #[] 45)).cell? ⟨w3.heap.size, 2, none⟩ = some (.slice aw E.length cw) := bcl (bel1 _ _) (unhide HS6).dc.lt j2'
    go_upto_block 0 with (at_builtin; go_must (refine appGG (e := entE) rfl _ _ rfl (unhide HOE) rfl aw E.length cw rfl rfl (unhide HV6a) hAD hlz hBz2 ?_); intro v9 w9 hO9 hb9; obtain ⟨a9, c9, hv9⟩ := hO9.form; rw [List.nil_append] at hO9 hv9; subst hv9)
    have hb69 : Below W6.heap.size W6 w9 := (bel1 W6 _).trans hb9
    have HS9 := hide (show TLs w B w3.heap.size T V aw E.length cw ae es w9 from ⟨((unhide HS6).dc).below hb69, (unhide HS6).row.below hb69, Nat.le_trans hBz hb69.size, belOn (unhide HS6).bl hb69⟩)
    have HD9 := hide ((unhide HD6).below hb69)
    have HO9 := hide (show OwnR entE w9 B (.slice a9 (E.length + 0) c9) (E ++ es.take 0) from by rw [List.take_zero, List.append_nil]; exact hO9.le hBz)
    clear hO9 hb9 hb69 HS6 HD6 HV6 HV6a HOE hAD hlz hBz2 j2' HW6
    go_cut [9] (fun s9 wx => ∃ i a9 c9, s9 = .slice a9 (E.length + i) c9 ∧ i ≤ es.length ∧ Hid (OwnR entE wx B (.slice a9 (E.length + i) c9) (E ++ es.take i)) ∧ Hid (TLd w1.heap.size S1 C T V E es i wx) ∧ Hid (TLs w B w3.heap.size T V aw E.length cw ae es wx))
    case first =>
      go_wp2_with fail
      go_loopw [9, 10] (fun s9 s10 wr => ∃ i a9 c9, s9 = .slice a9 (E.length + i) c9 ∧ s10 = .int .i64 i ∧ i ≤ es.length ∧ Hid (OwnR entE wr B (.slice a9 (E.length + i) c9) (E ++ es.take i)) ∧ Hid (TLd w1.heap.size S1 C T V E es i wr) ∧ Hid (TLs w B w3.heap.size T V aw E.length cw ae es wr)) (fun _ s10 _ => es.length - (intOf s10).toNat)
      case atStart => exact ⟨0, a9, c9, rfl, rfl, by omega, HO9, HD9, HS9⟩
      case round =>
        clear HO9 HD9 HS9
        obtain ⟨i, a9, c9, rfl, rfl, hi, HO, HD, HS⟩ := hrel
        by_cases hc : C = 0
        · subst hc
          by_cases hin : i < es.length
          · obtain ⟨g5, e5, l5, p0, p1, p2⟩ := (unhide HS).row.ex i hin
            subst e5
            obtain ⟨lv, ops, ⟨qL, dL, qS, dS, qO, dO, hNW, ⟨t1, t2, t3⟩, ⟨d1, d2, d3⟩⟩, hfit, -, hz⟩ := unhide HD
            obtain ⟨hops, hdB, hjo⟩ := hz rfl
            have hS1 := And.intro hfit.2.1 hfit.2.2.2.2.1
            have hsz := (unhide HS).sz
            have hbd := (unhide HEB) es[i] (List.getElem_mem _)
            have htk : E ++ es.take (i + 1) = (E ++ es.take i) ++ [es[i]] := by rw [List.take_succ_eq_append_getElem hin, List.append_assoc]
            have htd := torn_do (lv := lv) (S := S1) hin
            rw [← hops] at htd
            generalize es[i] = x at p0 p1 p2 hbd htk htd
            obtain ⟨tm, kd, bd⟩ := x
            simp only at p0 p1 p2 hbd
            rw [show entO ⟨tm, kd, bd⟩ = ⟨1, logN, ⟨#[]⟩, entT tm kd bd⟩ from rfl] at htd
            have HET := hide (fun W => impl_EntryText tm kd bd W (Nat.le_trans hbd (by decide)))
            have hTz := entT_le tm kd bd
            generalize entT tm kd bd = T1 at htd HET hTz
            have hsmo : SmO ⟨1, logN, ⟨#[]⟩, T1⟩ := ⟨by show logN.size ≤ 1000000000; decide, Nat.zero_le _, by show _ ≤ 1000000000; simp only []; omega⟩
            have HDA := hide (fun (W : World) (hW : Below wr.heap.size wr W) => impl_DoA qL lv.length dL lv qS S1.length dS S1 qO ops.length dO ops 1 logN ⟨#[]⟩ T1 W ⟨t1.below hW, t2.below hW, t3.below hW, rfl, rfl, rfl, d1, d2, d3, hfit.1, hfit.2.1, hfit.2.2.1, hfit.2.2.2.1, hfit.2.2.2.2.1, hfit.2.2.2.2.2⟩ hsmo)
            have htd := htd hdB
            unfold DskPost at HDA
            generalize actC lv S1 ops [⟨1, logN, ⟨#[]⟩, T1⟩] = c1 at HDA htd
            generalize actL lv S1 ops [⟨1, logN, ⟨#[]⟩, T1⟩] = L2 at HDA htd
            generalize actS lv S1 ops = S2 at HDA htd
            generalize actO lv S1 ops [⟨1, logN, ⟨#[]⟩, T1⟩] = O2 at HDA htd
            unfold logN at HDA
            have hlA : (E ++ es.take i).length = E.length + i := by rw [List.length_append, List.length_take]; omega
            have hbA : Below wr.heap.size wr (wr.alloc (.cells #[] 45)).drew := belDrew (bel1 _ _)
            have hbB : Below wr.heap.size wr ((wr.alloc (.cells #[] 45)).alloc (.cells #[.int .i64 tm, .int .i64 kd, .string bd] 45)).drew := belDrew (belOn (bel1 _ _) (bel1 _ _))
            have hbC : Below wr.heap.size wr ((wr.alloc (.cells #[.int .i64 tm, .int .i64 kd, .string bd] 45)).alloc (.cells #[] 45)).drew := belDrew (belOn (bel1 _ _) (bel1 _ _))
            have HOA := hide (show OwnR entE (wr.alloc (.cells #[] 45)).drew wr.heap.size (.slice (some ⟨wr.heap.size, 0, none⟩) 0 0) [] from ownR_empty entE wr wr.heap.size (Nat.le_refl _))
            have HOB := hide (show OwnR entE ((wr.alloc (.cells #[] 45)).alloc (.cells #[.int .i64 tm, .int .i64 kd, .string bd] 45)).drew wr.heap.size (.slice (some ⟨wr.heap.size, 0, none⟩) 0 0) [] from (ownR_empty entE wr wr.heap.size (Nat.le_refl _)).keep (belDrew (bel1 _ _)))
            have HOC := hide (show OwnR entE ((wr.alloc (.cells #[.int .i64 tm, .int .i64 kd, .string bd] 45)).alloc (.cells #[] 45)).drew wr.heap.size (.slice (some ⟨wr.heap.size + 1, 0, none⟩) 0 0) [] from by have q := ownR_empty entE (wr.alloc (.cells #[.int .i64 tm, .int .i64 kd, .string bd] 45)) wr.heap.size (by simp); rw [World.size_alloc] at q; exact q)
            have HXB := hide (show RowAt entE ((wr.alloc (.cells #[] 45)).alloc (.cells #[.int .i64 tm, .int .i64 kd, .string bd] 45)).drew (some ⟨wr.heap.size + 1, 0, none⟩) [⟨tm, kd, bd⟩] from by have q := rowE_one (wr.alloc (.cells #[] 45)) ⟨tm, kd, bd⟩; rw [World.size_alloc] at q; exact q)
            have HXC := hide (show RowAt entE ((wr.alloc (.cells #[.int .i64 tm, .int .i64 kd, .string bd] 45)).alloc (.cells #[] 45)).drew (some ⟨wr.heap.size, 0, none⟩) [⟨tm, kd, bd⟩] from (rowE_one wr ⟨tm, kd, bd⟩).below (belDrew (bel1 _ _)))
            have HRA := hide ((unhide HO).at.below hbA)
            have HRB := hide ((unhide HO).at.below hbB)
            have HRC := hide ((unhide HO).at.below hbC)
            have hAD := (unhide HO).adG
            have hel4 := unhide HEL
            have hlz : ([] : List Ent).length + (E.length + i) < 100000000 := by simp; omega
            have hzA : wr.heap.size ≤ (wr.alloc (.cells #[] 45)).drew.heap.size := hbA.size
            have hzB : wr.heap.size ≤ ((wr.alloc (.cells #[] 45)).alloc (.cells #[.int .i64 tm, .int .i64 kd, .string bd] 45)).drew.heap.size := hbB.size
            have hzC : wr.heap.size ≤ ((wr.alloc (.cells #[.int .i64 tm, .int .i64 kd, .string bd] 45)).alloc (.cells #[] 45)).drew.heap.size := hbC.size
            have hl8 : (E ++ es.take (i + 1)).length = E.length + (i + 1) := by rw [List.length_append, List.length_take]; omega
            have hlB : ([] ++ (E ++ es.take i)).length + 1 < 100000000 := by rw [List.nil_append, hlA]; omega
            go_upto_region 12 with fail
            go_cut [11] (fun s11 wx => ∃ a8 c8, s11 = .slice a8 (E.length + (i + 1)) c8 ∧ Hid (OwnR entE wx wr.heap.size (.slice a8 (E.length + (i + 1)) c8) (E ++ es.take (i + 1))) ∧ Hid (Below wr.heap.size wr wx))
            case first =>
              --A{
              go_region_law (first
                | (refine stepGR (e := entE) rfl (.tmp 67) (.tmp 68) rfl (unhide HOA) (by simp [Act.eval]) a9 (E.length + i) c9 (by simp [Act.eval]) hlA (unhide HRA) hAD hlz hzA ?_; intro v7 w7 hO7 hb7 hg7; have bb7 := hbA.trans hb7; have p0' := bcl bb7 l5 p0; have p1' := bcl bb7 l5 p1; have p2' := bcl bb7 l5 p2)
                | (refine stepGR (e := entE) rfl (.tmp 67) (.tmp 68) rfl (unhide HOB) (by simp [Act.eval]) a9 (E.length + i) c9 (by simp [Act.eval]) hlA (unhide HRB) hAD hlz hzB ?_; intro v7 w7 hO7 hb7 hg7; have bb7 := hbB.trans hb7; have HX7 := hide (rowGr (unhide HXB) hg7 (by show wr.heap.size + 1 ≠ wr.heap.size; omega)))
                | (refine stepGR (e := entE) rfl (.tmp 67) (.tmp 68) rfl (unhide HOC) (by simp [Act.eval]) a9 (E.length + i) c9 (by simp [Act.eval]) hlA (unhide HRC) hAD hlz hzC ?_; intro v7 w7 hO7 hb7 hg7; have bb7 := hbC.trans hb7; have HX7 := hide (rowGr (unhide HXC) hg7 (by show wr.heap.size ≠ wr.heap.size + 1; omega)))
                | (refine stepG1 (e := entE) rfl (.tmp 69) (.tmp 74) rfl hO7 (by simp [Act.eval]) (⟨tm, kd, bd⟩ : Ent) rfl _ (by simp [Act.eval]) rfl (by omega) bb7.size ?_; intro v8 w8 hO8 hb8 hg8; rw [List.nil_append, ← htk] at hO8; obtain ⟨a8, c8, hv8⟩ := hO8.form; rw [hl8] at hv8; subst hv8; have bb8 := bb7.trans hb8)
                | (refine stepGR (e := entE) (ys := [⟨tm, kd, bd⟩]) rfl (.tmp 69) (.tmp 74) rfl hO7 (by simp [Act.eval]) _ 1 1 (by simp [Act.eval]) rfl (unhide HX7) (.inr ⟨_, rfl⟩) hlB bb7.size ?_; intro v8 w8 hO8 hb8 hg8; rw [List.nil_append, ← htk] at hO8; obtain ⟨a8, c8, hv8⟩ := hO8.form; rw [hl8] at hv8; subst hv8; have bb8 := bb7.trans hb8))
              all_goals (try go_wp2_with fail)
              all_goals go_meet
              all_goals exact ⟨a8, c8, rfl, hide hO8, hide bb8⟩
              --}A
            case rest =>
            obtain ⟨w8, rfl⟩ : ∃ w8, w8 = wc := ⟨_, rfl⟩
            obtain ⟨a8, c8, rfl, HO8, HB8⟩ := hcut
            clear HOA HOB HOC HXB HXC HRA HRB HRC hbA hbB hbC hzA hzB hzC hAD hlz hlB
            have HS8 := hide ((unhide HS).below (unhide HB8))
            have HJ := hide (spec_JournalOk T V a8 (E.length + (i + 1)) c8 (E ++ es.take (i + 1)) w8 ⟨(unhide HO8).at, hl8, by omega, fun e he => (List.mem_append.1 he).elim (fun q => Nat.le_trans ((unhide HES).2 e q) (by decide)) (fun q => Nat.le_trans (unhide HEB e (List.mem_of_mem_take q)) (by decide))⟩ (own_cap (unhide HO8)))
            obtain ⟨-, k0, k1, k2⟩ := (unhide HS8).dc
            obtain ⟨J, hJ⟩ : ∃ J, jouB T V (E ++ es.take (i + 1)) = J := ⟨_, rfl⟩
            rw [hJ] at HJ
            have HJB := hide hJ
            have HNW := hide hNW
            clear hJ hNW t1 t2 t3 d1 d2 d3 hfit hops hdB hjo hz
            go_wp2_with fail
            refine (unhide HJ).mono ?_
            rintro e w9 ⟨rfl, hb9⟩
            have HB9 := hide (belOn (unhide HB8) hb9)
            have HO9 := hide ((unhide HO8).keep hb9)
            clear hb9 HJ HS8 HB8 HO8 k0 k1 k2
            cases J with
            | false =>
              go_wp2_with fail
              go_meet
              exact ⟨i, a9, c9, rfl, hi, hide ((unhide HO).keep (unhide HB9)), hide ((unhide HD).below (unhide HB9)), hide ((unhide HS).below (unhide HB9))⟩
            | true =>
              obtain ⟨hlD9, n0, n1, n2, -, -, -⟩ := (unhide HNW).below (unhide HB9)
              have s0 := bcl (bel1 w9 (.cells #[.slice none 0 0, .slice none 0 0, .slice none 0 0] 27)) hlD9 n0
              have s1 := bcl (bel1 w9 (.cells #[.slice none 0 0, .slice none 0 0, .slice none 0 0] 27)) hlD9 n1
              have s2 := bcl (bel1 w9 (.cells #[.slice none 0 0, .slice none 0 0, .slice none 0 0] 27)) hlD9 n2
              have p0' := bcl (unhide HB9) l5 p0
              have p1' := bcl (unhide HB9) l5 p1
              have p2' := bcl (unhide HB9) l5 p2
              have l5' : g5 < w9.heap.size := Nat.lt_of_lt_of_le l5 (unhide HB9).size
              clear p0 p1 p2
              go_upto_region 14 with fail
              go_cut [12, 13] (fun s12 s13 wx => ∃ d, s12 = .pointer (some ⟨d, 0, none⟩) ∧ s13 = .int .i64 c1 ∧ w9.heap.size ≤ d ∧ Hid (TDb w9.heap.size d L2 S2 O2 wx) ∧ Hid (Below w9.heap.size w9 wx))
              case first =>
                --B{
                go_region_law (first
                  | (go_simp; go_at_call 18; refine (unhide HET w9.drew).mono ?_; rintro e w11 ⟨rfl, hb11⟩; have BB1 : Below w9.heap.size w9 w11 := belOn (belDrew (Below.refl _ _)) hb11; obtain ⟨hlD, n0', n1', n2', -, -, -⟩ := (unhide HNW).below (belOn (unhide HB9) BB1); have r0 := bcl (bel1 w11 (.cells #[.slice none 0 0, .slice none 0 0, .slice none 0 0] 27)) hlD n0'; have r1 := bcl (bel1 w11 (.cells #[.slice none 0 0, .slice none 0 0, .slice none 0 0] 27)) hlD n1'; have r2 := bcl (bel1 w11 (.cells #[.slice none 0 0, .slice none 0 0, .slice none 0 0] 27)) hlD n2'; have p0x := bcl BB1 l5' p0'; have p1x := bcl BB1 l5' p1'; have p2x := bcl BB1 l5' p2')
                  | (go_simp; go_at_call 18; refine (unhide HET (w9.alloc (.cells #[.slice none 0 0, .slice none 0 0, .slice none 0 0] 27)).drew).mono ?_; rintro e w11 ⟨rfl, hb11⟩; have BB1 : Below w9.heap.size w9 w11 := belOn (belDrew (bel1 _ _)) hb11; have NB := (((NwB.new w9 (.slice none 0 0) (.slice none 0 0) (.slice none 0 0)).below (belDrew (Below.refl _ _))).below hb11); obtain ⟨hlD, n0', n1', n2', -, -, -⟩ := (unhide HNW).below (belOn (unhide HB9) BB1); have r0 := bcl (bel1 w11 (.cells #[.slice none 0 0, .slice none 0 0, .slice none 0 0] 27)) hlD n0'; have r1 := bcl (bel1 w11 (.cells #[.slice none 0 0, .slice none 0 0, .slice none 0 0] 27)) hlD n1'; have r2 := bcl (bel1 w11 (.cells #[.slice none 0 0, .slice none 0 0, .slice none 0 0] 27)) hlD n2'; have p0x := bcl BB1 l5' p0'; have p1x := bcl BB1 l5' p1'; have p2x := bcl BB1 l5' p2')
                  | (go_simp; go_at_call 17; refine (unhide HDA w11 (belOn (unhide HB9) BB1)).mono ?_; rintro e w12 ⟨uL, iL, uS, iS, uO, iO, rfl, u1, u2, u3, -, hb12⟩; have BB2 := belOn BB1 hb12; have NB2 := NB.below hb12; have hdB := NB.lt; have hzd := Nat.le_refl w9.heap.size; have NB3 := hide NB2; obtain ⟨-, m0, m1, m2, y0, y1, y2⟩ := NB2)
                  | (go_simp; go_at_call 17; refine (unhide HDA (w11.alloc (.cells #[.slice none 0 0, .slice none 0 0, .slice none 0 0] 27)) (belOn (unhide HB9) (belOn BB1 (bel1 _ _)))).mono ?_; rintro e w12 ⟨uL, iL, uS, iS, uO, iO, rfl, u1, u2, u3, -, hb12⟩; have BB2 := belOn (belOn BB1 (bel1 _ _)) hb12; have NB2 := (NwB.new w11 (.slice none 0 0) (.slice none 0 0) (.slice none 0 0)).below hb12; have hdB : w11.heap.size < (w11.alloc (.cells #[.slice none 0 0, .slice none 0 0, .slice none 0 0] 27)).heap.size := (by simp); have hzd := BB1.size; have NB3 := hide NB2; obtain ⟨-, m0, m1, m2, y0, y1, y2⟩ := NB2)
                  | (go_simp; go_at_call 17; refine (unhide HDA w11 (belOn (unhide HB9) BB1)).mono ?_; rintro e w12 ⟨uL, iL, uS, iS, uO, iO, rfl, u1, u2, u3, -, hb12⟩; have BB2 := belOn BB1 hb12))
                all_goals (try go_wp2_with fail)
                all_goals go_meet
                all_goals first | exact tdk_finA u1 u2 u3 BB2 BB1.size | exact tdk_fin (unhide NB3) hdB hzd u1 u2 u3 BB2
                --}B
              case rest =>
              obtain ⟨w13, rfl⟩ : ∃ w13, w13 = wc := ⟨_, rfl⟩
              obtain ⟨dN, rfl, rfl, hdN, HT13, HB13⟩ := hcut
              have hz9' := (unhide HB9).size
              have HO13 := hide ((unhide HO9).keep (unhide HB13))
              have HB19 := hide (belOn (unhide HB9) (unhide HB13))
              clear HO9 HB9 n0 n1 n2 p0' p1' p2' s0 s1 s2
              by_cases hc1 : c1 = 0
              · subst hc1
                obtain ⟨x1, x2, x3, x4, x5, x6, x7⟩ := htd rfl
                subst x1
                rw [← x2] at x3 x6 x7
                have HX2 := hide x2
                clear x2 htd
                obtain ⟨uL, iL, uS, iS, uO, iO, hN13, ⟨v1, v2, v3⟩, hv, g1, g2, g3⟩ := unhide HT13
                obtain ⟨-, m0, m1, m2, -, -, -⟩ := hN13
                have hNW2 := (unhide HNW).below (unhide HB19)
                obtain ⟨-, y0, y1, y2, z0, z1, z2⟩ := hNW2
                have hz9 := (unhide HB19).size
                have hz91 : wr.heap.size ≤ w9.heap.size := hz9'
                go_wp2_with fail
                go_roundw
                case rel =>
                  exact ⟨i + 1, a8, c8, rfl, by go_num, by omega, hide (((unhide HO13).le hsz).setD hDB2), hide ⟨L2, O2, TDk.put ((unhide HNW).below (unhide HB19)) v1 v2 v3 hv (fun k hk => by have := g1 k hk; omega) (fun k hk => by have := g2 k hk; omega) (fun k hk => by have := g3 k hk; omega), ⟨x4, hS1.1, x7, x5, hS1.2, x6⟩, fun h => absurd rfl h, fun _ => ⟨unhide HX2, x3, unhide HJB⟩⟩, hide (((unhide HS).below (unhide HB19)).set hjb (unhide HFE) hz1)⟩
                case measure => simp [intOf]; omega
              · have hcb : (c1 != 0) = true := by simp [bne, hc1]
                go_wp2_with fail
                go_meet
                exact ⟨i, a9, c9, rfl, hi, hide ((unhide HO).keep (unhide HB19)), hide ((unhide HD).below (unhide HB19)), hide ((unhide HS).below (unhide HB19))⟩
          · go_wp2_with fail
            go_meet
            exact ⟨i, a9, c9, rfl, hi, HO, HD, HS⟩
        · have hcb : (C == 0) = false := beq_eq_false_iff_ne.2 hc
          go_wp2_with fail
          all_goals go_meet
          all_goals exact ⟨i, a9, c9, rfl, hi, HO, HD, HS⟩
    case rest =>
    obtain ⟨W10, rfl⟩ : ∃ W10, W10 = wc := ⟨_, rfl⟩
    clear HO9 HD9 HS9
    obtain ⟨i, a9, c9, rfl, hi, HO, HD, HS⟩ := hcut
    obtain ⟨lv, ops, ⟨qL, dL, qS, dS, qO, dO, hNW, ⟨t1, t2, t3⟩, ⟨d1, d2, d3⟩⟩, hfit, hi0, hz⟩ := unhide HD
    have hel4 := unhide HEL
    have hlA : (E ++ es.take i).length = E.length + i := by rw [List.length_append, List.length_take]; omega
    have HDK := hide (fun (W : World) (hW : Below W10.heap.size W10 W) => (show DiskAt W qL lv.length dL lv qS S1.length dS S1 qO ops.length dO ops from ⟨t1.below hW, t2.below hW, t3.below hW, rfl, rfl, rfl, d1, d2, d3, hfit.1, hfit.2.1, hfit.2.2.1, hfit.2.2.2.1, hfit.2.2.2.2.1, hfit.2.2.2.2.2⟩))
    have HRF := hide (spec_ReadFile qL lv.length dL lv qS S1.length dS S1 qO ops.length dO ops logN W10 (unhide HDK W10 (Below.refl _ _)) (by decide))
    unfold readV at HRF
    obtain ⟨R, hR⟩ : ∃ R, fileF lv S1 ops logN = R := ⟨_, rfl⟩
    rw [hR] at HRF
    obtain ⟨FS, hFS⟩ : ∃ FS, R.getD ⟨#[]⟩ = FS := ⟨_, rfl⟩
    rw [hFS] at HRF
    unfold logN at HRF
    have HFS := hide (show (fileF lv S1 ops logN).getD ⟨#[]⟩ = FS from by rw [hR]; exact hFS)
    obtain ⟨A, hA⟩ : ∃ A, E ++ es.take i = A := ⟨_, rfl⟩
    have HAF := hide (show ∀ e ∈ A, e.body.size ≤ 1000000000 from fun e he => by
      rw [← hA] at he
      exact (List.mem_append.1 he).elim (fun q => Nat.le_trans ((unhide HES).2 e q) (by decide)) (fun q => Nat.le_trans (unhide HEB e (List.mem_of_mem_take q)) (by decide)))
    rw [hA] at hlA HO
    have HLA := hide hlA
    obtain ⟨nA, hnA⟩ : ∃ m, E.length + i = m := ⟨_, rfl⟩
    rw [hnA] at HO HLA
    have HNA := hide hnA
    have hbA : nA ≤ 504 := by have := (unhide HES).1; omega
    have hOL : ops.length ≤ 1048576 := hfit.2.2.2.2.2
    have HZ := hide hz
    have HA := hide hA
    have HNW := hide hNW
    obtain ⟨-, n0, n1, n2, -, -, -⟩ := hNW
    rw [hnA]
    clear t1 t2 t3 d1 d2 d3 hfit hz hA hnA hlA hR hFS HD hi0
    go_wp2_with fail
    refine (unhide HRF).mono ?_
    rintro e w11 ⟨rfl, hb11⟩
    have HB11 := hide hb11
    clear hb11 HRF n0 n1 n2
    go_wp2_with fail
    go_loopw [16, 17] (fun s16 s17 wr => ∃ k : Nat, s17 = .int .i64 k ∧ k ≤ nA ∧ s16 = .string (catQ (A.take k)) ∧ Hid (Below W10.heap.size W10 wr)) (fun _ s17 _ => nA - (intOf s17).toNat)
    case atStart => exact ⟨0, rfl, by omega, by rw [List.take_zero]; rfl, HB11⟩
    case round =>
      clear HB11
      obtain ⟨k, rfl, hk, rfl, HB⟩ := hrel
      by_cases hkn : k < nA
      · have hkl : k < A.length := by rw [unhide HLA]; exact hkn
        obtain ⟨g5, e5, l5, p0, p1, p2⟩ := ((unhide HO).at.below (unhide HB)).ex k hkl
        subst e5
        have hbd := unhide HAF A[k] (List.getElem_mem hkl)
        have hst : catQ (A.take (k + 1)) = catQ (A.take k) ++ entT A[k].term A[k].kind A[k].body := by rw [List.take_succ_eq_append_getElem hkl, catQ_app, catQ, catQ, app_none]
        have hjs : (catQ (A.take k)).size ≤ 20009 * 1000 := by
          rw [catQ_size]
          have := logZ_max (A.take k)
          rw [List.length_take] at this
          omega
        generalize A[k] = x at p0 p1 p2 hbd hst
        obtain ⟨tm, kd, bd⟩ := x
        simp only at p0 p1 p2 hbd hst
        have hle := entT_le tm kd bd
        have HET := hide (fun W => spec_EntryText tm kd bd W (Nat.le_trans hbd (by decide)))
        generalize entT tm kd bd = T1 at HET hst hle
        have e1 := fun W => str_add (a := catQ (A.take k)) (b := T1) W (by omega)
        have HST1 := hide hst
        generalize catQ (A.take k) = CI at e1 HST1
        have i0 : (0 : Int) ≤ (k : Int) := by omega
        have i1 : (k : Int) < (nA : Int) := by omega
        clear hst hjs hle hkl hbd
        go_wp2_with fail
        refine (unhide HET _).mono ?_
        rintro e w12 ⟨rfl, hb12⟩
        have HB12 := hide (belOn (unhide HB) hb12)
        clear hb12 p0 p1 p2
        go_wp2_with fail
        go_roundw
        case rel => exact ⟨k + 1, by go_num, by omega, by rw [unhide HST1], HB12⟩
        case measure => simp [intOf]; omega
      · obtain rfl : nA = k := by omega
        rw [List.take_of_length_le (by rw [unhide HLA]; exact Nat.le_refl _)]
        obtain ⟨WH, hWH⟩ : ∃ WH, catQ A = WH := ⟨_, rfl⟩
        rw [hWH]
        have HWH := hide hWH
        clear hWH
        by_cases hc : C = 0
        · subst hc
          have hc0 : ((0 : Int) != 0) = false := rfl
          by_cases hw : FS = WH
          · subst hw
            have hwb : (FS.toList == FS.toList) = true := (beq_bytes FS FS).2 rfl
            have hwb2 : (FS.toList != FS.toList) = false := by rw [bne, hwb]; rfl
            obtain ⟨-, n0, n1, n2, -, -, -⟩ := (unhide HNW).below (unhide HB)
            obtain ⟨hops, hdB, hjo⟩ := unhide HZ rfl
            have hlog : (tabF lv logN).getD ⟨#[]⟩ = catQ (E ++ es.take i) := by
              have q := unhide HFS
              unfold fileF at q
              rw [if_pos hdB] at q
              rw [q, ← unhide HWH, unhide HA]
            obtain ⟨hs1, hs2⟩ := unhide HSV6 rfl
            obtain ⟨tt, htt⟩ : ∃ tt : Int, (len0 : Int) % 9 = tt := ⟨_, rfl⟩
            have ht0 : 0 ≤ tt := by omega
            have htr := fun (k : Nat) (hk : k ≤ ops.length) => torn_rec (es := es.take i) (k := k) (t := tt) hs1 (by rw [← hops]; exact hdB) hs2 hjo hlog (by rw [hops, List.length_map] at hk; exact hk) ht0
            rw [← hops] at htr
            have HTR := hide htr
            have HOP := hide hops
            clear htr hops hdB hjo hlog hs1 hs2 ht0 HFS HWH HZ
            go_upto_block 4 with fail
            have HK0 := hide (show OwnR i64E (wr.alloc (.cells #[] 2)) wr.heap.size (.slice (some ⟨wr.heap.size, 0, none⟩) 0 0) (allK 0) from ownR_empty i64E wr wr.heap.size (Nat.le_refl _))
            go_cut [18] (fun s18 wx => ∃ k ak ck, s18 = .slice ak k ck ∧ k ≤ ops.length ∧ Hid (OwnR i64E wx wr.heap.size (.slice ak k ck) (allK k)) ∧ Hid (Below wr.heap.size wr wx))
            case first =>
              go_wp2_with fail
              go_loopw [18, 19] (fun s18 s19 wq => ∃ (k : Nat) (ak : Option Addr) (ck : Nat), s18 = .slice ak k ck ∧ s19 = .int .i64 k ∧ k ≤ ops.length ∧ Hid (OwnR i64E wq wr.heap.size (.slice ak k ck) (allK k)) ∧ Hid (Below wr.heap.size wr wq)) (fun _ s19 _ => ops.length - (intOf s19).toNat)
              case atStart => exact ⟨0, _, _, rfl, rfl, by omega, HK0, hide (bel1 _ _)⟩
              case round =>
                obtain ⟨k, ak, ck, rfl, rfl, hk, HOK, HBK⟩ := hrel
                obtain ⟨-, q0, q1, q2, -, -, -⟩ := (unhide HNW).below (belOn (unhide HB) (unhide HBK))
                have hBk := (unhide HBK).size
                have hlk : (allK k).length < 100000000 := by rw [allK_len]; omega
                by_cases hk1 : k < ops.length
                · by_cases hk2 : (k : Int) ≤ (len0 : Int) % 4
                  · go_wp2_with (at_builtin; refine appR (e := i64E) rfl _ _ rfl (unhide HOK) rfl (k : Int) rfl _ rfl rfl hlk hBk ?_; intro v5 w5 hO5 hb5 _; rw [← allK_succ] at hO5; obtain ⟨a5, c5, hv5⟩ := hO5.form; rw [allK_len] at hv5; subst hv5)
                    go_roundw
                    case rel => exact ⟨k + 1, a5, c5, rfl, by go_num, by omega, hide hO5, hide ((unhide HBK).trans hb5)⟩
                    case measure => simp [intOf]; omega
                  · go_wp2_with fail
                    go_meet
                    exact ⟨k, ak, ck, rfl, hk, HOK, HBK⟩
                · go_wp2_with fail
                  go_meet
                  exact ⟨k, ak, ck, rfl, hk, HOK, HBK⟩
            case rest =>
            obtain ⟨w14, rfl⟩ : ∃ w14, w14 = wc := ⟨_, rfl⟩
            clear HK0 n0 n1 n2
            obtain ⟨k, ak, ck, rfl, hk, HOK, HBK⟩ := hcut
            obtain ⟨hcr, hfl, mm, hmm, hrec⟩ := unhide HTR k hk
            have HB14 := hide (belOn (unhide HB) (unhide HBK))
            obtain ⟨-, n0, n1, n2, -, -, -⟩ := (unhide HNW).below (unhide HB14)
            have hCR := impl_CrashO qL lv.length dL lv qS S1.length dS S1 qO ops.length dO ops ak k ck (allK k) tt w14 (unhide HDK w14 (unhide HB14)).toO (allK_len k) (by omega) (unhide HOK).at
            unfold DskPost at hCR
            rw [hcr] at hCR
            generalize crL lv S1 ops (allK k) tt = X at hCR hfl hrec
            have hX1 := small_fit hfl
            have hX2 := (files_small hfl).1
            have hmi : mm ≤ i := by rw [List.length_take] at hmm; omega
            have hAm : E ++ (es.take i).take mm = A.take (E.length + mm) := by
              rw [← unhide HA, List.take_append, List.take_of_length_le (show E.length ≤ E.length + mm by omega), Nat.add_sub_cancel_left]
            rw [hAm] at hrec
            have hnA := unhide HNA
            have hnj : (A.take (E.length + mm)).length = E.length + mm := by rw [List.length_take, unhide HLA]; omega
            obtain ⟨nJ, hnJ⟩ : ∃ m, E.length + mm = m := ⟨_, rfl⟩
            rw [hnJ] at hnj hrec
            have hge : (E.length : Int) ≤ (nJ : Int) := by omega
            have hle : (nJ : Int) ≤ (nA : Int) := by omega
            have HJL := hide hnj
            have HCR := hide hCR
            have HREC := hide hrec
            have HSM := hide (And.intro hX1 (show X.length ≤ 1048576 by omega))
            have hca := own_cap (unhide HO)
            clear hAm hnj hnA hnJ hcr hfl hmm hrec hCR hX1 hX2 HTR
            go_wp2_with fail
            refine (unhide HCR).mono ?_
            rintro e w15 ⟨mL, nL, mS, nS, mO, nO, rfl, o1, o2, o3, -, hb15⟩
            obtain ⟨W16, hW16⟩ : ∃ W16, W16 = w15.alloc (.cells #[.slice mL X.length nL, .slice mS X.length nS, .slice mO 0 nO] 27) := ⟨_, rfl⟩
            have hb16 : Below w14.heap.size w14 W16 := by rw [hW16]; exact belOn hb15 (bel1 _ _)
            have hRC := impl_Recover mL X.length nL X mS X.length nS X mO 0 nO [] W16 (by rw [hW16]; exact ⟨o1.at.below (bel1 _ _), o2.at.below (bel1 _ _), o3.at.below (bel1 _ _), rfl, rfl, rfl, o1.ad, o2.ad, o3.ad, (unhide HSM).1, (unhide HSM).1, fun o ho => (by cases ho), (unhide HSM).2, (unhide HSM).2, Nat.zero_le _⟩)
            rw [unhide HREC] at hRC
            have HRC := hide hRC
            have HB16 := hide (belOn (unhide HB14) hb16)
            have HW16 := hide hW16.symm
            clear o1 o2 o3 hb15 hb16 hW16 hRC HCR n0 n1 n2
            go_wp2_with fail
            rw [unhide HW16]
            refine (unhide HRC).mono ?_
            rintro e w17 ⟨sl, rfl, oj, hb17⟩
            obtain ⟨aj, cj, hsl⟩ := oj.form
            rw [unhide HJL] at hsl
            subst hsl
            obtain ⟨W18, hW18⟩ : ∃ W18, W18 = w17.alloc (.cells #[.int .i64 T, .int .i64 V, .slice aj nJ cj] 34) := ⟨_, rfl⟩
            have hb18 : Below W16.heap.size W16 W18 := by rw [hW18]; exact belOn hb17 (bel1 _ _)
            have hK18 : DC w17.heap.size (.int .i64 T) (.int .i64 V) (.slice aj nJ cj) W18 := by rw [hW18]; exact ⟨by simp, by simp [go_sem], by simp [go_sem], by simp [go_sem]⟩
            have hR18 : RowAt entE W18 aj (A.take nJ) := by rw [hW18]; exact oj.at.below (bel1 _ _)
            have HB18 := hide (belOn (unhide HB16) hb18)
            obtain ⟨hl2, -, -, f2⟩ := (unhide HS).dc.below (unhide HB18)
            obtain ⟨hl1, -, -, e2⟩ := hK18
            have E2 := Grown.cell e2 hl1
            have F2 := Grown.cell f2 hl2
            have HS1 := hide (fun (W : World) (hW : Below W18.heap.size W18 W) => sameEnts_calls aj a9 nJ cj c9 (A.take nJ) W (unhide HJL) (by omega) (hR18.below hW).toO (((unhide HO).at.below (belOn (unhide HB18) hW)).pre nJ).toO)
            have HW18 := hide hW18.symm
            clear oj hb17 hb18 hW18 HRC e2 f2 hl1 hl2 hR18
            go_upto_region 33 with fail
            rw [unhide HW18]
            refine region_grown (by kernel_rfl) (by kernel_rfl) W18 (Below.refl _ _) ?_
            repeat (go_big_quiet_step (first | (go_at_call 12; rename_i xg; exact calls_grown xg (unhide HS1 xg.w xg.ok)) | exact rfl))
            refine wpQuiet_nil ?_
            rintro _ ⟨y, rfl⟩
            all_goals (try go_wp2_with fail)
            all_goals go_ret
            all_goals exact ⟨rfl, belOn (unhide HS).bl (belOn (unhide HB18) y.ok)⟩
          · have hwb : (FS.toList == WH.toList) = false := by
              cases hq : (FS.toList == WH.toList) with
              | false => rfl
              | true => exact absurd ((beq_bytes FS WH).1 hq) hw
            have hwb2 : (FS.toList != WH.toList) = true := by rw [bne, hwb]; rfl
            go_wp2_with fail
            go_ret
            exact ⟨rfl, belOn (unhide HS).bl (unhide HB)⟩
        · have hcb : (C != 0) = true := bne_iff_ne.2 hc
          go_wp2_with fail
          go_ret
          exact ⟨rfl, belOn (unhide HS).bl (unhide HB)⟩
end Go.Proofs.YtakalfckhailjaaGreat
