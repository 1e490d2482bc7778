/-
  What the desk's cards ask beside a walk: what the condition on the listed variables gives, a witness with the library's table laid, the world's shape kept. No condition.
-/
import Derived.Test.YtndpbhmokobbpaaGreatDoorDm11
import Derived.Test.YtndpbhmokobbpaaGreatDoorRows
import Derived.HandedShaped
import Derived.LaidMore
import Derived.LaidLaws
import Derived.LaidHandle
import Derived.Lib.LaidTab
import Derived.Stop.LaidErr
import Derived.Shelf.Vars
import GoSem.PinnedTables
namespace Go.Proofs.YtndpbhmokobbpaaGreatDoor
open Go.RowKit
set_option linter.unusedVariables false

theorem err_of_head {n nm : String} {d : DataW Unit} {r : List (String × DataW Unit)} {W : World} {g : Nat} {ti : TypeId} {ms : Array (String × TypeId)} (h : laidMet Tryz.prog ((n, .iface nm d) :: r) W)
    (hg : Tryz.prog.globalNamed n = some g) (ht : (Tryz.prog.globals[g]?).map (·.type) = some ti) (hi : Tryz.prog.underlying ti = some (.interface ms)) : ∃ tp p, W.var? Tryz.prog n = some #[.iface tp p] := by
  obtain ⟨ps, ⟨g0, t0, cs0, f0, p0, q0, hg0, ht0, hv0, hd0, _, e0⟩, _⟩ := h
  obtain rfl := Option.some.inj (hg.symm.trans hg0)
  obtain rfl := Option.some.inj (ht.symm.trans ht0)
  obtain ⟨_, u, v, hcs, _⟩ := iface_of_trod hi hd0
  have : cs0 = #[.iface u v] := by cases cs0; simp_all
  subst this
  exact ⟨u, v, hv0⟩
theorem size_of_head {n : String} {d : DataW Unit} {r : List (String × DataW Unit)} {W : World} {g : Nat} (h : laidMet Tryz.prog ((n, d) :: r) W) (hg : Tryz.prog.globalNamed n = some g) : g < W.heap.size := by
  obtain ⟨ps, ⟨g0, t0, cs0, f0, p0, q0, hg0, ht0, hv0, _⟩, _⟩ := h
  obtain rfl := Option.some.inj (hg.symm.trans hg0)
  rcases Nat.lt_or_ge g W.heap.size with hlt | hge
  · exact hlt
  · unfold World.var? at hv0
    simp only [hg, Option.bind_some] at hv0
    simp [Array.getElem?_eq_none hge] at hv0
theorem laxD {W : World} (h : W.ShapedOpen Tryz.prog) : ∃ m, W.cell? ⟨2, 0, none⟩ = some (.int .i64 m) :=
  cell_of_shapedOpen_int (g := 2) (t := 3) (zero := #[.int .i64 0]) (k := .i64) h (of_decide_eq_true (by kernel_rfl)) (by kernel_rfl) rfl (by kernel_rfl) (by kernel_rfl) Tryz.underlying3

/-- The list of both cards. -/
def deskLaid : List (String × DataW Unit) := [("math/bits.deBruijn32tab", Rows.laid_math_bits_deBruijn32tab), ("math/bits.deBruijn64tab", Rows.laid_math_bits_deBruijn64tab), ("internal/strconv.uint64pow10", Rows.laid_internal_strconv_uint64pow10), ("unicode/utf8.acceptRanges", Rows.laid_unicode_utf8_acceptRanges), ("strconv.ErrRange", Rows.laid_strconv_ErrRange), ("strconv.ErrSyntax", Rows.laid_strconv_ErrSyntax), ("loop.example/linksandframes/impl.guardedPlaces", Rows.laid_loop_example_linksandframes_impl_guardedPlaces), ("loop.example/linksandframes/impl.guardPlaces", Rows.laid_loop_example_linksandframes_impl_guardPlaces), ("unicode/utf8.first", Rows.laid_unicode_utf8_first)]
theorem pow_laid : (Rows.laid_internal_strconv_uint64pow10 : DataW Unit) = Lib.tabData .u64 Lib.pow10Tab := by kernel_rfl
theorem dA : Tryz.prog.globalNamed "loop.example/linksandframes/impl.guardedPlaces" = some 0 := by kernel_rfl
theorem dB : Tryz.prog.globalNamed "loop.example/linksandframes/impl.guardPlaces" = some 1 := by kernel_rfl
theorem dZ : Tryz.prog.globalNamed "math/bits.deBruijn64tab" = some 9 := by kernel_rfl
theorem dk_of_laid {W : World} (h0 : laidMetH Tryz.prog deskLaid W) (hsh : W.ShapedOpen Tryz.prog) : Dk W := by
  unfold deskLaid at h0
  rw [MakeChecks.laidMetH_plain _ _ _ (by kernel_rfl)] at h0
  have h1 := h0.tail
  have hz := size_of_head h1 dZ
  have h2 := h1.tail
  rw [pow_laid] at h2
  have ht := Lib.tabIs_of_head gTab (t := 127) (e := 111) (by kernel_rfl) Tryz.underlying127 Tryz.underlying111 (by kernel_rfl) (by kernel_rfl) h2
  have h3 := h2.tail.tail
  have hr := err_of_head h3 gRng (ti := 72) (by kernel_rfl) Tryz.underlying72
  have h4 := h3.tail
  have hs := err_of_head h4 gSyn (ti := 72) (by kernel_rfl) Tryz.underlying72
  have h5 := h4.tail
  have ha : Lib.TabIs Tryz.prog W "loop.example/linksandframes/impl.guardedPlaces" .i64 [3, 5, 6, 7] := Lib.tabIs_of_head dA (t := 81) (e := 3) (by kernel_rfl) Tryz.underlying81 Tryz.underlying3 (by kernel_rfl) (by kernel_rfl) h5
  have h6 := h5.tail
  have hb : Lib.TabIs Tryz.prog W "loop.example/linksandframes/impl.guardPlaces" .i64 [1, 2, 4] := Lib.tabIs_of_head dB (t := 82) (e := 3) (by kernel_rfl) Tryz.underlying82 Tryz.underlying3 (by kernel_rfl) (by kernel_rfl) h6
  have hz2 : 9 < W.heap.size := hz
  exact ⟨laxD hsh, ht, hs, hr, ⟨ha.cell dA 0 (by decide), ha.cell dA 1 (by decide), ha.cell dA 2 (by decide), ha.cell dA 3 (by decide), hb.cell dB 0 (by decide), hb.cell dB 1 (by decide), hb.cell dB 2 (by decide), by omega⟩, by omega⟩

theorem change_and_shapedD {H : Type} {enc : TypeId × Value → H} {a : Assume} {C : Checked} {os : Os} {f : FuncId} {fn : Func} {s : ChangeSpec} {conds : List PathCond} {apart fresh handsOn again : Bool} {X : World → Array Value → Prop}
    (hX : ∀ (w w' : World) (args : Array Value), w.heap = w'.heap → X w args → X w' args)
    (own : ownKnob C.prog.godebug = none) (started : os.Started) (noInit : C.prog.inits.idxOf? f = none) (hfn : C.prog.funcs[f]? = some fn)
    (witness : ∃ (w : World) (tape : Tape) (i : Input), w.os = os ∧ (w.forCall tape i).Shaped C.prog ∧ i.vars = [] ∧ Input.okWide C.prog (w.forCall tape i) .any w.heap.size f i ∧
      ((s.pre enc C.prog fn conds apart (w.forCall tape i).memory i.args ∧ X (w.forCall tape i).memory i.args) ∧ sizedMet enc C.prog fn (OpenSpec.ofChange s) apart (w.forCall tape i).memory i.args) ∧ a.holds C.prog (lone (Frame.enter C.prog f i.args .normal) [] (w.forCall tape i)))
    (contract : ∀ (W : World) (base : Nat) (args : Array Value) (ds gs : List (DataW H)) (before : List MemPlace),
      (∀ (j : Nat) t v, fn.params[j]? = some t → args[j]? = some v → Value.okWide C.prog W .any base t v) →
      DataW.Whole enc C.prog fn.params.toList s.vars apart W args.toList ds gs before →
      conds.all (PathCond.test C.prog ⟨fn.params.toList, ds, s.plain.varTypes C.prog, gs⟩) = true →
      (DataW.weightsEach C.prog (fn.params.toList ++ s.plain.varTypes C.prog) (ds ++ gs)).all (· ≤ reachBytes) = true → X W args → W.ShapedOpen C.prog →
      a.holds C.prog (lone (Frame.enter C.prog f args .normal) [] W) →
      Calls C.prog f args W fun e W' => ∃ v, e = .returned v ∧ s.post enc C.prog fn apart fresh handsOn again W args v W') :
    ReturnsInHanded a C os f .any (fun w args => (s.pre enc C.prog fn conds apart w args ∧ X w args) ∧ sizedMet enc C.prog fn (OpenSpec.ofChange s) apart w args) (s.post enc C.prog fn apart fresh handsOn again) := by
  refine returnsInHanded_of_calls own started noInit witness ?_
  intro w tape i _ hsh _ hok hpre hholds
  obtain ⟨_, _, _, fn', hfn', _, _, _, _, hval⟩ := hok
  have e : fn' = fn := Option.some.inj (hfn'.symm.trans hfn)
  subst e
  obtain ⟨⟨⟨ds, gs, before, hw, hc⟩, hx⟩, hz⟩ := hpre
  have hw' := DataW.Whole.of_heap (w' := w.forCall tape i) (by rfl) hw
  refine (contract (w.forCall tape i) w.heap.size i.args ds gs before hval hw' hc (hz.weights hw) (hX _ _ _ (by rfl) hx) hsh hholds).mono fun e W' ⟨v, he, hp⟩ => ?_
  subst he
  exact ChangeSpec.post_blind hp

/-- The door's own world, with the library's table laid. -/
noncomputable def doorD (os : Os) : World :=
  { World.doorLaid Tryz.prog 400 os with heap := (World.doorLaid Tryz.prog 400 os).heap.modify 3 fun o => match o with
    | .cells _ t fr => .cells (Pinned.utf8FirstZ.map fun (n : Nat) => Value.int .u8 (n : Int)).toArray t fr
    | o => o }
end Go.Proofs.YtndpbhmokobbpaaGreatDoor
