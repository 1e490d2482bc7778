/-
  Operations of the plain kinds say no word of the library's, ask nothing of the outside and halt by a panic or a refusal alone, whatever their operands. No condition.
-/
import Derived.Test.YtnbgfffcialfkaaLn29
set_option linter.unusedSimpArgs false
set_option linter.unusedVariables false
namespace Go.Proofs.Ytnbgfffcialfkaa
open Go Go.Conc
set_option linter.unusedVariables false

section
variable {P : Program}
abbrev FineT (P : Program) {α : Type} (e : Sem α) : Prop := Fine P (fun _ => True) e
theorem fineT_bind {α β : Type} {e : Sem α} {f : α → Sem β} (h : FineT P e) (hf : ∀ a, FineT P (f a)) : FineT P (e >>= f) := fine_bind h fun a _ => hf a
theorem fineT_pure {α : Type} (a : α) : FineT P (pure a : Sem α) := trivial
theorem fineT_stuck {α : Type} (s : String) : FineT P (stuck s : Sem α) := trivial
theorem fineT_unsupported {α : Type} (u : Unsupported) : FineT P (unsupported u : Sem α) := trivial
theorem fineT_goPanic {α : Type} (v : Value) : FineT P (goPanic v : Sem α) := trivial
theorem fineT_load (a : Addr) (m : Mode) : FineT P (Go.load a m) := fun _ => trivial
theorem fineT_store (a : Addr) (v : Value) (m : Mode) : FineT P (Go.store a v m) := trivial
theorem fineT_newObj (o : Obj) : FineT P (newObj o) := fun _ => trivial
theorem fineT_shape (r : Nat) : FineT P (shape r) := fun _ => trivial
theorem fineT_freeze (a : Addr) (n : Nat) : FineT P (freeze a n) := trivial
theorem fineT_frozen (a : Addr) : FineT P (frozen a) := fun _ => trivial
theorem fineT_getObj (r : Nat) : FineT P (getObj r) := fun _ => trivial
theorem fineT_choose (q : Question) : FineT P (choose q) := fun _ => trivial
theorem fineT_program : FineT P program := trivial
theorem fineT_askRoom (n : Nat) : FineT P (askRoom n) := by unfold askRoom; split <;> first | exact ⟨rfl, trivial⟩ | trivial
theorem fineT_noRoom : FineT P (mark .noRoom) := ⟨rfl, trivial⟩
theorem fineT_ite {α : Type} {c : Prop} [Decidable c] {a b : Sem α} (h1 : FineT P a) (h2 : FineT P b) : FineT P (if c then a else b) := by split <;> assumption
theorem fineT_map {α β : Type} (f : α → β) {e : Sem α} (h : FineT P e) : FineT P (Functor.map f e) := by
  change FineT P (e.bind fun a => .pure (f a))
  exact fineT_bind h fun _ => trivial
theorem fine_typeInfo (t : TypeId) : FineT P (typeInfo t) := by
  unfold typeInfo
  repeat' (first | (with_reducible exact fineT_pure _) | (with_reducible exact fineT_stuck _) | (with_reducible exact fineT_unsupported _) | (with_reducible exact fineT_program) | (with_reducible exact fineT_noRoom) | (with_reducible exact trivial) | (with_reducible refine fineT_map _ ?_) | (with_reducible refine fineT_bind ?_ (fun _ => ?_)) | (with_reducible refine fineT_ite ?_ ?_) | split | (intro _) | (dsimp only))
theorem fine_underlying (t : TypeId) : FineT P (underlying t) := by
  unfold underlying
  repeat' (first | (with_reducible exact fineT_pure _) | (with_reducible exact fineT_stuck _) | (with_reducible exact fineT_unsupported _) | (with_reducible exact fineT_program) | (with_reducible exact fineT_noRoom) | (with_reducible exact trivial) | (with_reducible refine fineT_map _ ?_) | (with_reducible refine fineT_bind ?_ (fun _ => ?_)) | (with_reducible refine fineT_ite ?_ ?_) | split | (intro _) | (dsimp only))
theorem fine_zeroValue (t : TypeId) : FineT P (zeroValue t) := by
  unfold zeroValue
  repeat' (first | (with_reducible exact fine_typeInfo _) | (with_reducible exact fineT_pure _) | (with_reducible exact fineT_stuck _) | (with_reducible exact fineT_unsupported _) | (with_reducible exact fineT_noRoom) | (with_reducible exact trivial) | (with_reducible refine fineT_map _ ?_) | (with_reducible refine fineT_bind ?_ (fun _ => ?_)) | (with_reducible refine fineT_ite ?_ ?_) | split | (intro _) | (dsimp only))
theorem fine_sizeOf (t : TypeId) : FineT P (sizeOf t) := by
  unfold sizeOf
  repeat' (first | (with_reducible exact fine_typeInfo _) | (with_reducible exact fineT_pure _) | (with_reducible exact fineT_stuck _) | (with_reducible exact fineT_unsupported _) | (with_reducible exact fineT_noRoom) | (with_reducible exact trivial) | (with_reducible refine fineT_map _ ?_) | (with_reducible refine fineT_bind ?_ (fun _ => ?_)) | (with_reducible refine fineT_ite ?_ ?_) | split | (intro _) | (dsimp only))
theorem fine_isAgg (t : TypeId) : FineT P (isAgg t) := by
  unfold isAgg
  repeat' (first | (with_reducible exact fine_underlying _) | (with_reducible exact fineT_pure _) | (with_reducible exact fineT_stuck _) | (with_reducible exact fineT_unsupported _) | (with_reducible exact fineT_noRoom) | (with_reducible exact trivial) | (with_reducible refine fineT_map _ ?_) | (with_reducible refine fineT_bind ?_ (fun _ => ?_)) | (with_reducible refine fineT_ite ?_ ?_) | split | (intro _) | (dsimp only))
theorem fine_loadCellsFrom (a : Addr) : ∀ (n i : Nat) (acc : Array Value), FineT P (loadCellsFrom a i n acc) := by
  intro n
  induction n with
  | zero => intro i acc; unfold loadCellsFrom; exact trivial
  | succ n ih => intro i acc; unfold loadCellsFrom; exact fineT_bind (fineT_load _ _) fun v => ih _ _
theorem fine_loadCells (a : Addr) (n : Nat) : FineT P (loadCells a n) := by
  unfold loadCells
  repeat' (first | (with_reducible exact fine_loadCellsFrom _ _ _ _) | (with_reducible exact fineT_pure _) | (with_reducible exact fineT_stuck _) | (with_reducible exact fineT_unsupported _) | (with_reducible exact fineT_noRoom) | (with_reducible exact trivial) | (with_reducible refine fineT_map _ ?_) | (with_reducible refine fineT_bind ?_ (fun _ => ?_)) | (with_reducible refine fineT_ite ?_ ?_) | split | (intro _) | (dsimp only))
theorem fine_storeCells (a : Addr) : ∀ (vs : List Value) (i : Nat), FineT P (storeCells a vs i) := by
  intro vs
  induction vs with
  | nil => intro i; unfold storeCells; exact trivial
  | cons v vs ih => intro i; unfold storeCells; exact fineT_bind (fineT_store _ _ _) fun _ => ih _
theorem fine_loadVar (t : TypeId) (a : Addr) : FineT P (loadVar t a) := by
  unfold loadVar
  repeat' (first | (with_reducible exact fine_loadCells _ _) | (with_reducible exact fine_isAgg _) | (with_reducible exact fine_sizeOf _) | (with_reducible exact fineT_pure _) | (with_reducible exact fineT_stuck _) | (with_reducible exact fineT_unsupported _) | (with_reducible exact fineT_load _ _) | (with_reducible exact fineT_noRoom) | (with_reducible exact trivial) | (with_reducible refine fineT_map _ ?_) | (with_reducible refine fineT_bind ?_ (fun _ => ?_)) | (with_reducible refine fineT_ite ?_ ?_) | split | (intro _) | (dsimp only))
theorem fine_storeVar (t : TypeId) (a : Addr) (v : Value) : FineT P (storeVar t a v) := by
  unfold storeVar
  repeat' (first | (with_reducible exact fine_storeCells _ _ _) | (with_reducible exact fine_sizeOf _) | (with_reducible exact fineT_pure _) | (with_reducible exact fineT_stuck _) | (with_reducible exact fineT_unsupported _) | (with_reducible exact fineT_noRoom) | (with_reducible exact trivial) | (with_reducible refine fineT_map _ ?_) | (with_reducible refine fineT_bind ?_ (fun _ => ?_)) | (with_reducible refine fineT_ite ?_ ?_) | split | (intro _) | (dsimp only))
theorem fine_newRow (t : TypeId) (cs : Array Value) : FineT P (newRow t cs) := by
  unfold newRow
  repeat' (first | (with_reducible exact fineT_pure _) | (with_reducible exact fineT_stuck _) | (with_reducible exact fineT_unsupported _) | (with_reducible exact fineT_newObj _) | (with_reducible exact fineT_noRoom) | (with_reducible exact trivial) | (with_reducible refine fineT_map _ ?_) | (with_reducible refine fineT_bind ?_ (fun _ => ?_)) | (with_reducible refine fineT_ite ?_ ?_) | split | (intro _) | (dsimp only))
theorem fine_newVar (t : TypeId) (v : Value) : FineT P (newVar t v) := by
  unfold newVar
  repeat' (first | (with_reducible exact fine_newRow _ _) | (with_reducible exact fineT_pure _) | (with_reducible exact fineT_stuck _) | (with_reducible exact fineT_unsupported _) | (with_reducible exact fineT_noRoom) | (with_reducible exact trivial) | (with_reducible refine fineT_map _ ?_) | (with_reducible refine fineT_bind ?_ (fun _ => ?_)) | (with_reducible refine fineT_ite ?_ ?_) | split | (intro _) | (dsimp only))
theorem fine_elemOf (t : TypeId) : FineT P (elemOf t) := by
  unfold elemOf
  repeat' (first | (with_reducible exact fine_underlying _) | (with_reducible exact fineT_pure _) | (with_reducible exact fineT_stuck _) | (with_reducible exact fineT_unsupported _) | (with_reducible exact fineT_noRoom) | (with_reducible exact trivial) | (with_reducible refine fineT_map _ ?_) | (with_reducible refine fineT_bind ?_ (fun _ => ?_)) | (with_reducible refine fineT_ite ?_ ?_) | split | (intro _) | (dsimp only))
theorem fine_part (t : TypeId) (cs : Array Value) (off : Nat) : FineT P (part t cs off) := by
  unfold part
  repeat' (first | (with_reducible exact fine_isAgg _) | (with_reducible exact fine_sizeOf _) | (with_reducible exact fineT_pure _) | (with_reducible exact fineT_stuck _) | (with_reducible exact fineT_unsupported _) | (with_reducible exact fineT_noRoom) | (with_reducible exact trivial) | (with_reducible refine fineT_map _ ?_) | (with_reducible refine fineT_bind ?_ (fun _ => ?_)) | (with_reducible refine fineT_ite ?_ ?_) | split | (intro _) | (dsimp only))
theorem fine_panicString {α : Type} (s : String) : FineT P (panicString s : Sem α) := by
  unfold panicString
  repeat' (first | (with_reducible exact fineT_pure _) | (with_reducible exact fineT_stuck _) | (with_reducible exact fineT_unsupported _) | (with_reducible exact fineT_goPanic _) | (with_reducible exact fineT_program) | (with_reducible exact fineT_noRoom) | (with_reducible exact trivial) | (with_reducible refine fineT_map _ ?_) | (with_reducible refine fineT_bind ?_ (fun _ => ?_)) | (with_reducible refine fineT_ite ?_ ?_) | split | (intro _) | (dsimp only))
theorem fine_runtimePanic {α : Type} (e : RuntimeError) : FineT P (runtimePanic e : Sem α) := by
  unfold runtimePanic
  repeat' (first | (with_reducible exact fine_elemOf _) | (with_reducible exact fine_newVar _ _) | (with_reducible exact fineT_pure _) | (with_reducible exact fineT_stuck _) | (with_reducible exact fineT_unsupported _) | (with_reducible exact fineT_goPanic _) | (with_reducible exact fineT_program) | (with_reducible exact fineT_noRoom) | (with_reducible exact trivial) | (with_reducible refine fineT_map _ ?_) | (with_reducible refine fineT_bind ?_ (fun _ => ?_)) | (with_reducible refine fineT_ite ?_ ?_) | split | (intro _) | (dsimp only))
theorem fine_boundsPanic {α : Type} (k : IntKind) (x y : Int) (c : BoundsCode) : FineT P (boundsPanic k x y c : Sem α) := by
  unfold boundsPanic
  repeat' (first | (with_reducible exact fine_runtimePanic _) | (with_reducible exact fineT_pure _) | (with_reducible exact fineT_stuck _) | (with_reducible exact fineT_unsupported _) | (with_reducible exact fineT_choose _) | (with_reducible exact fineT_noRoom) | (with_reducible exact trivial) | (with_reducible refine fineT_map _ ?_) | (with_reducible refine fineT_bind ?_ (fun _ => ?_)) | (with_reducible refine fineT_ite ?_ ?_) | split | (intro _) | (dsimp only))
theorem fine_asIntOf (v : Value) : FineT P (asIntOf v) := by
  unfold asIntOf
  repeat' (first | (with_reducible exact fineT_pure _) | (with_reducible exact fineT_stuck _) | (with_reducible exact fineT_unsupported _) | (with_reducible exact fineT_noRoom) | (with_reducible exact trivial) | (with_reducible refine fineT_map _ ?_) | (with_reducible refine fineT_bind ?_ (fun _ => ?_)) | (with_reducible refine fineT_ite ?_ ?_) | split | (intro _) | (dsimp only))
theorem fine_asInt (v : Value) : FineT P (asInt v) := by
  unfold asInt
  repeat' (first | (with_reducible exact fine_asIntOf _) | (with_reducible exact fineT_pure _) | (with_reducible exact fineT_stuck _) | (with_reducible exact fineT_unsupported _) | (with_reducible exact fineT_noRoom) | (with_reducible exact trivial) | (with_reducible refine fineT_map _ ?_) | (with_reducible refine fineT_bind ?_ (fun _ => ?_)) | (with_reducible refine fineT_ite ?_ ?_) | split | (intro _) | (dsimp only))
theorem fine_asBool (v : Value) : FineT P (asBool v) := by
  unfold asBool
  repeat' (first | (with_reducible exact fineT_pure _) | (with_reducible exact fineT_stuck _) | (with_reducible exact fineT_unsupported _) | (with_reducible exact fineT_noRoom) | (with_reducible exact trivial) | (with_reducible refine fineT_map _ ?_) | (with_reducible refine fineT_bind ?_ (fun _ => ?_)) | (with_reducible refine fineT_ite ?_ ?_) | split | (intro _) | (dsimp only))
theorem fine_asString (v : Value) : FineT P (asString v) := by
  unfold asString
  repeat' (first | (with_reducible exact fineT_pure _) | (with_reducible exact fineT_stuck _) | (with_reducible exact fineT_unsupported _) | (with_reducible exact fineT_noRoom) | (with_reducible exact trivial) | (with_reducible refine fineT_map _ ?_) | (with_reducible refine fineT_bind ?_ (fun _ => ?_)) | (with_reducible refine fineT_ite ?_ ?_) | split | (intro _) | (dsimp only))
theorem fine_asAddr (v : Value) : FineT P (asAddr v) := by
  unfold asAddr
  repeat' (first | (with_reducible exact fine_runtimePanic _) | (with_reducible exact fineT_pure _) | (with_reducible exact fineT_stuck _) | (with_reducible exact fineT_unsupported _) | (with_reducible exact fineT_noRoom) | (with_reducible exact trivial) | (with_reducible refine fineT_map _ ?_) | (with_reducible refine fineT_bind ?_ (fun _ => ?_)) | (with_reducible refine fineT_ite ?_ ?_) | split | (intro _) | (dsimp only))
theorem fine_viewAt (r : Nat) : FineT P (viewAt r) := by
  unfold viewAt
  repeat' (first | (with_reducible exact fineT_pure _) | (with_reducible exact fineT_stuck _) | (with_reducible exact fineT_unsupported _) | (with_reducible exact fineT_shape _) | (with_reducible exact fineT_getObj _) | (with_reducible exact fineT_noRoom) | (with_reducible exact trivial) | (with_reducible refine fineT_map _ ?_) | (with_reducible refine fineT_bind ?_ (fun _ => ?_)) | (with_reducible refine fineT_ite ?_ ?_) | split | (intro _) | (dsimp only))
theorem fine_numberAt (r : Nat) : FineT P (numberAt r) := by
  unfold numberAt
  repeat' (first | (with_reducible exact fineT_pure _) | (with_reducible exact fineT_stuck _) | (with_reducible exact fineT_unsupported _) | (with_reducible exact fineT_shape _) | (with_reducible exact fineT_getObj _) | (with_reducible exact fineT_noRoom) | (with_reducible exact trivial) | (with_reducible refine fineT_map _ ?_) | (with_reducible refine fineT_bind ?_ (fun _ => ?_)) | (with_reducible refine fineT_ite ?_ ?_) | split | (intro _) | (dsimp only))
theorem fine_asNumber (a : Addr) (b : Bool) : FineT P (asNumber a b) := by
  unfold asNumber
  repeat' (first | (with_reducible exact fineT_pure _) | (with_reducible exact fineT_stuck _) | (with_reducible exact fineT_unsupported _) | (with_reducible exact fineT_newObj _) | (with_reducible exact fineT_noRoom) | (with_reducible exact trivial) | (with_reducible refine fineT_map _ ?_) | (with_reducible refine fineT_bind ?_ (fun _ => ?_)) | (with_reducible refine fineT_ite ?_ ?_) | split | (intro _) | (dsimp only))
theorem fine_behindNumber (a : Addr) : FineT P (behindNumber a) := by
  unfold behindNumber
  repeat' (first | (with_reducible exact fine_numberAt _) | (with_reducible exact fineT_pure _) | (with_reducible exact fineT_stuck _) | (with_reducible exact fineT_unsupported _) | (with_reducible exact fineT_noRoom) | (with_reducible exact trivial) | (with_reducible refine fineT_map _ ?_) | (with_reducible refine fineT_bind ?_ (fun _ => ?_)) | (with_reducible refine fineT_ite ?_ ?_) | split | (intro _) | (dsimp only))
theorem fine_noView (a : Addr) : FineT P (noView a) := by
  unfold noView
  repeat' (first | (with_reducible exact fine_viewAt _) | (with_reducible exact fineT_pure _) | (with_reducible exact fineT_stuck _) | (with_reducible exact fineT_unsupported _) | (with_reducible exact fineT_noRoom) | (with_reducible exact trivial) | (with_reducible refine fineT_map _ ?_) | (with_reducible refine fineT_bind ?_ (fun _ => ?_)) | (with_reducible refine fineT_ite ?_ ?_) | split | (intro _) | (dsimp only))
theorem fine_stringish (a : Addr) : FineT P (stringish a) := by
  unfold stringish
  repeat' (first | (with_reducible exact fineT_pure _) | (with_reducible exact fineT_stuck _) | (with_reducible exact fineT_unsupported _) | (with_reducible exact fineT_shape _) | (with_reducible exact fineT_frozen _) | (with_reducible exact fineT_noRoom) | (with_reducible exact trivial) | (with_reducible refine fineT_map _ ?_) | (with_reducible refine fineT_bind ?_ (fun _ => ?_)) | (with_reducible refine fineT_ite ?_ ?_) | split | (intro _) | (dsimp only))
theorem fine_mayBeOne (a b : Addr) : FineT P (mayBeOne a b) := by
  unfold mayBeOne
  repeat' (first | (with_reducible exact fine_stringish _) | (with_reducible exact fineT_pure _) | (with_reducible exact fineT_stuck _) | (with_reducible exact fineT_unsupported _) | (with_reducible exact fineT_shape _) | (with_reducible exact fineT_noRoom) | (with_reducible exact trivial) | (with_reducible refine fineT_map _ ?_) | (with_reducible refine fineT_bind ?_ (fun _ => ?_)) | (with_reducible refine fineT_ite ?_ ?_) | split | (intro _) | (dsimp only))
theorem fine_sameAddr (a b : Addr) : FineT P (sameAddr a b) := by
  unfold sameAddr
  repeat' (first | (with_reducible exact fine_mayBeOne _ _) | (with_reducible exact fine_noView _) | (with_reducible exact fineT_pure _) | (with_reducible exact fineT_stuck _) | (with_reducible exact fineT_unsupported _) | (with_reducible exact fineT_frozen _) | (with_reducible exact fineT_choose _) | (with_reducible exact fineT_noRoom) | (with_reducible exact trivial) | (with_reducible refine fineT_map _ ?_) | (with_reducible refine fineT_bind ?_ (fun _ => ?_)) | (with_reducible refine fineT_ite ?_ ?_) | split | (intro _) | (dsimp only))
theorem fine_samePointer (a b : Option Addr) : FineT P (samePointer a b) := by
  unfold samePointer
  repeat' (first | (with_reducible exact fine_sameAddr _ _) | (with_reducible exact fineT_pure _) | (with_reducible exact fineT_stuck _) | (with_reducible exact fineT_unsupported _) | (with_reducible exact fineT_noRoom) | (with_reducible exact trivial) | (with_reducible refine fineT_map _ ?_) | (with_reducible refine fineT_bind ?_ (fun _ => ?_)) | (with_reducible refine fineT_ite ?_ ?_) | split | (intro _) | (dsimp only))
theorem fine_typeStr (t : TypeId) : FineT P (typeStr t) := by
  unfold typeStr
  repeat' (first | (with_reducible exact fine_typeInfo _) | (with_reducible exact fineT_pure _) | (with_reducible exact fineT_stuck _) | (with_reducible exact fineT_unsupported _) | (with_reducible exact fineT_noRoom) | (with_reducible exact trivial) | (with_reducible refine fineT_map _ ?_) | (with_reducible refine fineT_bind ?_ (fun _ => ?_)) | (with_reducible refine fineT_ite ?_ ?_) | split | (intro _) | (dsimp only))
theorem fine_byteOf (a : Addr) : FineT P (byteOf a) := by
  unfold byteOf
  repeat' (first | (with_reducible exact fine_noView _) | (with_reducible exact fineT_pure _) | (with_reducible exact fineT_stuck _) | (with_reducible exact fineT_unsupported _) | (with_reducible exact fineT_shape _) | (with_reducible exact fineT_program) | (with_reducible exact fineT_noRoom) | (with_reducible exact trivial) | (with_reducible refine fineT_map _ ?_) | (with_reducible refine fineT_bind ?_ (fun _ => ?_)) | (with_reducible refine fineT_ite ?_ ?_) | split | (intro _) | (dsimp only))
theorem fine_partAt (a : Addr) (c b : Nat) : FineT P (partAt a c b) := by
  unfold partAt
  repeat' (first | (with_reducible exact fine_byteOf _) | (with_reducible exact fineT_pure _) | (with_reducible exact fineT_stuck _) | (with_reducible exact fineT_unsupported _) | (with_reducible exact fineT_noRoom) | (with_reducible exact trivial) | (with_reducible refine fineT_map _ ?_) | (with_reducible refine fineT_bind ?_ (fun _ => ?_)) | (with_reducible refine fineT_ite ?_ ?_) | split | (intro _) | (dsimp only))
theorem fine_fieldPlace (a : Addr) (f : Field) : FineT P (fieldPlace a f) := by
  unfold fieldPlace
  repeat' (first | (with_reducible exact fine_partAt _ _ _) | (with_reducible exact fine_sizeOf _) | (with_reducible exact fineT_pure _) | (with_reducible exact fineT_stuck _) | (with_reducible exact fineT_unsupported _) | (with_reducible exact fineT_noRoom) | (with_reducible exact trivial) | (with_reducible refine fineT_map _ ?_) | (with_reducible refine fineT_bind ?_ (fun _ => ?_)) | (with_reducible refine fineT_ite ?_ ?_) | split | (intro _) | (dsimp only))
theorem fine_alloc (t : TypeId) (b : Bool) (v : Value) : FineT P (Instr.alloc t b v) := by
  unfold Instr.alloc
  repeat' (first | (with_reducible exact fine_newVar _ _) | (with_reducible exact fine_storeVar _ _ _) | (with_reducible exact fine_zeroValue _) | (with_reducible exact fineT_pure _) | (with_reducible exact fineT_stuck _) | (with_reducible exact fineT_unsupported _) | (with_reducible exact fineT_noRoom) | (with_reducible exact trivial) | (with_reducible refine fineT_map _ ?_) | (with_reducible refine fineT_bind ?_ (fun _ => ?_)) | (with_reducible refine fineT_ite ?_ ?_) | split | (intro _) | (dsimp only))
theorem fine_box (t : TypeId) (v : Value) : FineT P (Instr.box t v) := by
  unfold Instr.box
  repeat' (first | (with_reducible exact fine_newVar _ _) | (with_reducible exact fineT_pure _) | (with_reducible exact fineT_stuck _) | (with_reducible exact fineT_unsupported _) | (with_reducible exact fineT_noRoom) | (with_reducible exact trivial) | (with_reducible refine fineT_map _ ?_) | (with_reducible refine fineT_bind ?_ (fun _ => ?_)) | (with_reducible refine fineT_ite ?_ ?_) | split | (intro _) | (dsimp only))
theorem fine_sureAddr (v : Value) : FineT P (Instr.sureAddr v) := by
  unfold Instr.sureAddr
  repeat' (first | (with_reducible exact fineT_pure _) | (with_reducible exact fineT_stuck _) | (with_reducible exact fineT_unsupported _) | (with_reducible exact fineT_noRoom) | (with_reducible exact trivial) | (with_reducible refine fineT_map _ ?_) | (with_reducible refine fineT_bind ?_ (fun _ => ?_)) | (with_reducible refine fineT_ite ?_ ?_) | split | (intro _) | (dsimp only))
theorem fine_loadAt (t : TypeId) (v : Value) : FineT P (Instr.loadAt t v) := by
  unfold Instr.loadAt
  repeat' (first | (with_reducible exact fine_sureAddr _) | (with_reducible exact fine_loadVar _ _) | (with_reducible exact fineT_pure _) | (with_reducible exact fineT_stuck _) | (with_reducible exact fineT_unsupported _) | (with_reducible exact fineT_noRoom) | (with_reducible exact trivial) | (with_reducible refine fineT_map _ ?_) | (with_reducible refine fineT_bind ?_ (fun _ => ?_)) | (with_reducible refine fineT_ite ?_ ?_) | split | (intro _) | (dsimp only))
theorem fine_storeAt (t : TypeId) (a v : Value) : FineT P (Instr.storeAt t a v) := by
  unfold Instr.storeAt
  repeat' (first | (with_reducible exact fine_sureAddr _) | (with_reducible exact fine_storeVar _ _ _) | (with_reducible exact fineT_pure _) | (with_reducible exact fineT_stuck _) | (with_reducible exact fineT_unsupported _) | (with_reducible exact fineT_noRoom) | (with_reducible exact trivial) | (with_reducible refine fineT_map _ ?_) | (with_reducible refine fineT_bind ?_ (fun _ => ?_)) | (with_reducible refine fineT_ite ?_ ?_) | split | (intro _) | (dsimp only))
theorem fine_fieldAt (t : TypeId) (a : Value) (f : Nat) : FineT P (Instr.fieldAt t a f) := by
  unfold Instr.fieldAt
  repeat' (first | (with_reducible exact fine_sureAddr _) | (with_reducible exact fine_fieldPlace _ _) | (with_reducible exact fine_underlying _) | (with_reducible exact fineT_pure _) | (with_reducible exact fineT_stuck _) | (with_reducible exact fineT_unsupported _) | (with_reducible exact fineT_noRoom) | (with_reducible exact trivial) | (with_reducible refine fineT_map _ ?_) | (with_reducible refine fineT_bind ?_ (fun _ => ?_)) | (with_reducible refine fineT_ite ?_ ?_) | split | (intro _) | (dsimp only))
theorem fine_indexAt (t : TypeId) (a v : Value) : FineT P (Instr.indexAt t a v) := by
  unfold Instr.indexAt
  repeat' (first | (with_reducible exact fine_sureAddr _) | (with_reducible exact fine_asIntOf _) | (with_reducible exact fine_boundsPanic _ _ _ _) | (with_reducible exact fine_sizeOf _) | (with_reducible exact fine_underlying _) | (with_reducible exact fineT_pure _) | (with_reducible exact fineT_stuck _) | (with_reducible exact fineT_unsupported _) | (with_reducible exact fineT_noRoom) | (with_reducible exact trivial) | (with_reducible refine fineT_map _ ?_) | (with_reducible refine fineT_bind ?_ (fun _ => ?_)) | (with_reducible refine fineT_ite ?_ ?_) | split | (intro _) | (dsimp only))
theorem fine_extract (v : Value) (i : Nat) : FineT P (Instr.extract v i) := by
  unfold Instr.extract
  repeat' (first | (with_reducible exact fineT_pure _) | (with_reducible exact fineT_stuck _) | (with_reducible exact fineT_unsupported _) | (with_reducible exact fineT_noRoom) | (with_reducible exact trivial) | (with_reducible refine fineT_map _ ?_) | (with_reducible refine fineT_bind ?_ (fun _ => ?_)) | (with_reducible refine fineT_ite ?_ ?_) | split | (intro _) | (dsimp only))
theorem fine_index (t : TypeId) (a v : Value) : FineT P (Instr.index t a v) := by
  unfold Instr.index
  repeat' (first | (with_reducible exact fine_asIntOf _) | (with_reducible exact fine_boundsPanic _ _ _ _) | (with_reducible exact fine_part _ _ _) | (with_reducible exact fine_sizeOf _) | (with_reducible exact fine_underlying _) | (with_reducible exact fineT_pure _) | (with_reducible exact fineT_stuck _) | (with_reducible exact fineT_unsupported _) | (with_reducible exact fineT_noRoom) | (with_reducible exact trivial) | (with_reducible refine fineT_map _ ?_) | (with_reducible refine fineT_bind ?_ (fun _ => ?_)) | (with_reducible refine fineT_ite ?_ ?_) | split | (intro _) | (dsimp only))
theorem fine_makeSlice (t : TypeId) (a v : Value) : FineT P (Instr.makeSlice t a v) := by
  unfold Instr.makeSlice
  repeat' (first | (with_reducible exact fine_asInt _) | (with_reducible exact fine_runtimePanic _) | (with_reducible exact fine_newRow _ _) | (with_reducible exact fine_sizeOf _) | (with_reducible exact fine_zeroValue _) | (with_reducible exact fine_underlying _) | (with_reducible exact fine_typeInfo _) | (with_reducible exact fineT_pure _) | (with_reducible exact fineT_stuck _) | (with_reducible exact fineT_unsupported _) | (with_reducible exact fineT_choose _) | (with_reducible exact fineT_askRoom _) | (with_reducible exact fineT_noRoom) | (with_reducible exact trivial) | (with_reducible refine fineT_map _ ?_) | (with_reducible refine fineT_bind ?_ (fun _ => ?_)) | (with_reducible refine fineT_ite ?_ ?_) | split | (intro _) | (dsimp only))
theorem fine_sliceBound (x : Value) (y : Nat) (c : BoundsCode) : FineT P (Instr.sliceBound x y c) := by
  unfold Instr.sliceBound
  repeat' (first | (with_reducible exact fine_asIntOf _) | (with_reducible exact fine_boundsPanic _ _ _ _) | (with_reducible exact fineT_pure _) | (with_reducible exact fineT_stuck _) | (with_reducible exact fineT_unsupported _) | (with_reducible exact fineT_noRoom) | (with_reducible exact trivial) | (with_reducible refine fineT_map _ ?_) | (with_reducible refine fineT_bind ?_ (fun _ => ?_)) | (with_reducible refine fineT_ite ?_ ?_) | split | (intro _) | (dsimp only))
theorem fine_sliceBounds (b : Bool) (l c : Nat) (x y z : Option Value) : FineT P (Instr.sliceBounds b l c x y z) := by
  unfold Instr.sliceBounds
  repeat' (first | (with_reducible exact fine_sliceBound _ _ _) | (with_reducible exact fineT_pure _) | (with_reducible exact fineT_stuck _) | (with_reducible exact fineT_unsupported _) | (with_reducible exact fineT_noRoom) | (with_reducible exact trivial) | (with_reducible refine fineT_map _ ?_) | (with_reducible refine fineT_bind ?_ (fun _ => ?_)) | (with_reducible refine fineT_ite ?_ ?_) | split | (intro _) | (dsimp only))
theorem fine_slice (t : TypeId) (a : Value) (x y z : Option Value) : FineT P (Instr.slice t a x y z) := by
  unfold Instr.slice
  repeat' (first | (with_reducible exact fine_sliceBounds _ _ _ _ _ _) | (with_reducible exact fine_extract _ _) | (with_reducible exact fine_asAddr _) | (with_reducible exact fine_sizeOf _) | (with_reducible exact fine_underlying _) | (with_reducible exact fineT_pure _) | (with_reducible exact fineT_stuck _) | (with_reducible exact fineT_unsupported _) | (with_reducible exact fineT_noRoom) | (with_reducible exact trivial) | (with_reducible refine fineT_map _ ?_) | (with_reducible refine fineT_bind ?_ (fun _ => ?_)) | (with_reducible refine fineT_ite ?_ ?_) | split | (intro _) | (dsimp only))
theorem fine_sliceAt (t : TypeId) (a : Value) (x y z : Option Value) : FineT P (Instr.sliceAt t a x y z) := by
  unfold Instr.sliceAt
  repeat' (first | (with_reducible exact fine_slice _ _ _ _ _) | (with_reducible exact fine_sliceBounds _ _ _ _ _ _) | (with_reducible exact fine_sureAddr _) | (with_reducible exact fine_sizeOf _) | (with_reducible exact fine_underlying _) | (with_reducible exact fineT_pure _) | (with_reducible exact fineT_stuck _) | (with_reducible exact fineT_unsupported _) | (with_reducible exact fineT_noRoom) | (with_reducible exact trivial) | (with_reducible refine fineT_map _ ?_) | (with_reducible refine fineT_bind ?_ (fun _ => ?_)) | (with_reducible refine fineT_ite ?_ ?_) | split | (intro _) | (dsimp only))
theorem fine_buildSlice (t : TypeId) (n : Nat) (ps : Array (Nat × Value)) : FineT P (Instr.buildSlice t n ps) := by
  unfold Instr.buildSlice
  repeat' (first | (with_reducible exact fine_slice _ _ _ _ _) | (with_reducible exact fine_part _ _ _) | (with_reducible exact fine_newRow _ _) | (with_reducible exact fine_sizeOf _) | (with_reducible exact fine_zeroValue _) | (with_reducible exact fine_underlying _) | (with_reducible exact fineT_pure _) | (with_reducible exact fineT_stuck _) | (with_reducible exact fineT_unsupported _) | (with_reducible exact fineT_noRoom) | (with_reducible exact trivial) | (with_reducible refine fineT_map _ ?_) | (with_reducible refine fineT_bind ?_ (fun _ => ?_)) | (with_reducible refine fineT_ite ?_ ?_) | split | (intro _) | (dsimp only))
theorem fine_listMapM {α β : Type} (f : α → Sem β) (hf : ∀ a, FineT P (f a)) : ∀ (l : List α), FineT P (l.mapM f) := by
  intro l
  have key : ∀ (l : List α) (acc : List β), FineT P (List.mapM.loop f l acc) := by
    intro l
    induction l with
    | nil => intro acc; unfold List.mapM.loop; exact trivial
    | cons a l ih => intro acc; unfold List.mapM.loop; exact fineT_bind (hf a) fun _ => ih _
  exact key l []
theorem fine_arrMapM {α β : Type} (f : α → Sem β) (hf : ∀ a, FineT P (f a)) (xs : Array α) : FineT P (xs.mapM f) := by
  rw [Array.mapM_eq_mapM_toList]
  exact fineT_map _ (fine_listMapM f hf _)
theorem fine_build (t : TypeId) (ps : Array (Nat × Value)) : FineT P (Instr.build t ps) := by
  unfold Instr.build
  repeat' (first | (with_reducible exact fine_arrMapM _ (fun _ => fineT_bind (fine_sizeOf _) fun _ => fineT_pure _) _) | (with_reducible exact fine_part _ _ _) | (with_reducible exact fine_sizeOf _) | (with_reducible exact fine_zeroValue _) | (with_reducible exact fine_underlying _) | (with_reducible exact fineT_pure _) | (with_reducible exact fineT_stuck _) | (with_reducible exact fineT_unsupported _) | (with_reducible exact fineT_noRoom) | (with_reducible exact trivial) | (with_reducible refine fineT_map _ ?_) | (with_reducible refine fineT_bind ?_ (fun _ => ?_)) | (with_reducible refine fineT_ite ?_ ?_) | split | (intro _) | (dsimp only))
theorem fine_intArith (o : BinOp) (k : IntKind) (x y : Int) : FineT P (Op.intArith o k x y) := by
  unfold Op.intArith
  repeat' (first | (with_reducible exact fineT_pure _) | (with_reducible exact fineT_stuck _) | (with_reducible exact fineT_unsupported _) | (with_reducible exact fineT_noRoom) | (with_reducible exact trivial) | (with_reducible refine fineT_map _ ?_) | (with_reducible refine fineT_bind ?_ (fun _ => ?_)) | (with_reducible refine fineT_ite ?_ ?_) | split | (intro _) | (dsimp only))
theorem fine_intDiv (o : BinOp) (k : IntKind) (x y : Int) : FineT P (Op.intDiv o k x y) := by
  unfold Op.intDiv
  repeat' (first | (with_reducible exact fine_runtimePanic _) | (with_reducible exact fineT_pure _) | (with_reducible exact fineT_stuck _) | (with_reducible exact fineT_unsupported _) | (with_reducible exact fineT_noRoom) | (with_reducible exact trivial) | (with_reducible refine fineT_map _ ?_) | (with_reducible refine fineT_bind ?_ (fun _ => ?_)) | (with_reducible refine fineT_ite ?_ ?_) | split | (intro _) | (dsimp only))
theorem fine_intBits (o : BinOp) (k : IntKind) (x y : Int) : FineT P (Op.intBits o k x y) := by
  unfold Op.intBits
  repeat' (first | (with_reducible exact fineT_pure _) | (with_reducible exact fineT_stuck _) | (with_reducible exact fineT_unsupported _) | (with_reducible exact fineT_noRoom) | (with_reducible exact trivial) | (with_reducible refine fineT_map _ ?_) | (with_reducible refine fineT_bind ?_ (fun _ => ?_)) | (with_reducible refine fineT_ite ?_ ?_) | split | (intro _) | (dsimp only))
theorem fine_intCmp (o : BinOp) (x y : Int) : FineT P (Op.intCmp o x y) := by
  unfold Op.intCmp
  repeat' (first | (with_reducible exact fineT_pure _) | (with_reducible exact fineT_stuck _) | (with_reducible exact fineT_unsupported _) | (with_reducible exact fineT_noRoom) | (with_reducible exact trivial) | (with_reducible refine fineT_map _ ?_) | (with_reducible refine fineT_bind ?_ (fun _ => ?_)) | (with_reducible refine fineT_ite ?_ ?_) | split | (intro _) | (dsimp only))
theorem fine_shift (o : BinOp) (k : IntKind) (x : Int) (l : IntKind) (y : Int) : FineT P (Op.shift o k x l y) := by
  unfold Op.shift
  repeat' (first | (with_reducible exact fine_runtimePanic _) | (with_reducible exact fineT_pure _) | (with_reducible exact fineT_stuck _) | (with_reducible exact fineT_unsupported _) | (with_reducible exact fineT_noRoom) | (with_reducible exact trivial) | (with_reducible refine fineT_map _ ?_) | (with_reducible refine fineT_bind ?_ (fun _ => ?_)) | (with_reducible refine fineT_ite ?_ ?_) | split | (intro _) | (dsimp only))
theorem fine_floatArith (o : BinOp) (k : FloatKind) (x y : Nat) : FineT P (Op.floatArith o k x y) := by
  unfold Op.floatArith
  repeat' (first | (with_reducible exact fineT_pure _) | (with_reducible exact fineT_stuck _) | (with_reducible exact fineT_unsupported _) | (with_reducible exact fineT_choose _) | (with_reducible exact fineT_noRoom) | (with_reducible exact trivial) | (with_reducible refine fineT_map _ ?_) | (with_reducible refine fineT_bind ?_ (fun _ => ?_)) | (with_reducible refine fineT_ite ?_ ?_) | split | (intro _) | (dsimp only))
theorem fine_floatCmp (o : BinOp) (k : FloatKind) (x y : Nat) : FineT P (Op.floatCmp o k x y) := by
  unfold Op.floatCmp
  repeat' (first | (with_reducible exact fineT_pure _) | (with_reducible exact fineT_stuck _) | (with_reducible exact fineT_unsupported _) | (with_reducible exact fineT_noRoom) | (with_reducible exact trivial) | (with_reducible refine fineT_map _ ?_) | (with_reducible refine fineT_bind ?_ (fun _ => ?_)) | (with_reducible refine fineT_ite ?_ ?_) | split | (intro _) | (dsimp only))
theorem fine_floatToFloat (k : FloatKind) (x : Nat) (l : FloatKind) : FineT P (Conv.floatToFloat k x l) := by
  unfold Conv.floatToFloat
  repeat' (first | (with_reducible exact fineT_pure _) | (with_reducible exact fineT_stuck _) | (with_reducible exact fineT_unsupported _) | (with_reducible exact fineT_choose _) | (with_reducible exact fineT_noRoom) | (with_reducible exact trivial) | (with_reducible refine fineT_map _ ?_) | (with_reducible refine fineT_bind ?_ (fun _ => ?_)) | (with_reducible refine fineT_ite ?_ ?_) | split | (intro _) | (dsimp only))
theorem fine_floatToInt (k : FloatKind) (x : Nat) (l : IntKind) : FineT P (Conv.floatToInt k x l) := by
  unfold Conv.floatToInt
  repeat' (first | (with_reducible exact fineT_pure _) | (with_reducible exact fineT_stuck _) | (with_reducible exact fineT_unsupported _) | (with_reducible exact fineT_choose _) | (with_reducible exact fineT_noRoom) | (with_reducible exact trivial) | (with_reducible refine fineT_map _ ?_) | (with_reducible refine fineT_bind ?_ (fun _ => ?_)) | (with_reducible refine fineT_ite ?_ ?_) | split | (intro _) | (dsimp only))
theorem fine_intToInt (k : IntKind) (x : Int) : FineT P (Conv.intToInt k x) := by
  unfold Conv.intToInt
  repeat' (first | (with_reducible exact fineT_pure _) | (with_reducible exact fineT_stuck _) | (with_reducible exact fineT_unsupported _) | (with_reducible exact fineT_noRoom) | (with_reducible exact trivial) | (with_reducible refine fineT_map _ ?_) | (with_reducible refine fineT_bind ?_ (fun _ => ?_)) | (with_reducible refine fineT_ite ?_ ?_) | split | (intro _) | (dsimp only))
theorem fine_carith (o : BinOp) (k : FloatKind) (x y : Nat) : FineT P (Op.Complex.arith o k x y) := by
  unfold Op.Complex.arith
  repeat' (first | (with_reducible exact fine_floatArith _ _ _ _) | (with_reducible exact fineT_pure _) | (with_reducible exact fineT_stuck _) | (with_reducible exact fineT_unsupported _) | (with_reducible exact fineT_noRoom) | (with_reducible exact trivial) | (with_reducible refine fineT_map _ ?_) | (with_reducible refine fineT_bind ?_ (fun _ => ?_)) | (with_reducible refine fineT_ite ?_ ?_) | split | (intro _) | (dsimp only))
theorem fine_ccmp (o : BinOp) (k : FloatKind) (x y : Nat) : FineT P (Op.Complex.cmp o k x y) := by
  unfold Op.Complex.cmp
  repeat' (first | (with_reducible exact fine_floatCmp _ _ _ _) | (with_reducible exact fine_asBool _) | (with_reducible exact fineT_pure _) | (with_reducible exact fineT_stuck _) | (with_reducible exact fineT_unsupported _) | (with_reducible exact fineT_noRoom) | (with_reducible exact trivial) | (with_reducible refine fineT_map _ ?_) | (with_reducible refine fineT_bind ?_ (fun _ => ?_)) | (with_reducible refine fineT_ite ?_ ?_) | split | (intro _) | (dsimp only))
theorem fine_cconv (k : FloatKind) (x : Nat) (l : FloatKind) : FineT P (Op.Complex.conv k x l) := by
  unfold Op.Complex.conv
  repeat' (first | (with_reducible exact fine_floatToFloat _ _ _) | (with_reducible exact fineT_pure _) | (with_reducible exact fineT_stuck _) | (with_reducible exact fineT_unsupported _) | (with_reducible exact fineT_noRoom) | (with_reducible exact trivial) | (with_reducible refine fineT_map _ ?_) | (with_reducible refine fineT_bind ?_ (fun _ => ?_)) | (with_reducible refine fineT_ite ?_ ?_) | split | (intro _) | (dsimp only))
theorem fine_cadd (x y : Nat) : FineT P (Op.Complex.add x y) := by
  unfold Op.Complex.add
  repeat' (first | (with_reducible exact fine_carith _ _ _ _) | (with_reducible exact fine_slice _ _ _ _ _) | (with_reducible exact fine_index _ _ _) | (with_reducible exact fineT_pure _) | (with_reducible exact fineT_stuck _) | (with_reducible exact fineT_unsupported _) | (with_reducible exact fineT_noRoom) | (with_reducible exact trivial) | (with_reducible refine fineT_map _ ?_) | (with_reducible refine fineT_bind ?_ (fun _ => ?_)) | (with_reducible refine fineT_ite ?_ ?_) | split | (intro _) | (dsimp only))
theorem fine_csub (x y : Nat) : FineT P (Op.Complex.sub x y) := by
  unfold Op.Complex.sub
  repeat' (first | (with_reducible exact fine_carith _ _ _ _) | (with_reducible exact fineT_pure _) | (with_reducible exact fineT_stuck _) | (with_reducible exact fineT_unsupported _) | (with_reducible exact fineT_noRoom) | (with_reducible exact trivial) | (with_reducible refine fineT_map _ ?_) | (with_reducible refine fineT_bind ?_ (fun _ => ?_)) | (with_reducible refine fineT_ite ?_ ?_) | split | (intro _) | (dsimp only))
theorem fine_cmul (x y : Nat) : FineT P (Op.Complex.mul x y) := by
  unfold Op.Complex.mul
  repeat' (first | (with_reducible exact fine_carith _ _ _ _) | (with_reducible exact fineT_pure _) | (with_reducible exact fineT_stuck _) | (with_reducible exact fineT_unsupported _) | (with_reducible exact fineT_noRoom) | (with_reducible exact trivial) | (with_reducible refine fineT_map _ ?_) | (with_reducible refine fineT_bind ?_ (fun _ => ?_)) | (with_reducible refine fineT_ite ?_ ?_) | split | (intro _) | (dsimp only))
theorem fine_cquo (x y : Nat) : FineT P (Op.Complex.quo x y) := by
  unfold Op.Complex.quo
  repeat' (first | (with_reducible exact fine_carith _ _ _ _) | (with_reducible exact fineT_pure _) | (with_reducible exact fineT_stuck _) | (with_reducible exact fineT_unsupported _) | (with_reducible exact fineT_noRoom) | (with_reducible exact trivial) | (with_reducible refine fineT_map _ ?_) | (with_reducible refine fineT_bind ?_ (fun _ => ?_)) | (with_reducible refine fineT_ite ?_ ?_) | split | (intro _) | (dsimp only))
theorem fine_cproduct (a b c d : Nat) : FineT P (Op.Complex.product a b c d) := by
  unfold Op.Complex.product
  repeat' (first | (with_reducible exact fine_cmul _ _) | (with_reducible exact fine_csub _ _) | (with_reducible exact fine_cadd _ _) | (with_reducible exact fineT_pure _) | (with_reducible exact fineT_stuck _) | (with_reducible exact fineT_unsupported _) | (with_reducible exact fineT_noRoom) | (with_reducible exact trivial) | (with_reducible refine fineT_map _ ?_) | (with_reducible refine fineT_bind ?_ (fun _ => ?_)) | (with_reducible refine fineT_ite ?_ ?_) | split | (intro _) | (dsimp only))
theorem fine_ccorrected (s a b c d : Nat) : FineT P (Op.Complex.corrected s a b c d) := by
  unfold Op.Complex.corrected
  repeat' (first | (with_reducible exact fine_cmul _ _) | (with_reducible exact fine_csub _ _) | (with_reducible exact fine_cadd _ _) | (with_reducible exact fineT_pure _) | (with_reducible exact fineT_stuck _) | (with_reducible exact fineT_unsupported _) | (with_reducible exact fineT_noRoom) | (with_reducible exact trivial) | (with_reducible refine fineT_map _ ?_) | (with_reducible refine fineT_bind ?_ (fun _ => ?_)) | (with_reducible refine fineT_ite ?_ ?_) | split | (intro _) | (dsimp only))
theorem fine_cquotient (a b c d : Nat) : FineT P (Op.Complex.quotient a b c d) := by
  unfold Op.Complex.quotient
  repeat' (first | (with_reducible exact fine_ccorrected _ _ _ _ _) | (with_reducible exact fine_cquo _ _) | (with_reducible exact fine_cmul _ _) | (with_reducible exact fine_csub _ _) | (with_reducible exact fine_cadd _ _) | (with_reducible exact fine_ccmp _ _ _ _) | (with_reducible exact fineT_pure _) | (with_reducible exact fineT_stuck _) | (with_reducible exact fineT_unsupported _) | (with_reducible exact fineT_noRoom) | (with_reducible exact trivial) | (with_reducible refine fineT_map _ ?_) | (with_reducible refine fineT_bind ?_ (fun _ => ?_)) | (with_reducible refine fineT_ite ?_ ?_) | split | (intro _) | (dsimp only))
theorem fine_complexOp (o : BinOp) (k : FloatKind) (a b c d : Nat) : FineT P (Op.complexOp o k a b c d) := by
  unfold Op.complexOp
  repeat' (first | (with_reducible exact fine_cquotient _ _ _ _) | (with_reducible exact fine_cproduct _ _ _ _) | (with_reducible exact fine_cquo _ _) | (with_reducible exact fine_cmul _ _) | (with_reducible exact fine_csub _ _) | (with_reducible exact fine_cadd _ _) | (with_reducible exact fine_cconv _ _ _) | (with_reducible exact fine_ccmp _ _ _ _) | (with_reducible exact fine_carith _ _ _ _) | (with_reducible exact fineT_pure _) | (with_reducible exact fineT_stuck _) | (with_reducible exact fineT_unsupported _) | (with_reducible exact fineT_noRoom) | (with_reducible exact trivial) | (with_reducible refine fineT_map _ ?_) | (with_reducible refine fineT_bind ?_ (fun _ => ?_)) | (with_reducible refine fineT_ite ?_ ?_) | split | (intro _) | (dsimp only))
theorem fine_stringOp (o : BinOp) (x y : ByteArray) : FineT P (Op.stringOp o x y) := by
  unfold Op.stringOp
  repeat' (first | (with_reducible exact fine_cadd _ _) | (with_reducible exact fineT_pure _) | (with_reducible exact fineT_stuck _) | (with_reducible exact fineT_unsupported _) | (with_reducible exact fineT_noRoom) | (with_reducible exact trivial) | (with_reducible refine fineT_map _ ?_) | (with_reducible refine fineT_bind ?_ (fun _ => ?_)) | (with_reducible refine fineT_ite ?_ ?_) | split | (intro _) | (dsimp only))
theorem fine_unary (o : UnOp) (x : Value) : FineT P (Op.unary o x) := by
  unfold Op.unary
  repeat' (first | (with_reducible exact fine_csub _ _) | (with_reducible exact fine_intBits _ _ _ _) | (with_reducible exact fine_intArith _ _ _ _) | (with_reducible exact fineT_pure _) | (with_reducible exact fineT_stuck _) | (with_reducible exact fineT_unsupported _) | (with_reducible exact fineT_noRoom) | (with_reducible exact trivial) | (with_reducible refine fineT_map _ ?_) | (with_reducible refine fineT_bind ?_ (fun _ => ?_)) | (with_reducible refine fineT_ite ?_ ?_) | split | (intro _) | (dsimp only))
theorem fine_twoPlaces (a b : Addr) : FineT P (Op.twoPlaces a b) := by
  unfold Op.twoPlaces
  repeat' (first | (with_reducible exact fine_byteOf _) | (with_reducible exact fineT_pure _) | (with_reducible exact fineT_stuck _) | (with_reducible exact fineT_unsupported _) | (with_reducible exact fineT_program) | (with_reducible exact fineT_noRoom) | (with_reducible exact trivial) | (with_reducible refine fineT_map _ ?_) | (with_reducible refine fineT_bind ?_ (fun _ => ?_)) | (with_reducible refine fineT_ite ?_ ?_) | split | (intro _) | (dsimp only))
theorem fine_addrSub (k : IntKind) (a b : Addr) : FineT P (Op.addrSub k a b) := by
  unfold Op.addrSub
  repeat' (first | (with_reducible exact fine_twoPlaces _ _) | (with_reducible exact fineT_pure _) | (with_reducible exact fineT_stuck _) | (with_reducible exact fineT_unsupported _) | (with_reducible exact fineT_noRoom) | (with_reducible exact trivial) | (with_reducible refine fineT_map _ ?_) | (with_reducible refine fineT_bind ?_ (fun _ => ?_)) | (with_reducible refine fineT_ite ?_ ?_) | split | (intro _) | (dsimp only))
theorem fine_addrCmp (o : BinOp) (a b : Addr) : FineT P (Op.addrCmp o a b) := by
  unfold Op.addrCmp
  repeat' (first | (with_reducible exact fine_twoPlaces _ _) | (with_reducible exact fineT_pure _) | (with_reducible exact fineT_stuck _) | (with_reducible exact fineT_unsupported _) | (with_reducible exact fineT_noRoom) | (with_reducible exact trivial) | (with_reducible refine fineT_map _ ?_) | (with_reducible refine fineT_bind ?_ (fun _ => ?_)) | (with_reducible refine fineT_ite ?_ ?_) | split | (intro _) | (dsimp only))
theorem fine_addrMod (k : IntKind) (a : Addr) (n : Int) : FineT P (Op.addrMod k a n) := by
  unfold Op.addrMod
  repeat' (first | (with_reducible exact fine_byteOf _) | (with_reducible exact fine_typeInfo _) | (with_reducible exact fineT_pure _) | (with_reducible exact fineT_stuck _) | (with_reducible exact fineT_unsupported _) | (with_reducible exact fineT_shape _) | (with_reducible exact fineT_noRoom) | (with_reducible exact trivial) | (with_reducible refine fineT_map _ ?_) | (with_reducible refine fineT_bind ?_ (fun _ => ?_)) | (with_reducible refine fineT_ite ?_ ?_) | split | (intro _) | (dsimp only))
theorem fine_unsafeAdd (as : Array TypeId) (t : TypeId) (xs : Array Value) : FineT P (Builtin.unsafeAdd_ as t xs) := by
  unfold Builtin.unsafeAdd_
  rcases xs with ⟨_ | ⟨a, _ | ⟨b, _ | ⟨c, l⟩⟩⟩⟩ <;> first | exact trivial | (cases a <;> first | exact trivial | (refine fineT_bind (e := asInt b) (fine_asInt b) (fun n => ?_); repeat' (first | (with_reducible exact fine_viewAt _) | (with_reducible exact fine_asInt _) | (with_reducible exact fineT_pure _) | (with_reducible exact fineT_stuck _) | (with_reducible exact fineT_unsupported _) | (with_reducible exact fineT_shape _) | (with_reducible exact fineT_program) | (with_reducible exact fineT_noRoom) | (with_reducible exact trivial) | (with_reducible refine fineT_map _ ?_) | (with_reducible refine fineT_bind ?_ (fun _ => ?_)) | (with_reducible refine fineT_ite ?_ ?_) | split | (intro _) | (dsimp only))))
theorem fine_movedNumber (t : TypeId) (x y : Value) : FineT P (movedNumber t x y) := by
  unfold movedNumber
  repeat' (first | (with_reducible exact fine_unsafeAdd _ _ _) | (with_reducible exact fine_behindNumber _) | (with_reducible exact fine_asNumber _ _) | (with_reducible exact fine_underlying _) | (with_reducible exact fineT_pure _) | (with_reducible exact fineT_stuck _) | (with_reducible exact fineT_unsupported _) | (with_reducible exact fineT_noRoom) | (with_reducible exact trivial) | (with_reducible refine fineT_map _ ?_) | (with_reducible refine fineT_bind ?_ (fun _ => ?_)) | (with_reducible refine fineT_ite ?_ ?_) | split | (intro _) | (dsimp only))
theorem fine_movedPointer (t : TypeId) (x y : Value) : FineT P (movedPointer t x y) := by
  unfold movedPointer
  repeat' (first | (with_reducible exact fine_unsafeAdd _ _ _) | (with_reducible exact fine_numberAt _) | (with_reducible exact fineT_pure _) | (with_reducible exact fineT_stuck _) | (with_reducible exact fineT_unsupported _) | (with_reducible exact fineT_noRoom) | (with_reducible exact trivial) | (with_reducible refine fineT_map _ ?_) | (with_reducible refine fineT_bind ?_ (fun _ => ?_)) | (with_reducible refine fineT_ite ?_ ?_) | split | (intro _) | (dsimp only))
theorem fine_forInList {α β : Type} (f : α → β → Sem (ForInStep β)) (hf : ∀ a b, FineT P (f a b)) : ∀ (l : List α) (b : β), FineT P (forIn l b f) := by
  intro l
  induction l with
  | nil => intro b; exact trivial
  | cons a l ih =>
    intro b
    rw [List.forIn_cons]
    refine fineT_bind (hf _ _) fun r => ?_
    cases r with
    | done b => exact trivial
    | yield b => exact ih b
theorem fine_forInArr {α β : Type} (f : α → β → Sem (ForInStep β)) (hf : ∀ a b, FineT P (f a b)) (xs : Array α) (b : β) : FineT P (forIn xs b f) := by
  rw [← Array.forIn_toList]
  exact fine_forInList f hf _ _
theorem fine_forInRange {β : Type} (f : Nat → β → Sem (ForInStep β)) (hf : ∀ a b, FineT P (f a b)) (r : Std.Legacy.Range) (b : β) : FineT P (forIn r b f) := by
  rw [Std.Legacy.Range.forIn_eq_forIn_range']
  exact fine_forInList f hf _ _
theorem fine_equalIn : ∀ (d : Nat) (t : TypeId) (x y : Value), FineT P (Op.equalIn d t x y) := by
  intro d
  induction d with
  | zero => intros; unfold Op.equalIn; exact trivial
  | succ d ih =>
    intros
    unfold Op.equalIn
    repeat' (first | (with_reducible exact ih _ _ _) | (with_reducible exact fine_slice _ _ _ _ _) | (with_reducible exact fine_byteOf _) | (with_reducible exact fine_typeStr _) | (with_reducible exact fine_samePointer _ _) | (with_reducible exact fine_sameAddr _ _) | (with_reducible exact fine_behindNumber _) | (with_reducible exact fine_runtimePanic _) | (with_reducible exact fine_part _ _ _) | (with_reducible exact fine_sizeOf _) | (with_reducible exact fine_underlying _) | (with_reducible exact fine_typeInfo _) | (with_reducible exact fineT_pure _) | (with_reducible exact fineT_stuck _) | (with_reducible exact fineT_unsupported _) | (with_reducible exact fineT_choose _) | (with_reducible exact fineT_program) | (with_reducible exact fineT_noRoom) | (with_reducible exact trivial) | (with_reducible refine fineT_map _ ?_) | (with_reducible refine fineT_bind ?_ (fun _ => ?_)) | (with_reducible refine fineT_ite ?_ ?_) | (with_reducible refine fine_forInArr _ (fun _ _ => ?_) _ _) | (with_reducible refine fine_forInRange _ (fun _ _ => ?_) _ _) | split | (intro _) | (dsimp only))
theorem fine_eqGuardIn : ∀ (d : Nat) (t : TypeId) (x y : Value), FineT P (Op.eqGuardIn d t x y) := by
  intro d
  induction d with
  | zero => intros; unfold Op.eqGuardIn; exact trivial
  | succ d ih =>
    intros
    unfold Op.eqGuardIn
    repeat' (first | (with_reducible exact ih _ _ _) | (with_reducible exact fine_part _ _ _) | (with_reducible exact fine_sizeOf _) | (with_reducible exact fine_underlying _) | (with_reducible exact fineT_pure _) | (with_reducible exact fineT_stuck _) | (with_reducible exact fineT_unsupported _) | (with_reducible exact fineT_noRoom) | (with_reducible exact trivial) | (with_reducible refine fineT_map _ ?_) | (with_reducible refine fineT_bind ?_ (fun _ => ?_)) | (with_reducible refine fineT_ite ?_ ?_) | (with_reducible refine fine_forInArr _ (fun _ _ => ?_) _ _) | (with_reducible refine fine_forInRange _ (fun _ _ => ?_) _ _) | split | (intro _) | (dsimp only))
theorem fine_equal (t : TypeId) (x y : Value) : FineT P (Op.equal t x y) := by
  unfold Op.equal
  repeat' (first | (with_reducible exact fine_equalIn _ _ _ _) | (with_reducible exact fineT_pure _) | (with_reducible exact fineT_stuck _) | (with_reducible exact fineT_unsupported _) | (with_reducible exact fineT_noRoom) | (with_reducible exact trivial) | (with_reducible refine fineT_map _ ?_) | (with_reducible refine fineT_bind ?_ (fun _ => ?_)) | (with_reducible refine fineT_ite ?_ ?_) | split | (intro _) | (dsimp only))
theorem fine_eqGuard (o : BinOp) (t : TypeId) (x y : Operand) (a b : Value) : FineT P (eqGuard o t x y a b) := by
  unfold eqGuard
  repeat' (first | (with_reducible exact fine_eqGuardIn _ _ _ _) | (with_reducible exact fine_part _ _ _) | (with_reducible exact fineT_pure _) | (with_reducible exact fineT_stuck _) | (with_reducible exact fineT_unsupported _) | (with_reducible exact fineT_program) | (with_reducible exact fineT_noRoom) | (with_reducible exact trivial) | (with_reducible refine fineT_map _ ?_) | (with_reducible refine fineT_bind ?_ (fun _ => ?_)) | (with_reducible refine fineT_ite ?_ ?_) | split | (intro _) | (dsimp only))
theorem fine_binOp (o : BinOp) (t : TypeId) (x y : Value) : FineT P (binOp o t x y) := by
  unfold binOp
  repeat' (first | (with_reducible exact fine_equal _ _ _) | (with_reducible exact fine_movedPointer _ _ _) | (with_reducible exact fine_movedNumber _ _ _) | (with_reducible exact fine_addrMod _ _ _) | (with_reducible exact fine_addrCmp _ _ _) | (with_reducible exact fine_addrSub _ _ _) | (with_reducible exact fine_stringOp _ _ _) | (with_reducible exact fine_complexOp _ _ _ _ _ _) | (with_reducible exact fine_cquo _ _) | (with_reducible exact fine_cmul _ _) | (with_reducible exact fine_csub _ _) | (with_reducible exact fine_cadd _ _) | (with_reducible exact fine_floatCmp _ _ _ _) | (with_reducible exact fine_floatArith _ _ _ _) | (with_reducible exact fine_shift _ _ _ _ _) | (with_reducible exact fine_intCmp _ _ _) | (with_reducible exact fine_intBits _ _ _ _) | (with_reducible exact fine_intDiv _ _ _ _) | (with_reducible exact fine_intArith _ _ _ _) | (with_reducible exact fine_behindNumber _) | (with_reducible exact fine_underlying _) | (with_reducible exact fineT_pure _) | (with_reducible exact fineT_stuck _) | (with_reducible exact fineT_unsupported _) | (with_reducible exact fineT_noRoom) | (with_reducible exact trivial) | (with_reducible refine fineT_map _ ?_) | (with_reducible refine fineT_bind ?_ (fun _ => ?_)) | (with_reducible refine fineT_ite ?_ ?_) | split | (intro _) | (dsimp only))
theorem fine_holdsCells (a : Addr) (n : Nat) : FineT P (Builtin.holdsCells a n) := by
  unfold Builtin.holdsCells
  repeat' (first | (with_reducible exact fineT_pure _) | (with_reducible exact fineT_stuck _) | (with_reducible exact fineT_unsupported _) | (with_reducible exact fineT_shape _) | (with_reducible exact fineT_noRoom) | (with_reducible exact trivial) | (with_reducible refine fineT_map _ ?_) | (with_reducible refine fineT_bind ?_ (fun _ => ?_)) | (with_reducible refine fineT_ite ?_ ?_) | split | (intro _) | (dsimp only))
theorem fine_mayShare (a b c : Nat) (x : Option Addr) (v : Value) : FineT P (Builtin.mayShare a b c x v) := by
  unfold Builtin.mayShare
  repeat' (first | (with_reducible exact fine_holdsCells _ _) | (with_reducible exact fine_cadd _ _) | (with_reducible exact fine_slice _ _ _ _ _) | (with_reducible exact fineT_pure _) | (with_reducible exact fineT_stuck _) | (with_reducible exact fineT_unsupported _) | (with_reducible exact fineT_frozen _) | (with_reducible exact fineT_noRoom) | (with_reducible exact trivial) | (with_reducible refine fineT_map _ ?_) | (with_reducible refine fineT_bind ?_ (fun _ => ?_)) | (with_reducible refine fineT_ite ?_ ?_) | split | (intro _) | (dsimp only))
theorem fine_lenOf (v : Value) : FineT P (Builtin.lenOf v) := by
  unfold Builtin.lenOf
  repeat' (first | (with_reducible exact fine_slice _ _ _ _ _) | (with_reducible exact fineT_pure _) | (with_reducible exact fineT_stuck _) | (with_reducible exact fineT_unsupported _) | (with_reducible exact fineT_noRoom) | (with_reducible exact trivial) | (with_reducible refine fineT_map _ ?_) | (with_reducible refine fineT_bind ?_ (fun _ => ?_)) | (with_reducible refine fineT_ite ?_ ?_) | split | (intro _) | (dsimp only))
theorem fine_firstCells (a b : Nat) (v : Value) : FineT P (Builtin.firstCells a b v) := by
  unfold Builtin.firstCells
  repeat' (first | (with_reducible exact fine_slice _ _ _ _ _) | (with_reducible exact fine_extract _ _) | (with_reducible exact fine_loadCells _ _) | (with_reducible exact fineT_pure _) | (with_reducible exact fineT_stuck _) | (with_reducible exact fineT_unsupported _) | (with_reducible exact fineT_noRoom) | (with_reducible exact trivial) | (with_reducible refine fineT_map _ ?_) | (with_reducible refine fineT_bind ?_ (fun _ => ?_)) | (with_reducible refine fineT_ite ?_ ?_) | split | (intro _) | (dsimp only))
theorem fine_append (as : Array TypeId) (t : TypeId) (xs : Array Value) : FineT P (Builtin.append_ as t xs) := by
  unfold Builtin.append_
  repeat' (first | (with_reducible exact fine_firstCells _ _ _) | (with_reducible exact fine_lenOf _) | (with_reducible exact fine_mayShare _ _ _ _ _) | (with_reducible exact fine_cadd _ _) | (with_reducible exact fine_slice _ _ _ _ _) | (with_reducible exact fine_asInt _) | (with_reducible exact fine_runtimePanic _) | (with_reducible exact fine_newRow _ _) | (with_reducible exact fine_storeCells _ _ _) | (with_reducible exact fine_sizeOf _) | (with_reducible exact fine_zeroValue _) | (with_reducible exact fine_underlying _) | (with_reducible exact fine_typeInfo _) | (with_reducible exact fineT_pure _) | (with_reducible exact fineT_stuck _) | (with_reducible exact fineT_unsupported _) | (with_reducible exact fineT_choose _) | (with_reducible exact fineT_askRoom _) | (with_reducible exact fineT_noRoom) | (with_reducible exact trivial) | (with_reducible refine fineT_map _ ?_) | (with_reducible refine fineT_bind ?_ (fun _ => ?_)) | (with_reducible refine fineT_ite ?_ ?_) | split | (intro _) | (dsimp only))
theorem fine_len (as : Array TypeId) (t : TypeId) (xs : Array Value) : FineT P (Builtin.len_ as t xs) := by
  unfold Builtin.len_
  repeat' (first | (with_reducible exact fine_slice _ _ _ _ _) | (with_reducible exact fine_underlying _) | (with_reducible exact fineT_pure _) | (with_reducible exact fineT_stuck _) | (with_reducible exact fineT_unsupported _) | (with_reducible exact fineT_getObj _) | (with_reducible exact fineT_noRoom) | (with_reducible exact trivial) | (with_reducible refine fineT_map _ ?_) | (with_reducible refine fineT_bind ?_ (fun _ => ?_)) | (with_reducible refine fineT_ite ?_ ?_) | split | (intro _) | (dsimp only))
theorem fine_min2 (x y : Value) : FineT P (Builtin.min2 x y) := by
  unfold Builtin.min2
  repeat' (first | (with_reducible exact fine_stringOp _ _ _) | (with_reducible exact fine_asBool _) | (with_reducible exact fineT_pure _) | (with_reducible exact fineT_stuck _) | (with_reducible exact fineT_unsupported _) | (with_reducible exact fineT_choose _) | (with_reducible exact fineT_noRoom) | (with_reducible exact trivial) | (with_reducible refine fineT_map _ ?_) | (with_reducible refine fineT_bind ?_ (fun _ => ?_)) | (with_reducible refine fineT_ite ?_ ?_) | split | (intro _) | (dsimp only))
theorem fine_foldlM {α β : Type} (f : β → α → Sem β) (hf : ∀ a b, FineT P (f a b)) : ∀ (l : List α) (b : β), FineT P (l.foldlM f b) := by
  intro l
  induction l with
  | nil => intro b; exact trivial
  | cons a l ih => intro b; rw [List.foldlM_cons]; exact fineT_bind (hf _ _) fun _ => ih _
theorem fine_min (as : Array TypeId) (t : TypeId) (xs : Array Value) : FineT P (Builtin.min_ as t xs) := by
  unfold Builtin.min_
  split
  · exact trivial
  · exact fine_foldlM _ (fun _ _ => fine_min2 _ _) _ _
theorem fine_followBlind : ∀ (p : List FieldStep) (t : TypeId) (x : Option Value), FineT P (followBlind p t x) := by
  intro p
  induction p with
  | nil => intros; unfold followBlind; exact trivial
  | cons s p ih =>
    intros
    unfold followBlind
    repeat' (first | (with_reducible exact ih _ _) | (with_reducible exact fine_index _ _ _) | (with_reducible exact fine_part _ _ _) | (with_reducible exact fine_underlying _) | (with_reducible exact fineT_pure _) | (with_reducible exact fineT_stuck _) | (with_reducible exact fineT_unsupported _) | (with_reducible exact fineT_noRoom) | (with_reducible exact trivial) | (with_reducible refine fineT_map _ ?_) | (with_reducible refine fineT_bind ?_ (fun _ => ?_)) | (with_reducible refine fineT_ite ?_ ?_) | split | (intro _) | (dsimp only))
theorem fine_nilAhead : ∀ (d : Nat) (t : TypeId) (v : Value) (s : String), FineT P (nilAhead d t v s) := by
  intro d
  induction d with
  | zero => intros; unfold nilAhead; exact trivial
  | succ d ih =>
    intros
    unfold nilAhead
    repeat' (first | (with_reducible exact ih _ _ _) | (with_reducible exact fine_followBlind _ _ _) | (with_reducible exact fine_underlying _) | (with_reducible exact fine_typeInfo _) | (with_reducible exact fineT_pure _) | (with_reducible exact fineT_stuck _) | (with_reducible exact fineT_unsupported _) | (with_reducible exact fineT_noRoom) | (with_reducible exact trivial) | (with_reducible refine fineT_map _ ?_) | (with_reducible refine fineT_bind ?_ (fun _ => ?_)) | (with_reducible refine fineT_ite ?_ ?_) | split | (intro _) | (dsimp only))
end
end Go.Proofs.Ytnbgfffcialfkaa
