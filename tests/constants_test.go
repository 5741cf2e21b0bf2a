package tests

import (
	"testing"

	"loop.example/pergola/impl"
)

// The table of limits, kinds and codes of all chapters.
func TestConstants(t *testing.T) {
	for i, c := range [][2]int{{impl.TextMax, 40}, {impl.ListMax, 12}, {impl.DeepMax, 6}, {impl.NumMax, 2147483647}, {impl.JsonMax, 2000}, {impl.DefMax, 10}, {impl.FieldMax, 8}, {impl.ArgMax, 4},
		{impl.IsNull, 0}, {impl.IsBool, 1}, {impl.IsNum, 2}, {impl.IsText, 3}, {impl.IsList, 4}, {impl.IsTree, 5}, {impl.IsVar, 6}, {impl.IsWord, 7},
		{impl.DefObject, 1}, {impl.DefEnum, 2}, {impl.DefInput, 3}, {impl.DefUnion, 4},
		{impl.SchemaFine, 0}, {impl.SchemaForm, 1}, {impl.SchemaTwice, 2}, {impl.SchemaNone, 3}, {impl.SchemaPlace, 4}, {impl.SchemaRoot, 5}, {impl.SchemaElse, 6}, {impl.SchemaRound, 7},
		{impl.OpMax, 3}, {impl.SelMax, 6}, {impl.DocMax, 1500}, {impl.SelField, 1}, {impl.SelSpread, 2}, {impl.SelInline, 3},
		{impl.DocFine, 0}, {impl.DocForm, 1}, {impl.DocNames, 2}, {impl.DocPieces, 3}, {impl.DocField, 4}, {impl.DocArgs, 5}, {impl.DocVars, 6}, {impl.DocMerge, 7}, {impl.DocRoot, 8},
		{impl.NodeMax, 12}, {impl.ErrMax, 20}, {impl.ErrKind, 1}, {impl.ErrMust, 2}, {impl.ErrArgs, 3}, {impl.RunFine, 0}, {impl.RunBad, 1}, {impl.RunName, 2}, {impl.RunGiven, 3}, {impl.RunStore, 4}, {impl.HeadMax, 40},
		{impl.PatchMax, 40}, {impl.PatchAdd, 1}, {impl.PatchDrop, 2}, {impl.PatchPut, 3}, {impl.GrowFine, 0}, {impl.GrowBad, 1}, {impl.GrowDef, 2}, {impl.GrowField, 3}, {impl.GrowType, 4}, {impl.GrowArg, 5}, {impl.GrowWord, 6}, {impl.CostMax, 1000000000},
		{impl.SavedMax, 6}, {impl.CacheMax, 4}, {impl.WatchMax, 5}} {
		if c[0] != c[1] {
			t.Errorf("%d: %d, not %d", i, c[0], c[1])
		}
	}
}
