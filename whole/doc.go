// Package whole has no code of its own: its tests hold the promises of the whole (W1 to W9) of many grammars, each made by chance from a fixed beginning.
package whole
